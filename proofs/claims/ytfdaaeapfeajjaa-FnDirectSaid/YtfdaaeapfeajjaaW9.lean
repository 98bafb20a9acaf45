/- Push and Pop of *places; heap.up, heap.down, heap.Push, heap.Pop. -/
import Derived.Test.YtfdaaeapfeajjaaW8
namespace Go.Proofs.Ytfdaaeapfeajjaa
open Go.RowKit

theorem RowP.take {w : World} {F1 g cap : Nat} {l : List Pl} (h : RowP w F1 g cap l) (m : Nat) : RowP w F1 g cap (l.take m) := by
  obtain ⟨cur, hc, hs, hcell⟩ := h.ex
  refine ⟨⟨cur, hc, hs, fun i hi => ?_⟩, h.base, by have := h.len; simp; omega, h.max⟩
  simp only [List.length_take] at hi
  have e : (l.take m).getD i pl0 = l.getD i pl0 := by simp [List.getD, show i < m by omega]
  rw [e]
  exact hcell i (by omega)

def PopMOut (_F1 g cap X m : Nat) (l : List Pl) (w : World) (e : Ending) (w' : World) : Prop :=
  e = .returned (.iface 126 (.agg #[.int .i64 (l.getD m pl0).1, .int .i64 (l.getD m pl0).2])) ∧ w'.cell? ⟨X, 0, none⟩ = some (.slice (some ⟨g, 0, none⟩) m cap) ∧ w'.frozen? ⟨X, 0, none⟩ = false ∧ w.grownBy w' (some X)

set_option maxHeartbeats 400000 in
theorem popM_any (F1 g cap X m : Nat) (l : List Pl) (w : World) (hx : w.cell? ⟨X, 0, none⟩ = some (.slice (some ⟨g, 0, none⟩) (m + 1) cap)) (hf : w.frozen? ⟨X, 0, none⟩ = false) (h : RowP w F1 g cap l) (hl : l.length = m + 1) (hm : m < 1000) (_hgx : g ≠ X) :
    Calls Try.prog 120 #[.pointer (some ⟨X, 0, none⟩)] w (PopMOut F1 g cap X m l w) := by
  obtain ⟨a0, a1, _, _⟩ := h.cells (i := m) (by omega)
  have hX := World.block_lt_of_cell? _ _ hx
  have hcap := h.len
  rw [hl] at hcap
  have hml : m < l.length := by omega
  clear hl h
  generalize hx0 : (l.getD m pl0).1 = x at *
  generalize hy0 : (l.getD m pl0).2 = y at *
  have HXY := Lib.hid (And.intro hx0 hy0); clear hx0 hy0
  go_enter Try.func120, Try.ntmps120
  go_wp2
  go_ret
  refine ⟨by rw [HXY.out.1, HXY.out.2]; rfl, ?_, ?_, ?_⟩
  · rw [World.cell?_alloc_lt _ _ _ (by simpa using hX)]
    exact World.cell?_setCell_same _ _ _ hx
  · rw [World.frozen?_alloc_past _ _ _ (by simpa using hX), World.frozen?_setCell]; exact hf
  · exact (grown_set (World.grownBy.refl _ _) _ _).trans (World.grownBy_alloc _ _ _)

/-- The cells of some places. -/
def encP (l : List Pl) : List Value := l.flatMap fun p => [.int .i64 p.1, .int .i64 p.2]

theorem encP_length : ∀ (l : List Pl), (encP l).length = l.length * 2
  | [] => rfl
  | p :: r => by
    have ih := encP_length r
    have e : encP (p :: r) = .int .i64 p.1 :: .int .i64 p.2 :: encP r := rfl
    rw [e]
    simp only [List.length_cons, ih]
    omega

theorem encP_get : ∀ (l : List Pl) (i : Nat), i < l.length → (encP l)[i * 2]? = some (.int .i64 (l.getD i pl0).1) ∧ (encP l)[i * 2 + 1]? = some (.int .i64 (l.getD i pl0).2)
  | p :: r, 0, _ => by simp [encP]
  | p :: r, i + 1, h => by
    have ih := encP_get r i (by simpa using h)
    have e : encP (p :: r) = .int .i64 p.1 :: .int .i64 p.2 :: encP r := rfl
    rw [e, show (i + 1) * 2 = i * 2 + 1 + 1 by omega]
    simp only [List.getElem?_cons_succ]
    exact ⟨by rw [ih.1]; simp [List.getD], by rw [ih.2]; simp [List.getD]⟩

theorem RowP.own {w : World} {F1 g cap : Nat} {l : List Pl} (h : RowP w F1 g cap l) : w.ownsRow F1 126 2 (.slice (some ⟨g, 0, none⟩) l.length cap) l.length (encP l) := by
  obtain ⟨cur, hc, hs, hcell⟩ := h.ex
  have hlen := h.len
  refine ⟨encP_length l, .inr ⟨g, cap, cur, rfl, h.base, hc, h.len, h.max, hs, ?_⟩⟩
  refine List.ext_getElem? fun k => ?_
  rw [List.getElem?_take]
  split
  · rename_i hk
    have hi : k / 2 < l.length := by omega
    obtain ⟨h0, h1⟩ := hcell (k / 2) hi
    obtain ⟨g0, g1⟩ := encP_get l (k / 2) hi
    rcases Nat.mod_two_eq_zero_or_one k with hk2 | hk2
    · have : k / 2 * 2 = k := by omega
      rw [this] at h0 g0
      rw [g0]; simpa using h0
    · have : k / 2 * 2 + 1 = k := by omega
      rw [this] at h1 g1
      rw [g1]; simpa using h1
  · rename_i hk
    rw [List.getElem?_eq_none (by rw [encP_length]; omega)]

theorem RowP.of_own {w : World} {F1 g cap : Nat} {l : List Pl} (h : w.ownsRow F1 126 2 (.slice (some ⟨g, 0, none⟩) l.length cap) l.length (encP l)) : RowP w F1 g cap l := by
  obtain ⟨_, h2⟩ := h
  rcases h2 with ⟨h0, _⟩ | ⟨g', cap', cur, hv, hg, hh, hn, hcap, hsz, htake⟩
  · cases h0
  · cases hv
    refine ⟨⟨cur, hh, hsz, fun i hi => ?_⟩, hg, hn, hcap⟩
    obtain ⟨g0, g1⟩ := encP_get l i hi
    rw [← htake, List.getElem?_take, if_pos (by omega)] at g0 g1
    exact ⟨by simpa using g0, by simpa using g1⟩

theorem Try.info85 : (Try.prog.info? 126).map (fun i => (i.zero, i.size, i.bytes)) = some (some (.agg #[.int .i64 0, .int .i64 0]), 2, 16) := by kernel_rfl

theorem ta_place (x y : Int) (w : World) : (Instr.typeAssert (.iface 126 (.agg #[.int .i64 x, .int .i64 y])) 20 126 false).run Try.prog w = .ok (.agg #[.int .i64 x, .int .i64 y]) w := by kernel_rfl

theorem push_keep {w w1 : World} {o : Obj} {g X n cap : Nat} {u : Value} (hg : (w.alloc o).drew.grownBy w1 (Value.slice (some ⟨g, 0, none⟩) n cap).ownBlock) (hX : X < w.heap.size) (hgx : g ≠ X) (hx : w.cell? ⟨X, 0, none⟩ = some u) (hf : w.frozen? ⟨X, 0, none⟩ = false) :
    w1.cell? ⟨X, 0, none⟩ = some u ∧ w1.frozen? ⟨X, 0, none⟩ = false := by
  have hne : some X ≠ (Value.slice (some ⟨g, 0, none⟩) n cap).ownBlock := by simp [Value.ownBlock]; exact fun e => hgx e.symm
  have hb : w1.heap[X]? = w.heap[X]? := (hg.block X (by show X < (w.alloc o).heap.size; simp; omega) hne).trans (Below.heap_alloc w o X hX)
  exact ⟨(World.cell?_of_block (a := ⟨X, 0, none⟩) hb).trans hx, (World.frozen?_of_block (a := ⟨X, 0, none⟩) hb).trans hf⟩

def PushMOut (F1 g X : Nat) (l : List Pl) (w : World) (e : Ending) (w' : World) : Prop :=
  ∃ gg cap', e = .returned (.tuple #[]) ∧ w'.cell? ⟨X, 0, none⟩ = some (.slice (some ⟨gg, 0, none⟩) l.length cap') ∧ w'.frozen? ⟨X, 0, none⟩ = false ∧ RowP w' F1 gg cap' l ∧ (gg = g ∨ w.heap.size ≤ gg) ∧ Touch (fun j => j = X ∨ j = g) w w'

theorem push_fin {w w1 : World} {o : Obj} {F1 g gg X cap cap2 : Nat} {l : List Pl} {x y : Int} {u : Value} (hX : X < w.heap.size) (_hgx : g ≠ X) (hx1 : w1.cell? ⟨X, 0, none⟩ = some u) (hf1 : w1.frozen? ⟨X, 0, none⟩ = false)
    (hown1 : w1.ownsRow F1 126 2 (.slice (some ⟨gg, 0, none⟩) (l.length + 1) cap2) (l.length + 1) (encP l ++ [.int .i64 x, .int .i64 y])) (hg : (w.alloc o).drew.grownBy w1 (Value.slice (some ⟨g, 0, none⟩) l.length cap).ownBlock)
    (hat : (Value.slice (some ⟨g, 0, none⟩) l.length cap).ownBlock = some gg ∨ gg = w.heap.size + 1) :
    PushMOut F1 g X (l ++ [(x, y)]) w (.returned (.tuple #[])) (w1.setCell ⟨X, 0, none⟩ (.slice (some ⟨gg, 0, none⟩) (l.length + 1) cap2)) := by
  have hgb : (Value.slice (some ⟨g, 0, none⟩) l.length cap).ownBlock = some g := rfl
  rw [hgb] at hg hat
  have hgX : gg ≠ X := by
    rcases hat with h | h
    · injection h with h; rw [← h]; exact _hgx
    · omega
  have hlen : (l ++ [(x, y)]).length = l.length + 1 := by simp
  have henc : encP (l ++ [(x, y)]) = encP l ++ [.int .i64 x, .int .i64 y] := by simp [encP]
  refine ⟨gg, cap2, rfl, ?_, ?_, ?_, ?_, ?_⟩
  · rw [hlen]; exact World.cell?_setCell_same _ _ _ hx1
  · rw [World.frozen?_setCell]; exact hf1
  · refine (RowP.of_own (cap := cap2) (by rw [hlen, henc]; exact hown1)).kept ?_
    exact Below.heap_setCell _ _ _ _ hgX
  · rcases hat with h | h
    · injection h with h; exact .inl h.symm
    · exact .inr (by omega)
  · refine ⟨hg.os, hg.tape, hg.output, by have := hg.size; simp only [World.size_setCell]; simp at this; omega, fun j hj hs => ?_⟩
    rw [Below.heap_setCell _ _ _ _ (fun e => hs (.inl e)), hg.block j (by show j < (w.alloc o).heap.size; simp; omega) (fun e => hs (.inr (by injection e)))]
    exact Below.heap_alloc w o j hj

set_option maxRecDepth 100000 in
set_option maxHeartbeats 1000000 in
theorem pushM_any (F1 g cap X : Nat) (l : List Pl) (x y : Int) (w : World) (hx : w.cell? ⟨X, 0, none⟩ = some (.slice (some ⟨g, 0, none⟩) l.length cap)) (hf : w.frozen? ⟨X, 0, none⟩ = false) (h : RowP w F1 g cap l) (hm : l.length < 1000) (hgx : g ≠ X) (hF : F1 ≤ w.heap.size) :
    Calls Try.prog 121 #[.pointer (some ⟨X, 0, none⟩), .iface 126 (.agg #[.int .i64 x, .int .i64 y])] w (PushMOut F1 g X (l ++ [(x, y)]) w) := by
  obtain ⟨i0, hi0, hz0, hz1, hz2⟩ := info_parts Try.info85
  have hown := h.own
  have hX := World.block_lt_of_cell? _ _ hx
  have hml : l.length + 1 ≤ maxLen := by unfold maxLen; omega
  have hne : (Value.slice (some ⟨g, 0, none⟩) l.length cap).ownBlock ≠ some X := by simp [Value.ownBlock]; exact hgx
  have H := Lib.hid h; clear h
  have hta := ta_place x y
  go_enter Try.func121, Try.ntmps121
  go_wp2_with fail
  go_region_law (first | (refine step_append_lies _ (by rfl) _ _ _ (by rfl) F1 126 i0 _ 2 16 Try.underlying128 hi0 hz0 hz1 hz2 rfl (by omega) (.slice (some ⟨g, 0, none⟩) l.length cap) l.length (encP l) (by rfl) ((hown.alloc _).drew) ⟨w.heap.size, 0, none⟩ 1 1 [.int .i64 x, .int .i64 y] (by rfl) (by rfl) (World.news_of_block (cs := #[.int .i64 x, .int .i64 y]) (t := 126) (fr := (0, 0)) (heap_alloc_new w _)) (by simp [Value.oneCell']) (by omega) hml (by omega) (by simp; omega) (w.heap.size + 1) (by simp) ?_; intro gg cap2 w1 hown1 hgrow hat hlt; obtain ⟨hx1, hf1⟩ := push_keep hgrow hX hgx hx hf))
  all_goals
    go_end0
    exact push_fin hX hgx hx1 hf1 hown1 hgrow hat

end Go.Proofs.Ytfdaaeapfeajjaa
