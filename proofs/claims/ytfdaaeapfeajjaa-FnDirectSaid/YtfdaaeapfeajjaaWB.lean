/- heap.Push and heap.Pop on *places. -/
import Derived.Test.YtfdaaeapfeajjaaWA
namespace Go.Proofs.Ytfdaaeapfeajjaa
open Go.RowKit

def PushOut (F1 X : Nat) (A : Nat → Prop) (l : List Pl) (x : Pl) (w : World) (e : Ending) (w' : World) : Prop :=
  ∃ l' : List Pl, e = .returned (.tuple #[]) ∧ HeapAt w' F1 X A l' ∧ HeapTo l' l'.length ∧ l'.length = l.length + 1 ∧ (∀ p, p ∈ l' ↔ (p ∈ l ∨ p = x)) ∧ Touch (fun j => j = X ∨ A j) w w'

theorem touch_of_grown {S : Nat → Prop} {w w' : World} {g : Nat} (h : w.grownBy w' (some g)) (hs : S g) : Touch S w w' := Touch.grown h hs

theorem Touch.imp {S T : Nat → Prop} {w w' : World} (h : Touch S w w') (hST : ∀ j, j < w.heap.size → S j → T j) : Touch T w w' :=
  ⟨h.os, h.tape, h.output, h.size, fun j hj ht => h.block j hj (fun hs => ht (hST j hj hs))⟩

set_option maxRecDepth 100000 in
set_option maxHeartbeats 1000000 in
theorem heapPush_any (F1 X : Nat) (A : Nat → Prop) (l : List Pl) (x y : Int) (w : World) (h : HeapAt w F1 X A l) (hh : HeapTo l l.length) (hm : l.length < 1000) (hF : F1 ≤ w.heap.size) (hA : ∀ j, w.heap.size ≤ j → A j) :
    Calls Try.prog 81 #[.iface 124 (.pointer (some ⟨X, 0, none⟩)), .iface 126 (.agg #[.int .i64 x, .int .i64 y])] w (PushOut F1 X A l (x, y) w) := by
  obtain ⟨g, cap, hx, hf, hrow, hg, hgx⟩ := h
  have hmP := meth_Push ⟨X, 0, none⟩
  have Hh := Lib.hid hh; clear hh
  have HA := Lib.hid hA; clear hA
  have hX := World.block_lt_of_cell? _ _ hx
  have Hx := Lib.hid hx
  have Hf := Lib.hid hf
  have Hrow := Lib.hid hrow
  have Hg := Lib.hid hg
  clear hx hf hrow hg
  go_enter Try.func81, Try.ntmps81
  go_wp2_with fail
  refine (pushM_any F1 g cap X l x y _ Hx.out Hf.out Hrow.out hm hgx hF).mono ?_
  rintro e w1 ⟨gg, cap', rfl, hx1, hf1, hrow1, hgg, ht1⟩
  have hlen : (l ++ [(x, y)]).length = l.length + 1 := by simp
  have hggX : gg ≠ X := by
    rcases hgg with h | h
    · rw [h]; exact hgx
    · have : X < w.heap.size := hX
      omega
  have hAgg : A gg := by
    rcases hgg with h | h
    · rw [h]; exact Hg.out
    · exact HA.out _ h
  have HAgg := Lib.hid hAgg; clear hAgg hgg
  have Hlen := Lib.hid hlen; clear hlen
  have hLen := meth_Len X w1 _ hx1
  go_wp2_with fail
  refine (len_any _ _ _ _).mono ?_
  rintro e w2 ⟨rfl, rfl⟩
  have hup : UpOk (l ++ [(x, y)]) (l ++ [(x, y)]).length l.length := by rw [Hlen.out]; exact Hh.out.snoc _
  have Hup := Lib.hid hup; clear hup
  have hlt : l.length < (l ++ [(x, y)]).length := by rw [Hlen.out]; omega
  have hl2 : (l ++ [(x, y)]).length < 1002 := by rw [Hlen.out]; omega
  have Hx1 := Lib.hid hx1; clear hx1
  have Hrow1 := Lib.hid hrow1; clear hrow1
  have Hf1 := Lib.hid hf1; clear hf1
  clear hLen
  go_wp2_with fail
  refine (up_any F1 gg cap' X l.length (l ++ [(x, y)]) w1 Hx1.out Hrow1.out hlt hl2 hggX Hup.out).mono ?_
  rintro e w2 ⟨rfl, l', h1, h2, h3, h4, _, h5⟩
  have hXg : some X ≠ some gg := fun e => hggX (by injection e with e; exact e.symm)
  have h6 := Hx1.out
  have h7 := Hf1.out
  have H6 := Lib.hid (And.intro h6 h7); clear h6 h7
  have H1 := Lib.hid h1; clear h1
  go_wp2
  go_end0
  have hl' : l'.length = l.length + 1 := H1.out.trans Hlen.out
  refine ⟨l', rfl, ⟨gg, cap', ?_, ?_, h2, HAgg.out, hggX⟩, by rw [H1.out]; exact h3, hl', fun p => (h4 p).trans (by simp), ?_⟩
  · rw [H1.out]; exact h5.cell H6.out.1 hXg
  · rw [World.frozen?_of_block (a := ⟨X, 0, none⟩) (h5.block X (World.block_lt_of_cell? _ _ H6.out.1) hXg)]; exact H6.out.2
  · refine (ht1.imp fun j _ hj => ?_).trans (Touch.grown h5 (.inr HAgg.out))
    rcases hj with rfl | rfl
    · exact .inl rfl
    · exact .inr Hg.out

def PopOut (F1 X : Nat) (A : Nat → Prop) (l : List Pl) (w : World) (e : Ending) (w' : World) : Prop :=
  ∃ (x : Pl) (l' : List Pl), e = .returned (.iface 126 (.agg #[.int .i64 x.1, .int .i64 x.2])) ∧ HeapAt w' F1 X A l' ∧ HeapTo l' l'.length ∧ l'.length + 1 = l.length ∧ x ∈ l ∧ (∀ p, p ∈ l → x.2 ≤ p.2) ∧ (∀ p, p ∈ l' → p ∈ l) ∧ (∀ p, p ∈ l → p = x ∨ p ∈ l') ∧ Touch (fun j => j = X ∨ A j) w w'

theorem heap_first {l : List Pl} (h : HeapTo l l.length) (hl : 0 < l.length) : l.getD 0 pl0 ∈ l ∧ ∀ p, p ∈ l → (l.getD 0 pl0).2 ≤ p.2 := by
  refine ⟨by rw [getP l hl]; exact List.getElem_mem _, fun p hp => ?_⟩
  obtain ⟨i, hi, rfl⟩ := List.getElem_of_mem hp
  have := h.min i hi
  unfold farAt at this
  rw [getP l hi] at this
  exact this

theorem take_mem {l : List Pl} {m : Nat} (hl : l.length = m + 1) (p : Pl) (hp : p ∈ l) : p = l.getD m pl0 ∨ p ∈ l.take m := by
  obtain ⟨i, hi, rfl⟩ := List.getElem_of_mem hp
  by_cases e : i = m
  · subst e; exact .inl (getP l hi).symm
  · refine .inr ?_
    rw [List.mem_iff_getElem]
    exact ⟨i, by simp; omega, by simp⟩

set_option maxRecDepth 100000 in
set_option maxHeartbeats 1000000 in
theorem heapPop_any (F1 X : Nat) (A : Nat → Prop) (l : List Pl) (w : World) (h : HeapAt w F1 X A l) (hh : HeapTo l l.length) (hp : 0 < l.length) (hm : l.length < 1000) :
    Calls Try.prog 80 #[.iface 124 (.pointer (some ⟨X, 0, none⟩))] w (PopOut F1 X A l w) := by
  obtain ⟨g, cap, hx, hf, hrow, hg, hgx⟩ := h
  have hmP := meth_Pop ⟨X, 0, none⟩
  obtain ⟨m, hlm⟩ : ∃ m, l.length = m + 1 := ⟨l.length - 1, by omega⟩
  have em : (l.length : Int) - 1 = (m : Int) := by omega
  have hmin := heap_first hh hp
  have hd0 : DownOk (swapL l 0 m) m 0 := HeapTo.swap0 (by rw [← hlm]; exact hh) (by omega)
  have Hmin := Lib.hid hmin; clear hmin
  have Hd0 := Lib.hid hd0; clear hd0 hh
  have Hlm := Lib.hid hlm; clear hlm
  have hXg : some X ≠ some g := fun e => hgx (by injection e with e; exact e.symm)
  have hLen := meth_Len X w _ hx
  have hSwap := meth_Swap X w _ hx
  have Hx := Lib.hid hx
  have Hf := Lib.hid hf
  have Hrow := Lib.hid hrow
  have Hg := Lib.hid hg
  clear hx hf hrow hg
  go_enter Try.func80, Try.ntmps80
  go_wp2_with fail
  refine (len_any _ _ _ _).mono ?_
  rintro e w1 ⟨rfl, rfl⟩
  go_wp2_with fail
  refine (swap_int F1 g cap l _ _ 0 m _ Hrow.out rfl (by first | rfl | omega) (by omega) (by have := Hlm.out; omega)).mono ?_
  rintro e w1 ⟨rfl, hrow1, hg1, _⟩
  clear hLen hSwap
  have Hrow1 := Lib.hid hrow1; clear hrow1
  have hx1 : w1.cell? ⟨X, 0, none⟩ = some (.slice (some ⟨g, 0, none⟩) (swapL l 0 m).length cap) := by rw [swapL_length]; exact hg1.cell Hx.out hXg
  have Hx1 := Lib.hid hx1; clear hx1
  go_wp2_with fail
  refine (down_any F1 g cap X m (swapL l 0 m) w1 Hx1.out Hrow1.out (by rw [swapL_length]; have := Hlm.out; omega) (by rw [swapL_length]; omega) hgx Hd0.out).mono ?_
  rintro e w2 ⟨⟨b, rfl⟩, l2, h1, h2, h3, h4, h5, h6⟩
  have hx2 : w2.cell? ⟨X, 0, none⟩ = some (.slice (some ⟨g, 0, none⟩) (m + 1) cap) := by
    have := h6.cell Hx1.out hXg
    rw [swapL_length, Hlm.out] at this; exact this
  have hl2 : l2.length = m + 1 := by rw [h1, swapL_length]; exact Hlm.out
  have hf2 : w2.frozen? ⟨X, 0, none⟩ = false := by
    rw [World.frozen?_of_block (a := ⟨X, 0, none⟩) (h6.block X (World.block_lt_of_cell? _ _ Hx1.out) hXg), World.frozen?_of_block (a := ⟨X, 0, none⟩) (hg1.block X (World.block_lt_of_cell? _ _ Hx.out) hXg)]
    exact Hf.out
  have hlast : l2.getD m pl0 = l.getD 0 pl0 := by
    rw [h5 m (Nat.le_refl _), swapL_getD l (by omega) (by have := Hlm.out; omega), if_pos rfl]
  have Hx2 := Lib.hid hx2; clear hx2
  have Hl2 := Lib.hid hl2; clear hl2
  have Hf2 := Lib.hid hf2; clear hf2
  have Hlast := Lib.hid hlast; clear hlast
  have Hrow2 := Lib.hid h2; clear h2
  have H3 := Lib.hid h3; clear h3
  have H4 := Lib.hid h4; clear h4
  clear h1 h5
  go_wp2_with fail
  refine (popM_any F1 g cap X m l2 w2 Hx2.out Hf2.out Hrow2.out Hl2.out (by have := Hlm.out; omega) hgx).mono ?_
  rintro e w3 ⟨rfl, hx3, hf3, hg3⟩
  have Hx3 := Lib.hid hx3; clear hx3
  have Hf3 := Lib.hid hf3; clear hf3
  go_wp2
  go_ret
  have hgX2 : some g ≠ some X := fun e => hgx (by injection e)
  have hlen' : (l2.take m).length = m := by have := Hl2.out; simp; omega
  have hmem : ∀ p, p ∈ l2 ↔ p ∈ l := fun p => (H4.out p).trans (swapL_mem l (by omega) (by have := Hlm.out; omega) p)
  refine ⟨l.getD 0 pl0, l2.take m, by rw [← Hlast.out]; rfl, ⟨g, cap, by rw [hlen']; exact Hx3.out, Hf3.out, (Hrow2.out.take m).kept (hg3.block g Hrow2.out.lt hgX2), Hg.out, hgx⟩, by rw [hlen']; exact H3.out.take, by rw [hlen', Hlm.out], Hmin.out.1, Hmin.out.2, fun p hp => (hmem p).1 (List.mem_of_mem_take hp), fun p hp => ?_, ?_⟩
  · rw [← Hlast.out]; exact take_mem Hl2.out p ((hmem p).2 hp)
  · exact ((Touch.grown hg1 (.inr Hg.out)).trans (Touch.grown h6 (.inr Hg.out))).trans (Touch.grown hg3 (.inl rfl))

end Go.Proofs.Ytfdaaeapfeajjaa
