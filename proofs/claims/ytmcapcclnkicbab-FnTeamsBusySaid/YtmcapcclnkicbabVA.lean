/- Heaps of awayTeam: rows in memory. -/
import Derived.Test.YtmcapcclnkicbabVC
namespace Go.Proofs.Ytmcapcclnkicbab
open Go.RowKit

/-- The slice (some ⟨g, 0⟩) with room for cap, in block g, holds l. -/
structure RowA (w : World) (F1 g cap : Nat) (l : List Pl) : Prop where
  ex : ∃ cur : Array Value, w.heap[g]? = some (.cells cur 64 (0, 0)) ∧ cur.size = cap * 2 ∧ ∀ i, i < l.length → cur[i * 2]? = some (.int .i64 (l.getD i pl0).1) ∧ cur[i * 2 + 1]? = some (.int .i64 (l.getD i pl0).2)
  base : F1 ≤ g
  len : l.length ≤ cap
  max : cap ≤ maxLen

theorem RowA.cells {w : World} {F1 g cap : Nat} {l : List Pl} (h : RowA w F1 g cap l) {i : Nat} (hi : i < l.length) :
    w.cell? ⟨g, i * 2, none⟩ = some (.int .i64 (l.getD i pl0).1) ∧ w.cell? ⟨g, i * 2 + 1, none⟩ = some (.int .i64 (l.getD i pl0).2) ∧ w.frozen? ⟨g, i * 2, none⟩ = false ∧ w.frozen? ⟨g, i * 2 + 1, none⟩ = false := by
  obtain ⟨cur, hc, _, hcell⟩ := h.ex
  obtain ⟨h0, h1⟩ := hcell i hi
  exact ⟨by rw [cell_of_row w g _ cur _ (0, 0) hc]; exact h0, by rw [cell_of_row w g _ cur _ (0, 0) hc]; exact h1, by simp [World.frozen?, hc], by simp [World.frozen?, hc]⟩

theorem RowA.lt {w : World} {F1 g cap : Nat} {l : List Pl} (h : RowA w F1 g cap l) : g < w.heap.size := by
  obtain ⟨cur, hc, _⟩ := h.ex
  exact (Array.getElem?_eq_some_iff.1 hc).1

theorem RowA.kept {w w' : World} {F1 g cap : Nat} {l : List Pl} (h : RowA w F1 g cap l) (hb : w'.heap[g]? = w.heap[g]?) : RowA w' F1 g cap l := by
  obtain ⟨cur, hc, r⟩ := h.ex
  exact ⟨⟨cur, hb.trans hc, r⟩, h.base, h.len, h.max⟩

theorem RowA.touch {w w' : World} {F1 g cap : Nat} {l : List Pl} {S : Nat → Prop} (h : RowA w F1 g cap l) (ht : Touch S w w') (hS : ¬ S g) : RowA w' F1 g cap l := h.kept (ht.block g h.lt hS)
theorem RowA.below {w w' : World} {F1 g cap : Nat} {l : List Pl} (h : RowA w F1 g cap l) (hb : Below w.heap.size w w') : RowA w' F1 g cap l := h.kept (hb.block g h.lt)

/-- Place k is written. -/
theorem RowA.set {w : World} {F1 g cap : Nat} {l : List Pl} (h : RowA w F1 g cap l) {k : Nat} (hk : k < l.length) (p : Pl) :
    RowA ((w.setCell ⟨g, k * 2, none⟩ (.int .i64 p.1)).setCell ⟨g, k * 2 + 1, none⟩ (.int .i64 p.2)) F1 g cap (l.set k p) := by
  obtain ⟨cur, hc, hs, hcell⟩ := h.ex
  have hlen := h.len
  refine ⟨⟨_, heap_set1 _ _ _ _ _ _ (heap_set1 _ _ _ _ _ _ hc), by simp [hs], fun i hi => ?_⟩, h.base, by simpa using h.len, h.max⟩
  simp only [List.length_set] at hi
  obtain ⟨h0, h1⟩ := hcell i hi
  simp only [Array.getElem?_setIfInBounds, Array.size_setIfInBounds, hs, List.getD, List.getElem?_set]
  by_cases e : k = i
  · subst e
    simp [show k * 2 < cap * 2 by omega, show k * 2 + 1 < cap * 2 by omega, hk]
  · simp only [e, if_false, show ¬ (k * 2 = i * 2) by omega, show ¬ (k * 2 + 1 = i * 2) by omega, show ¬ (k * 2 = i * 2 + 1) by omega, show ¬ (k * 2 + 1 = i * 2 + 1) by omega]
    exact ⟨h0, h1⟩

def encA (l : List Pl) : List Value := l.flatMap fun p => [.int .i64 p.1, .int .i64 p.2]
theorem encA_length : ∀ (l : List Pl), (encA l).length = l.length * 2
  | [] => rfl
  | p :: r => by
    have ih := encA_length r
    have e : encA (p :: r) = .int .i64 p.1 :: .int .i64 p.2 :: encA r := rfl
    rw [e]
    simp only [List.length_cons, ih]
    omega
theorem encA_get : ∀ (l : List Pl) (i : Nat), i < l.length → (encA l)[i * 2]? = some (.int .i64 (l.getD i pl0).1) ∧ (encA l)[i * 2 + 1]? = some (.int .i64 (l.getD i pl0).2)
  | p :: r, 0, _ => by simp [encA]
  | p :: r, i + 1, h => by
    have ih := encA_get r i (by simpa using h)
    have e : encA (p :: r) = .int .i64 p.1 :: .int .i64 p.2 :: encA r := rfl
    rw [e, show (i + 1) * 2 = i * 2 + 1 + 1 by omega]
    simp only [List.getElem?_cons_succ]
    exact ⟨by rw [ih.1]; simp [List.getD], by rw [ih.2]; simp [List.getD]⟩
theorem encA_snoc (l : List Pl) (x y : Int) : encA (l ++ [(x, y)]) = encA l ++ [.int .i64 x, .int .i64 y] := by simp [encA]

theorem RowA.own {w : World} {F1 g cap : Nat} {l : List Pl} (h : RowA w F1 g cap l) : w.ownsRow F1 64 2 (.slice (some ⟨g, 0, none⟩) l.length cap) l.length (encA l) := by
  obtain ⟨cur, hc, hs, hcell⟩ := h.ex
  have hlen := h.len
  refine ⟨encA_length l, .inr ⟨g, cap, cur, rfl, h.base, hc, h.len, h.max, hs, ?_⟩⟩
  refine List.ext_getElem? fun k => ?_
  rw [List.getElem?_take]
  split
  · rename_i hk
    have hi : k / 2 < l.length := by omega
    obtain ⟨h0, h1⟩ := hcell (k / 2) hi
    obtain ⟨g0, g1⟩ := encA_get l (k / 2) hi
    rcases Nat.mod_two_eq_zero_or_one k with hk2 | hk2
    · have : k / 2 * 2 = k := by omega
      rw [this] at h0 g0
      rw [g0]; simpa using h0
    · have : k / 2 * 2 + 1 = k := by omega
      rw [this] at h1 g1
      rw [g1]; simpa using h1
  · rename_i hk
    rw [List.getElem?_eq_none (by rw [encA_length]; omega)]

theorem RowA.of_own {w : World} {F1 g cap : Nat} {l : List Pl} (h : w.ownsRow F1 64 2 (.slice (some ⟨g, 0, none⟩) l.length cap) l.length (encA l)) : RowA w F1 g cap l := by
  obtain ⟨_, h2⟩ := h
  rcases h2 with ⟨h0, _⟩ | ⟨g', cap', cur, hv, hg, hh, hn, hcap, hsz, htake⟩
  · cases h0
  · cases hv
    refine ⟨⟨cur, hh, hsz, fun i hi => ?_⟩, hg, hn, hcap⟩
    obtain ⟨g0, g1⟩ := encA_get l i hi
    rw [← htake, List.getElem?_take, if_pos (by omega)] at g0 g1
    exact ⟨by simpa using g0, by simpa using g1⟩

theorem RowA.take {w : World} {F1 g cap : Nat} {l : List Pl} (h : RowA w F1 g cap l) (m : Nat) : RowA w F1 g cap (l.take m) := by
  obtain ⟨cur, hc, hs, hcell⟩ := h.ex
  refine ⟨⟨cur, hc, hs, fun i hi => ?_⟩, h.base, by have := h.len; simp; omega, h.max⟩
  simp only [List.length_take] at hi
  have e : (l.take m).getD i pl0 = l.getD i pl0 := by simp [List.getD, show i < m by omega]
  rw [e]
  exact hcell i (by omega)

theorem infoA : (Try.prog.info? 64).map (fun i => (i.zero, i.size, i.bytes)) = some (some (.agg #[.int .i64 0, .int .i64 0]), 2, 16) := by kernel_rfl

end Go.Proofs.Ytmcapcclnkicbab
