/- Heaps of homeTeam: rows in memory. -/
import Derived.Test.YtmcapcclnkicbabVC
namespace Go.Proofs.Ytmcapcclnkicbab
open Go.RowKit

/-- The slice (some ⟨g, 0⟩) with room for cap, in block g, holds l. -/
structure RowB (w : World) (F1 g cap : Nat) (l : List Pl) : Prop where
  ex : ∃ cur : Array Value, w.heap[g]? = some (.cells cur 67 (0, 0)) ∧ cur.size = cap * 1 ∧ ∀ i, i < l.length → cur[i]? = some (.int .i64 (l.getD i pl0).2)
  base : F1 ≤ g
  len : l.length ≤ cap
  max : cap ≤ maxLen

theorem RowB.cells {w : World} {F1 g cap : Nat} {l : List Pl} (h : RowB w F1 g cap l) {i : Nat} (hi : i < l.length) :
    w.cell? ⟨g, i, none⟩ = some (.int .i64 (l.getD i pl0).2) ∧ w.frozen? ⟨g, i, none⟩ = false := by
  obtain ⟨cur, hc, _, hcell⟩ := h.ex
  have h0 := hcell i hi
  exact ⟨by rw [cell_of_row w g _ cur _ (0, 0) hc]; exact h0, by simp [World.frozen?, hc]⟩

theorem RowB.lt {w : World} {F1 g cap : Nat} {l : List Pl} (h : RowB w F1 g cap l) : g < w.heap.size := by
  obtain ⟨cur, hc, _⟩ := h.ex
  exact (Array.getElem?_eq_some_iff.1 hc).1

theorem RowB.kept {w w' : World} {F1 g cap : Nat} {l : List Pl} (h : RowB w F1 g cap l) (hb : w'.heap[g]? = w.heap[g]?) : RowB w' F1 g cap l := by
  obtain ⟨cur, hc, r⟩ := h.ex
  exact ⟨⟨cur, hb.trans hc, r⟩, h.base, h.len, h.max⟩

theorem RowB.touch {w w' : World} {F1 g cap : Nat} {l : List Pl} {S : Nat → Prop} (h : RowB w F1 g cap l) (ht : Touch S w w') (hS : ¬ S g) : RowB w' F1 g cap l := h.kept (ht.block g h.lt hS)
theorem RowB.below {w w' : World} {F1 g cap : Nat} {l : List Pl} (h : RowB w F1 g cap l) (hb : Below w.heap.size w w') : RowB w' F1 g cap l := h.kept (hb.block g h.lt)

/-- Place k is written. -/
theorem RowB.set {w : World} {F1 g cap : Nat} {l : List Pl} (h : RowB w F1 g cap l) {k : Nat} (hk : k < l.length) (p : Pl) :
    RowB (w.setCell ⟨g, k, none⟩ (.int .i64 p.2)) F1 g cap (l.set k p) := by
  obtain ⟨cur, hc, hs, hcell⟩ := h.ex
  have hlen := h.len
  refine ⟨⟨_, heap_set1 _ _ _ _ _ _ hc, by simp [hs], fun i hi => ?_⟩, h.base, by simpa using h.len, h.max⟩
  simp only [List.length_set] at hi
  have h0 := hcell i hi
  simp only [Array.getElem?_setIfInBounds, hs, List.getD, List.getElem?_set]
  by_cases e : k = i
  · subst e
    simp [show k < cap by omega, hk]
  · simp only [e, if_false]
    exact h0

def encB (l : List Pl) : List Value := l.map fun p => .int .i64 p.2
theorem encB_length (l : List Pl) : (encB l).length = l.length * 1 := by simp [encB]
theorem encB_get (l : List Pl) (i : Nat) (h : i < l.length) : (encB l)[i]? = some (.int .i64 (l.getD i pl0).2) := by simp [encB, List.getD, h]
theorem encB_snoc (l : List Pl) (x y : Int) : encB (l ++ [(x, y)]) = encB l ++ [.int .i64 y] := by simp [encB]

theorem RowB.own {w : World} {F1 g cap : Nat} {l : List Pl} (h : RowB w F1 g cap l) : w.ownsRow F1 67 1 (.slice (some ⟨g, 0, none⟩) l.length cap) l.length (encB l) := by
  obtain ⟨cur, hc, hs, hcell⟩ := h.ex
  have hlen := h.len
  refine ⟨encB_length l, .inr ⟨g, cap, cur, rfl, h.base, hc, h.len, h.max, hs, ?_⟩⟩
  refine List.ext_getElem? fun k => ?_
  rw [List.getElem?_take]
  split
  · rename_i hk
    have h0 := hcell k (by omega)
    rw [encB_get l k (by omega)]; simpa using h0
  · rename_i hk
    rw [List.getElem?_eq_none (by rw [encB_length]; omega)]

theorem RowB.of_own {w : World} {F1 g cap : Nat} {l : List Pl} (h : w.ownsRow F1 67 1 (.slice (some ⟨g, 0, none⟩) l.length cap) l.length (encB l)) : RowB w F1 g cap l := by
  obtain ⟨_, h2⟩ := h
  rcases h2 with ⟨h0, _⟩ | ⟨g', cap', cur, hv, hg, hh, hn, hcap, hsz, htake⟩
  · cases h0
  · cases hv
    refine ⟨⟨cur, hh, hsz, fun i hi => ?_⟩, hg, hn, hcap⟩
    have g0 := encB_get l i hi
    rw [← htake, List.getElem?_take, if_pos (by omega)] at g0
    simpa using g0

theorem RowB.take {w : World} {F1 g cap : Nat} {l : List Pl} (h : RowB w F1 g cap l) (m : Nat) : RowB w F1 g cap (l.take m) := by
  obtain ⟨cur, hc, hs, hcell⟩ := h.ex
  refine ⟨⟨cur, hc, hs, fun i hi => ?_⟩, h.base, by have := h.len; simp; omega, h.max⟩
  simp only [List.length_take] at hi
  have e : (l.take m).getD i pl0 = l.getD i pl0 := by simp [List.getD, show i < m by omega]
  rw [e]
  exact hcell i (by omega)

theorem infoB : (Try.prog.info? 67).map (fun i => (i.zero, i.size, i.bytes)) = some (some (.int .i64 0), 1, 8) := by kernel_rfl

end Go.Proofs.Ytmcapcclnkicbab
