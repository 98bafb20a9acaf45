/- The heap in memory; Len, Less, Swap, Push, Pop of places. -/
import Derived.Test.YtfdaaeapfeajjaaRows
import Derived.Test.YtfdaaeapfeajjaaW3
import Derived.Test.YtfdaaeapfeajjaaH
import Derived.BigRegion
import Derived.Deep.AppendLies
import Derived.Deep.RegionLaw
namespace Go.Proofs.Ytfdaaeapfeajjaa
open Go.RowKit

/-- The slice (some ⟨g, 0⟩) of l.length places with room for cap, in block g, holds l. -/
structure RowP (w : World) (F1 g cap : Nat) (l : List Pl) : Prop where
  ex : ∃ cur : Array Value, w.heap[g]? = some (.cells cur 126 (0, 0)) ∧ cur.size = cap * 2 ∧ ∀ i, i < l.length → cur[i * 2]? = some (.int .i64 (l.getD i pl0).1) ∧ cur[i * 2 + 1]? = some (.int .i64 (l.getD i pl0).2)
  base : F1 ≤ g
  len : l.length ≤ cap
  max : cap ≤ maxLen

theorem RowP.cells {w : World} {F1 g cap : Nat} {l : List Pl} (h : RowP w F1 g cap l) {i : Nat} (hi : i < l.length) :
    w.cell? ⟨g, i * 2, none⟩ = some (.int .i64 (l.getD i pl0).1) ∧ w.cell? ⟨g, i * 2 + 1, none⟩ = some (.int .i64 (l.getD i pl0).2) ∧ w.frozen? ⟨g, i * 2, none⟩ = false ∧ w.frozen? ⟨g, i * 2 + 1, none⟩ = false := by
  obtain ⟨cur, hc, _, hcell⟩ := h.ex
  obtain ⟨h0, h1⟩ := hcell i hi
  exact ⟨by rw [cell_of_row w g _ cur _ (0, 0) hc]; exact h0, by rw [cell_of_row w g _ cur _ (0, 0) hc]; exact h1, by simp [World.frozen?, hc], by simp [World.frozen?, hc]⟩

theorem RowP.lt {w : World} {F1 g cap : Nat} {l : List Pl} (h : RowP w F1 g cap l) : g < w.heap.size := by
  obtain ⟨cur, hc, _⟩ := h.ex
  exact (Array.getElem?_eq_some_iff.1 hc).1

theorem RowP.kept {w w' : World} {F1 g cap : Nat} {l : List Pl} (h : RowP w F1 g cap l) (hb : w'.heap[g]? = w.heap[g]?) : RowP w' F1 g cap l := by
  obtain ⟨cur, hc, r⟩ := h.ex
  exact ⟨⟨cur, hb.trans hc, r⟩, h.base, h.len, h.max⟩

theorem heap_set1 (w : World) (g i : Nat) (cs : Array Value) (t : TypeId) (v : Value) (hg : w.heap[g]? = some (.cells cs t (0, 0))) : (w.setCell ⟨g, i, none⟩ v).heap[g]? = some (.cells (cs.setIfInBounds i v) t (0, 0)) :=
  heap_setCell_same w g i cs t v hg

/-- Place k is written. -/
theorem RowP.set {w : World} {F1 g cap : Nat} {l : List Pl} (h : RowP w F1 g cap l) {k : Nat} (hk : k < l.length) (p : Pl) :
    RowP ((w.setCell ⟨g, k * 2, none⟩ (.int .i64 p.1)).setCell ⟨g, k * 2 + 1, none⟩ (.int .i64 p.2)) F1 g cap (l.set k p) := by
  obtain ⟨cur, hc, hs, hcell⟩ := h.ex
  have hlen := h.len
  refine ⟨⟨_, heap_set1 _ _ _ _ _ _ (heap_set1 _ _ _ _ _ _ hc), by simp [hs], fun i hi => ?_⟩, h.base, by simpa using h.len, h.max⟩
  simp only [List.length_set] at hi
  obtain ⟨h0, h1⟩ := hcell i hi
  simp only [Array.getElem?_setIfInBounds, Array.size_setIfInBounds, hs, List.getD, List.getElem?_set]
  by_cases e : k = i
  · subst e
    simp [show k * 2 < cap * 2 by omega, show k * 2 + 1 < cap * 2 by omega, hk]
  · simp only [e, if_false, show ¬ (k * 2 = i * 2) by omega, show ¬ (k * 2 + 1 = i * 2) by omega, show ¬ (k * 2 = i * 2 + 1) by omega, show ¬ (k * 2 + 1 = i * 2 + 1) by omega]
    exact ⟨h0, h1⟩

theorem grown_set {w w0 : World} {g : Nat} (h : w0.grownBy w (some g)) (i : Nat) (v : Value) : w0.grownBy (w.setCell ⟨g, i, none⟩ v) (some g) :=
  ⟨h.os, h.tape, h.output, by simpa [World.setCell] using h.size, fun k hk hne => (Below.heap_setCell w _ v k (by
    intro e
    exact hne (by rw [e]))).trans (h.block k hk hne)⟩

theorem grown_drewN {w w0 : World} {r : Option Nat} (h : w0.grownBy w r) (m : Nat) : w0.grownBy (w.drewN m) r := ⟨h.os, h.tape, h.output, h.size, h.block⟩
theorem grown_drew {w w0 : World} {r : Option Nat} (h : w0.grownBy w r) : w0.grownBy w.drew r := ⟨h.os, h.tape, h.output, h.size, h.block⟩

/-- The pointer to block X leads to a slice that holds l; its block is one of A. -/
def HeapAt (w : World) (F1 X : Nat) (A : Nat → Prop) (l : List Pl) : Prop :=
  ∃ g cap, w.cell? ⟨X, 0, none⟩ = some (.slice (some ⟨g, 0, none⟩) l.length cap) ∧ w.frozen? ⟨X, 0, none⟩ = false ∧ RowP w F1 g cap l ∧ A g ∧ g ≠ X

set_option maxHeartbeats 400000 in
theorem len_any (a : Option Addr) (n cap : Nat) (w : World) :
    Calls Try.prog 79 #[.slice a n cap] w fun e w' => e = .returned (.int .i64 n) ∧ w = w' := by
  go_enter Try.func79, Try.ntmps79
  go_wp2
  go_ret
  exact ⟨rfl, rfl⟩

def lessB (a b : Int) : Bool := decide (a < b)

set_option maxHeartbeats 400000 in
theorem less_any (F1 g cap : Nat) (l : List Pl) (i j : Nat) (w : World) (h : RowP w F1 g cap l) (hi : i < l.length) (hj : j < l.length) :
    Calls Try.prog 119 #[.slice (some ⟨g, 0, none⟩) l.length cap, .int .i64 i, .int .i64 j] w fun e w' => e = .returned (.bool (lessB (farAt l i) (farAt l j))) ∧ ∃ m, w' = w.drewN m := by
  obtain ⟨_, c0, _, _⟩ := h.cells hi
  obtain ⟨_, c1, _, _⟩ := h.cells hj
  have hi0 : (0 : Int) ≤ (i : Int) := Int.natCast_nonneg _
  have hi1 : (i : Int) < (l.length : Int) := by omega
  have hj0 : (0 : Int) ≤ (j : Int) := Int.natCast_nonneg _
  have hj1 : (j : Int) < (l.length : Int) := by omega
  have e0 : farAt l i = (l.getD i pl0).2 := rfl
  have e1 : farAt l j = (l.getD j pl0).2 := rfl
  rw [e0, e1]
  clear h e0 e1
  generalize (l.getD i pl0).2 = x at *
  generalize (l.getD j pl0).2 = y at *
  go_enter Try.func119, Try.ntmps119
  go_wp2
  go_quiet (fail)
  go_wp2
  go_ret
  exact ⟨rfl, _, rfl⟩

def SwapOut (F1 g cap : Nat) (l : List Pl) (i j : Nat) (w : World) (e : Ending) (w' : World) : Prop :=
  e = .returned (.tuple #[]) ∧ RowP w' F1 g cap (swapL l i j) ∧ w.grownBy w' (some g) ∧ w'.heap.size = w.heap.size

set_option maxHeartbeats 1000000 in
theorem swap_two (F1 g cap : Nat) (l : List Pl) (i j : Nat) (w : World) (h : RowP w F1 g cap l) (hi : i < l.length) (hj : j < l.length) (hne : i ≠ j) :
    Calls Try.prog 122 #[.slice (some ⟨g, 0, none⟩) l.length cap, .int .i64 i, .int .i64 j] w (SwapOut F1 g cap l i j w) := by
  obtain ⟨a0, a1, f0, f1⟩ := h.cells hi
  obtain ⟨b0, b1, f2, f3⟩ := h.cells hj
  have hi0 : (0 : Int) ≤ (i : Int) := Int.natCast_nonneg _
  have hi1 : (i : Int) < (l.length : Int) := by omega
  have hj0 : (0 : Int) ≤ (j : Int) := Int.natCast_nonneg _
  have hj1 : (j : Int) < (l.length : Int) := by omega
  have n0 : i * 2 ≠ j * 2 := by omega
  have n1 : i * 2 ≠ j * 2 + 1 := by omega
  have n2 : i * 2 + 1 ≠ j * 2 := by omega
  have n3 : i * 2 + 1 ≠ j * 2 + 1 := by omega
  have hfin := (h.set hi (l.getD j pl0)).set (k := j) (by simpa using hj) (l.getD i pl0)
  have H := Lib.hid hfin; clear hfin h
  generalize (l.getD i pl0).1 = x0 at *
  generalize (l.getD i pl0).2 = x1 at *
  generalize (l.getD j pl0).1 = y0 at *
  generalize (l.getD j pl0).2 = y1 at *
  go_enter Try.func122, Try.ntmps122
  go_wp2
  go_region
  all_goals
    go_wp2
    go_end0
    exact ⟨rfl, H.out.kept rfl, grown_drew (grown_set (grown_set (grown_set (grown_set (World.grownBy.refl _ _) _ _) _ _) _ _) _ _), by simp [World.setCell, World.drew]⟩

set_option maxHeartbeats 1000000 in
theorem swap_self (F1 g cap : Nat) (l : List Pl) (i : Nat) (w : World) (h : RowP w F1 g cap l) (hi : i < l.length) :
    Calls Try.prog 122 #[.slice (some ⟨g, 0, none⟩) l.length cap, .int .i64 i, .int .i64 i] w (SwapOut F1 g cap l i i w) := by
  obtain ⟨a0, a1, f0, f1⟩ := h.cells hi
  have hi0 : (0 : Int) ≤ (i : Int) := Int.natCast_nonneg _
  have hi1 : (i : Int) < (l.length : Int) := by omega
  have hfin := (h.set hi (l.getD i pl0)).set (k := i) (by simpa using hi) (l.getD i pl0)
  have H := Lib.hid hfin; clear hfin h
  generalize (l.getD i pl0).1 = x0 at *
  generalize (l.getD i pl0).2 = x1 at *
  go_enter Try.func122, Try.ntmps122
  go_wp2
  go_region
  all_goals
    go_wp2
    go_end0
    exact ⟨rfl, H.out.kept rfl, grown_drew (grown_set (grown_set (grown_set (grown_set (World.grownBy.refl _ _) _ _) _ _) _ _) _ _), by simp [World.setCell, World.drew]⟩

theorem swap_any (F1 g cap : Nat) (l : List Pl) (i j : Nat) (w : World) (h : RowP w F1 g cap l) (hi : i < l.length) (hj : j < l.length) :
    Calls Try.prog 122 #[.slice (some ⟨g, 0, none⟩) l.length cap, .int .i64 i, .int .i64 j] w (SwapOut F1 g cap l i j w) := by
  by_cases e : i = j
  · subst e; exact swap_self F1 g cap l i w h hi
  · exact swap_two F1 g cap l i j w h hi hj e

end Go.Proofs.Ytfdaaeapfeajjaa
