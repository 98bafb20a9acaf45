/- Heaps of awayTeam: swap, ahead. -/
import Derived.Test.YtmcapcclnkicbabRows
import Derived.Test.YtmcapcclnkicbabVA
namespace Go.Proofs.Ytmcapcclnkicbab
open Go.RowKit

def aheadB (a b : Int) : Bool := decide (a < b)
set_option maxHeartbeats 400000 in
theorem aheadA_any (x0 x1 y0 y1 : Int) (w : World) :
    Calls Try.prog 63 #[.agg #[.int .i64 x0, .int .i64 x1], .agg #[.int .i64 y0, .int .i64 y1]] w fun e w' => e = .returned (.bool (decide (x1 < y1))) ∧ Below w.heap.size w w' := by
  go_enter Try.func63, Try.ntmps63
  go_wp2
  go_ret
  exact ⟨rfl, ((Below.refl _ _).alloc (Nat.le_refl _) _).alloc (by simp) _⟩

theorem aheadA_is (x0 x1 y0 y1 : Int) (w : World) {b : Bool} (h : decide (x1 < y1) = b) :
    Calls Try.prog 63 #[.agg #[.int .i64 x0, .int .i64 x1], .agg #[.int .i64 y0, .int .i64 y1]] w fun e w' => e = .returned (.bool b) ∧ Below w.heap.size w w' := by
  have := aheadA_any x0 x1 y0 y1 w; rwa [h] at this

def SwapAOut (F1 g cap : Nat) (l : List Pl) (i j : Nat) (w : World) (e : Ending) (w' : World) : Prop :=
  e = .returned (.tuple #[]) ∧ RowA w' F1 g cap (swapL l i j) ∧ Touch (fun k => k = g) w w'

set_option maxRecDepth 100000 in
set_option maxHeartbeats 1000000 in
theorem swapA_two (F1 g cap X : Nat) (l : List Pl) (i j : Nat) (w : World) (hx : w.cell? ⟨X, 0, none⟩ = some (.slice (some ⟨g, 0, none⟩) l.length cap)) (h : RowA w F1 g cap l) (hi : i < l.length) (hj : j < l.length) (hgx : g ≠ X) (hne : i ≠ j) :
    Calls Try.prog 43 #[.pointer (some ⟨X, 0, none⟩), .int .i64 i, .int .i64 j] w (SwapAOut F1 g cap l i j w) := by
  obtain ⟨a0, a1, f0, f1⟩ := h.cells hi
  obtain ⟨b0, b1, f2, f3⟩ := h.cells hj
  have hi0 : (0 : Int) ≤ (i : Int) := Int.natCast_nonneg _
  have hi1 : (i : Int) < (l.length : Int) := by omega
  have hj0 : (0 : Int) ≤ (j : Int) := Int.natCast_nonneg _
  have hj1 : (j : Int) < (l.length : Int) := by omega
  have n0 : i * 2 ≠ j * 2 := by omega
  have n1 : i * 2 ≠ j * 2 + 1 := by omega
  have n2 : i * 2 + 1 ≠ j * 2 := by omega
  have n3 : i * 2 + 1 ≠ j * 2 + 1 := by omega
  have hxg : X ≠ g := Ne.symm hgx
  have hfin := (h.set hi (l.getD j pl0)).set (k := j) (by simpa using hj) (l.getD i pl0)
  have H := Lib.hid hfin; clear hfin h
  generalize (l.getD i pl0).1 = x0 at *
  generalize (l.getD i pl0).2 = x1 at *
  generalize (l.getD j pl0).1 = y0 at *
  generalize (l.getD j pl0).2 = y1 at *
  go_enter Try.func43, Try.ntmps43
  go_wp2
  go_region
  all_goals
    go_wp2
    go_end0
    exact ⟨rfl, H.out.kept rfl, (((((Touch.refl (fun k => k = g) w).setCell rfl _).setCell rfl _).setCell rfl _).setCell rfl _).drew⟩

set_option maxRecDepth 100000 in
set_option maxHeartbeats 1000000 in
theorem swapA_self (F1 g cap X : Nat) (l : List Pl) (i : Nat) (w : World) (hx : w.cell? ⟨X, 0, none⟩ = some (.slice (some ⟨g, 0, none⟩) l.length cap)) (h : RowA w F1 g cap l) (hi : i < l.length) (hgx : g ≠ X) :
    Calls Try.prog 43 #[.pointer (some ⟨X, 0, none⟩), .int .i64 i, .int .i64 i] w (SwapAOut F1 g cap l i i w) := by
  obtain ⟨a0, a1, f0, f1⟩ := h.cells hi
  have hi0 : (0 : Int) ≤ (i : Int) := Int.natCast_nonneg _
  have hi1 : (i : Int) < (l.length : Int) := by omega
  have hxg : X ≠ g := Ne.symm hgx
  have hfin := (h.set hi (l.getD i pl0)).set (k := i) (by simpa using hi) (l.getD i pl0)
  have H := Lib.hid hfin; clear hfin h
  generalize (l.getD i pl0).1 = x0 at *
  generalize (l.getD i pl0).2 = x1 at *
  go_enter Try.func43, Try.ntmps43
  go_wp2
  go_region
  all_goals
    go_wp2
    go_end0
    exact ⟨rfl, H.out.kept rfl, (((((Touch.refl (fun k => k = g) w).setCell rfl _).setCell rfl _).setCell rfl _).setCell rfl _).drew⟩

theorem swapA_any (F1 g cap X : Nat) (l : List Pl) (i j : Nat) (w : World) (hx : w.cell? ⟨X, 0, none⟩ = some (.slice (some ⟨g, 0, none⟩) l.length cap)) (h : RowA w F1 g cap l) (hi : i < l.length) (hj : j < l.length) (hgx : g ≠ X) :
    Calls Try.prog 43 #[.pointer (some ⟨X, 0, none⟩), .int .i64 i, .int .i64 j] w (SwapAOut F1 g cap l i j w) := by
  by_cases e : i = j
  · subst e; exact swapA_self F1 g cap X l i w hx h hi hgx
  · exact swapA_two F1 g cap X l i j w hx h hi hj hgx e

end Go.Proofs.Ytmcapcclnkicbab
