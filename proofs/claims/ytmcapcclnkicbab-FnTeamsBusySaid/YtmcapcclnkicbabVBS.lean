/- Heaps of homeTeam: swap, ahead. -/
import Derived.Test.YtmcapcclnkicbabRows
import Derived.Test.YtmcapcclnkicbabVB
namespace Go.Proofs.Ytmcapcclnkicbab
open Go.RowKit

set_option maxHeartbeats 400000 in
theorem aheadB_any (x y : Int) (w : World) :
    Calls Try.prog 64 #[.int .i64 x, .int .i64 y] w fun e w' => e = .returned (.bool (decide (x < y))) ∧ w = w' := by
  go_enter Try.func64, Try.ntmps64
  go_wp2
  go_ret
  exact ⟨rfl, rfl⟩

theorem aheadB_is (x y : Int) (w : World) {b : Bool} (h : decide (x < y) = b) :
    Calls Try.prog 64 #[.int .i64 x, .int .i64 y] w fun e w' => e = .returned (.bool b) ∧ w = w' := by
  have := aheadB_any x y w; rwa [h] at this

def SwapBOut (F1 g cap : Nat) (l : List Pl) (i j : Nat) (w : World) (e : Ending) (w' : World) : Prop :=
  e = .returned (.tuple #[]) ∧ RowB w' F1 g cap (swapL l i j) ∧ Touch (fun k => k = g) w w'

set_option maxRecDepth 100000 in
set_option maxHeartbeats 1000000 in
theorem swapB_two (F1 g cap X : Nat) (l : List Pl) (i j : Nat) (w : World) (hx : w.cell? ⟨X, 1, none⟩ = some (.slice (some ⟨g, 0, none⟩) l.length cap)) (h : RowB w F1 g cap l) (hi : i < l.length) (hj : j < l.length) (hgx : g ≠ X) (hne : i ≠ j) :
    Calls Try.prog 45 #[.pointer (some ⟨X, 1, none⟩), .int .i64 i, .int .i64 j] w (SwapBOut F1 g cap l i j w) := by
  obtain ⟨a0, f0⟩ := h.cells hi
  obtain ⟨b0, f2⟩ := h.cells hj
  have hi0 : (0 : Int) ≤ (i : Int) := Int.natCast_nonneg _
  have hi1 : (i : Int) < (l.length : Int) := by omega
  have hj0 : (0 : Int) ≤ (j : Int) := Int.natCast_nonneg _
  have hj1 : (j : Int) < (l.length : Int) := by omega
  have n0 : i ≠ j := hne
  have hxg : X ≠ g := Ne.symm hgx
  have hfin := (h.set hi (l.getD j pl0)).set (k := j) (by simpa using hj) (l.getD i pl0)
  have H := Lib.hid hfin; clear hfin h
  generalize (l.getD i pl0).2 = x1 at *
  generalize (l.getD j pl0).2 = y1 at *
  go_enter Try.func45, Try.ntmps45
  go_wp2
  go_region
  all_goals
    go_wp2
    go_end0
    exact ⟨rfl, H.out.kept rfl, (((Touch.refl (fun k => k = g) w).setCell rfl _).setCell rfl _).drew⟩

set_option maxRecDepth 100000 in
set_option maxHeartbeats 1000000 in
theorem swapB_self (F1 g cap X : Nat) (l : List Pl) (i : Nat) (w : World) (hx : w.cell? ⟨X, 1, none⟩ = some (.slice (some ⟨g, 0, none⟩) l.length cap)) (h : RowB w F1 g cap l) (hi : i < l.length) (hgx : g ≠ X) :
    Calls Try.prog 45 #[.pointer (some ⟨X, 1, none⟩), .int .i64 i, .int .i64 i] w (SwapBOut F1 g cap l i i w) := by
  obtain ⟨a0, f0⟩ := h.cells hi
  have hi0 : (0 : Int) ≤ (i : Int) := Int.natCast_nonneg _
  have hi1 : (i : Int) < (l.length : Int) := by omega
  have hxg : X ≠ g := Ne.symm hgx
  have hfin := (h.set hi (l.getD i pl0)).set (k := i) (by simpa using hi) (l.getD i pl0)
  have H := Lib.hid hfin; clear hfin h
  generalize (l.getD i pl0).2 = x1 at *
  go_enter Try.func45, Try.ntmps45
  go_wp2
  go_region
  all_goals
    go_wp2
    go_end0
    exact ⟨rfl, H.out.kept rfl, (((Touch.refl (fun k => k = g) w).setCell rfl _).setCell rfl _).drew⟩

theorem swapB_any (F1 g cap X : Nat) (l : List Pl) (i j : Nat) (w : World) (hx : w.cell? ⟨X, 1, none⟩ = some (.slice (some ⟨g, 0, none⟩) l.length cap)) (h : RowB w F1 g cap l) (hi : i < l.length) (hj : j < l.length) (hgx : g ≠ X) :
    Calls Try.prog 45 #[.pointer (some ⟨X, 1, none⟩), .int .i64 i, .int .i64 j] w (SwapBOut F1 g cap l i j w) := by
  by_cases e : i = j
  · subst e; exact swapB_self F1 g cap X l i w hx h hi hgx
  · exact swapB_two F1 g cap X l i j w hx h hi hj hgx e

end Go.Proofs.Ytmcapcclnkicbab
