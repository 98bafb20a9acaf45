/- Clocks: the walks of ClockLocal and ClockUntil, program and model. -/
import Derived.Test.YtnlhnibhgpelfaaDoorProg
import Derived.Test.YtnlhnibhgpelfaaDoorM
import Derived.Test.YtnlhnibhgpelfaaDoorCA
import Derived.WalkKit
import Derived.WalkSpells
import Derived.WalkLawsBesides
import Derived.Lib.Hide
import Derived.IntWalk
import Derived.Deep.QuietTactic
import Derived.BigQuiet
import Derived.Outline
namespace Go.Proofs.YtnlhnibhgpelfaaDoor
open Go.RowKit

def inB (x lo hi : Int) : Bool := decide (lo ≤ x) && decide (x ≤ hi)

theorem inB_iff (x lo hi : Int) : inB x lo hi = true ↔ lo ≤ x ∧ x ≤ hi := by simp [inB]

set_option maxHeartbeats 400000 in
theorem l6In_any (x lo hi : Int) (w : World) :
    Calls Tryd.prog 12 #[.int .i64 x, .int .i64 lo, .int .i64 hi] w fun e w' => e = .returned (.bool (inB x lo hi)) ∧ w = w' := by
  by_cases h1 : lo ≤ x
  · go_enter Tryd.func12, Tryd.ntmps12
    go_wp2
    go_ret
    exact ⟨ret_bool (by simp [inB, h1]), rfl⟩
  · go_enter Tryd.func12, Tryd.ntmps12
    go_wp2
    go_ret
    exact ⟨ret_bool (by simp [inB]; omega), rfl⟩

theorem l6In_yes (x lo hi : Int) (w : World) (h : lo ≤ x ∧ x ≤ hi) :
    Calls Tryd.prog 12 #[.int .i64 x, .int .i64 lo, .int .i64 hi] w fun e w' => e = .returned (.bool true) ∧ w = w' := by
  have := l6In_any x lo hi w
  rwa [(inB_iff x lo hi).2 h] at this

theorem l6In_no (x lo hi : Int) (w : World) (h : ¬ (lo ≤ x ∧ x ≤ hi)) :
    Calls Tryd.prog 12 #[.int .i64 x, .int .i64 lo, .int .i64 hi] w fun e w' => e = .returned (.bool false) ∧ w = w' := by
  have := l6In_any x lo hi w
  rwa [Bool.eq_false_iff.2 (fun e => h ((inB_iff x lo hi).1 e))] at this

/-- A time. -/
def isT (t : Int) : Bool := decide (0 ≤ t) && decide (t ≤ 10000)
theorem isT_iff (t : Int) : isT t = true ↔ 0 ≤ t ∧ t ≤ 10000 := by simp [isT]

set_option maxHeartbeats 400000 in
theorem isTime_any (t : Int) (w : World) :
    Calls Tryd.prog 14 #[.int .i64 t] w fun e w' => e = .returned (.bool (isT t)) ∧ w = w' := by
  by_cases h1 : 0 ≤ t
  · go_enter Tryd.func14, Tryd.ntmps14
    go_wp2
    go_ret
    exact ⟨ret_bool (by simp [isT, h1]), rfl⟩
  · go_enter Tryd.func14, Tryd.ntmps14
    go_wp2
    go_ret
    exact ⟨ret_bool (by simp [isT]; omega), rfl⟩

/-- A minute of the day. -/
def isM (t : Int) : Bool := decide (0 ≤ t) && decide (t < 1440)
theorem isM_iff (t : Int) : isM t = true ↔ 0 ≤ t ∧ t < 1440 := by simp [isM]


set_option maxHeartbeats 400000 in
theorem clockOf_any (m : Int) (w : World) (h0 : -1440 < m) (h1 : m ≤ 20000) :
    Calls Tryd.prog 15 #[.int .i64 m] w fun e w' => e = .returned (.int .i64 (m % 1440)) ∧ w = w' := by
  by_cases hm : 0 ≤ m
  · have h2 : 0 ≤ m % 1440 := by omega
    go_enter Tryd.func15, Tryd.ntmps15
    go_wp2
    go_ret
    exact ⟨rfl, rfl⟩
  · have ht : m.tmod 1440 = m := by
      have h := Int.neg_tmod (-m) 1440
      rw [Int.neg_neg] at h
      rw [h, Int.tmod_eq_emod_of_nonneg (by omega)]
      omega
    have hq : m % 1440 = m + 1440 := by omega
    rw [hq]
    clear hq
    go_enter Tryd.func15, Tryd.ntmps15
    go_wp2
    go_ret
    exact ⟨rfl, rfl⟩



end Go.Proofs.YtnlhnibhgpelfaaDoor
