/- ClockLocal and ClockUntil: program and model give one answer. -/
import Derived.Test.YtnlhnibhgpelfabCB
namespace Go.Proofs.Ytnlhnibhgpelfab
open Go.RowKit

def locOk (t a : Int) : Bool := isT t && inB a (-720) 720
def locV (t a : Int) : Int := if locOk t a = true then (t + a) % 1440 else 0



def untilV (a b : Int) : Int := if (isM a && isM b) = true then (b - a) % 1440 else -1

set_option maxHeartbeats 400000 in
theorem until2_any (a b : Int) (w : World) :
    Calls Try.prog 6 #[.int .i64 a, .int .i64 b] w fun e w' => e = .returned (.int .i64 (untilV a b)) ∧ w = w' := by
  by_cases ha : 0 ≤ a ∧ a < 1440
  · have hA : isM a = true := (isM_iff a).2 ha
    obtain ⟨ha0, ha1⟩ := ha
    by_cases hb : 0 ≤ b ∧ b < 1440
    · have hB : isM b = true := (isM_iff b).2 hb
      obtain ⟨hb0, hb1⟩ := hb
      have hv : untilV a b = (b + -a) % 1440 := by unfold untilV; rw [hA, hB]; rfl
      rw [hv]
      clear hv
      go_enter Try.func6, Try.ntmps6
      go_wp2_with (first | (go_at_call 17; refine (isMinute_any _ _).mono ?_; rintro e w' ⟨rfl, rfl⟩) | (go_at_call 18; refine (until_any _ _ _ (by omega) (by omega) (by omega) (by omega)).mono ?_; rintro e w' ⟨rfl, rfl⟩))
      go_ret
      exact ⟨rfl, rfl⟩
    · have hB : isM b = false := Bool.eq_false_iff.2 (fun h => hb ((isM_iff b).1 h))
      have hv : untilV a b = -1 := by unfold untilV; rw [hA, hB]; rfl
      rw [hv]
      clear hv hb
      go_enter Try.func6, Try.ntmps6
      go_wp2_with (go_at_call 17; refine (isMinute_any _ _).mono ?_; rintro e w' ⟨rfl, rfl⟩)
      go_ret
      exact ⟨rfl, rfl⟩
  · have hA : isM a = false := Bool.eq_false_iff.2 (fun h => ha ((isM_iff a).1 h))
    have hv : untilV a b = -1 := by unfold untilV; rw [hA]; rfl
    rw [hv]
    clear hv ha
    go_enter Try.func6, Try.ntmps6
    go_wp2_with (go_at_call 17; refine (isMinute_any _ _).mono ?_; rintro e w' ⟨rfl, rfl⟩)
    go_ret
    exact ⟨rfl, rfl⟩

set_option maxHeartbeats 400000 in
theorem until1_any (a b : Int) (w : World) :
    Calls Try.prog 7 #[.int .i64 a, .int .i64 b] w fun e w' => e = .returned (.int .i64 (untilV a b)) ∧ w = w' := by
  by_cases ha : 0 ≤ a ∧ a < 1440
  · have hA : isM a = true := (isM_iff a).2 ha
    have hA' : inB a 0 1439 = true := (inB_iff _ _ _).2 (by omega)
    obtain ⟨ha0, ha1⟩ := ha
    by_cases hb : 0 ≤ b ∧ b < 1440
    · have hB : isM b = true := (isM_iff b).2 hb
      have hB' : inB b 0 1439 = true := (inB_iff _ _ _).2 (by omega)
      obtain ⟨hb0, hb1⟩ := hb
      have hv : untilV a b = (b - a + 1440) % 1440 := by unfold untilV; rw [hA, hB]; simp
      rw [hv]
      clear hv hA hB
      go_enter Try.func7, Try.ntmps7
      go_wp2_with (go_at_call 19; refine (l6In_any _ _ _ _).mono ?_; rintro e w' ⟨rfl, rfl⟩)
      go_ret
      exact ⟨rfl, rfl⟩
    · have hB : isM b = false := Bool.eq_false_iff.2 (fun h => hb ((isM_iff b).1 h))
      have hB' : inB b 0 1439 = false := Bool.eq_false_iff.2 (fun h => hb (by have := (inB_iff _ _ _).1 h; omega))
      have hv : untilV a b = -1 := by unfold untilV; rw [hA, hB]; rfl
      rw [hv]
      clear hv hb hA hB
      go_enter Try.func7, Try.ntmps7
      go_wp2_with (go_at_call 19; refine (l6In_any _ _ _ _).mono ?_; rintro e w' ⟨rfl, rfl⟩)
      go_ret
      exact ⟨rfl, rfl⟩
  · have hA : isM a = false := Bool.eq_false_iff.2 (fun h => ha ((isM_iff a).1 h))
    have hA' : inB a 0 1439 = false := Bool.eq_false_iff.2 (fun h => ha (by have := (inB_iff _ _ _).1 h; omega))
    have hv : untilV a b = -1 := by unfold untilV; rw [hA]; rfl
    rw [hv]
    clear hv ha hA
    go_enter Try.func7, Try.ntmps7
    go_wp2_with (go_at_call 19; refine (l6In_any _ _ _ _).mono ?_; rintro e w' ⟨rfl, rfl⟩)
    go_ret
    exact ⟨rfl, rfl⟩

end Go.Proofs.Ytnlhnibhgpelfab
