/- ClockLocal and ClockUntil: program and model give one answer. -/
import Derived.Test.YtnlhnibhgpelfabDoorCB
namespace Go.Proofs.YtnlhnibhgpelfabDoor
open Go.RowKit

def locOk (t a : Int) : Bool := isT t && inB a (-720) 720
def locV (t a : Int) : Int := if locOk t a = true then (t + a) % 1440 else 0

set_option maxHeartbeats 400000 in
theorem loc2_any (t a : Int) (w : World) :
    Calls Tryd.prog 13 #[.int .i64 t, .int .i64 a] w fun e w' => e = .returned (.tuple #[.int .i64 (locV t a), .bool (locOk t a)]) ∧ w = w' := by
  by_cases ht : 0 ≤ t ∧ t ≤ 10000
  · have hT : isT t = true := (isT_iff t).2 ht
    obtain ⟨ht0, ht1⟩ := ht
    by_cases ha : -720 ≤ a
    · by_cases ha' : a ≤ 720
      · have ho : locOk t a = true := by unfold locOk; rw [hT, (inB_iff _ _ _).2 ⟨ha, ha'⟩]; rfl
        have hv : locV t a = (t + a) % 1440 := by unfold locV; rw [if_pos ho]
        rw [ho, hv]
        clear ho hv
        go_enter Tryd.func13, Tryd.ntmps13
        go_wp2_with (first | (go_at_call 18; refine (isTime_any _ _).mono ?_; rintro e w' ⟨rfl, rfl⟩) | (go_at_call 19; refine (clockOf_any _ _ (by omega) (by omega)).mono ?_; rintro e w' ⟨rfl, rfl⟩) | (go_at_call 26; refine (later_any _ _ _ (by omega) (by omega) (by omega) (by omega)).mono ?_; rintro e w' ⟨rfl, rfl⟩))
        go_ret2
        exact ⟨rfl, rfl⟩
      · have ho : locOk t a = false := by rw [Bool.eq_false_iff]; intro h; simp only [locOk, Bool.and_eq_true, inB_iff] at h; omega
        have hv : locV t a = 0 := by unfold locV; rw [ho]; rfl
        rw [ho, hv]
        clear ho hv
        go_enter Tryd.func13, Tryd.ntmps13
        go_wp2_with (go_at_call 18; refine (isTime_any _ _).mono ?_; rintro e w' ⟨rfl, rfl⟩)
        go_ret2
        exact ⟨rfl, rfl⟩
    · have ho : locOk t a = false := by rw [Bool.eq_false_iff]; intro h; simp only [locOk, Bool.and_eq_true, inB_iff] at h; omega
      have hv : locV t a = 0 := by unfold locV; rw [ho]; rfl
      rw [ho, hv]
      clear ho hv
      go_enter Tryd.func13, Tryd.ntmps13
      go_wp2_with (go_at_call 18; refine (isTime_any _ _).mono ?_; rintro e w' ⟨rfl, rfl⟩)
      go_ret2
      exact ⟨rfl, rfl⟩
  · have hT : isT t = false := Bool.eq_false_iff.2 (fun h => ht ((isT_iff t).1 h))
    have ho : locOk t a = false := by unfold locOk; rw [hT]; rfl
    have hv : locV t a = 0 := by unfold locV; rw [ho]; rfl
    rw [ho, hv]
    clear ho hv ht
    go_enter Tryd.func13, Tryd.ntmps13
    go_wp2_with (go_at_call 18; refine (isTime_any _ _).mono ?_; rintro e w' ⟨rfl, rfl⟩)
    go_ret2
    exact ⟨rfl, rfl⟩

set_option maxHeartbeats 400000 in
theorem loc1_any (t a : Int) (w : World) :
    Calls Tryd.prog 14 #[.int .i64 t, .int .i64 a] w fun e w' => e = .returned (.tuple #[.int .i64 (locV t a), .bool (locOk t a)]) ∧ w = w' := by
  by_cases ht : 0 ≤ t ∧ t ≤ 10000
  · have hT : isT t = true := (isT_iff t).2 ht
    have hI : inB t 0 10000 = true := (inB_iff _ _ _).2 ht
    obtain ⟨ht0, ht1⟩ := ht
    by_cases ha : -720 ≤ a ∧ a ≤ 720
    · have hA : inB a (-720) 720 = true := (inB_iff _ _ _).2 ha
      have ho : locOk t a = true := by unfold locOk; rw [hT, hA]; rfl
      have hv : locV t a = (t + a + 1440) % 1440 := by unfold locV; rw [if_pos ho]; omega
      obtain ⟨ha0, ha1⟩ := ha
      rw [ho, hv]
      clear ho hv hT
      go_enter Tryd.func14, Tryd.ntmps14
      go_wp2_with (go_at_call 21; refine (l6In_any _ _ _ _).mono ?_; rintro e w' ⟨rfl, rfl⟩)
      go_ret2
      exact ⟨rfl, rfl⟩
    · have hA : inB a (-720) 720 = false := Bool.eq_false_iff.2 (fun h => ha ((inB_iff _ _ _).1 h))
      have ho : locOk t a = false := by unfold locOk; rw [hA]; simp
      have hv : locV t a = 0 := by unfold locV; rw [ho]; rfl
      rw [ho, hv]
      clear ho hv ha hT
      go_enter Tryd.func14, Tryd.ntmps14
      go_wp2_with (go_at_call 21; refine (l6In_any _ _ _ _).mono ?_; rintro e w' ⟨rfl, rfl⟩)
      go_ret2
      exact ⟨rfl, rfl⟩
  · have hT : isT t = false := Bool.eq_false_iff.2 (fun h => ht ((isT_iff t).1 h))
    have hI : inB t 0 10000 = false := Bool.eq_false_iff.2 (fun h => ht ((inB_iff _ _ _).1 h))
    have ho : locOk t a = false := by unfold locOk; rw [hT]; rfl
    have hv : locV t a = 0 := by unfold locV; rw [ho]; rfl
    rw [ho, hv]
    clear ho hv ht hT
    go_enter Tryd.func14, Tryd.ntmps14
    go_wp2_with (go_at_call 21; refine (l6In_any _ _ _ _).mono ?_; rintro e w' ⟨rfl, rfl⟩)
    go_ret2
    exact ⟨rfl, rfl⟩

def untilV (a b : Int) : Int := if (isM a && isM b) = true then (b - a) % 1440 else -1

set_option maxHeartbeats 400000 in
theorem until2_any (a b : Int) (w : World) :
    Calls Tryd.prog 15 #[.int .i64 a, .int .i64 b] w fun e w' => e = .returned (.int .i64 (untilV a b)) ∧ w = w' := by
  by_cases ha : 0 ≤ a ∧ a < 1440
  · have hA : isM a = true := (isM_iff a).2 ha
    obtain ⟨ha0, ha1⟩ := ha
    by_cases hb : 0 ≤ b ∧ b < 1440
    · have hB : isM b = true := (isM_iff b).2 hb
      obtain ⟨hb0, hb1⟩ := hb
      have hv : untilV a b = (b + -a) % 1440 := by unfold untilV; rw [hA, hB]; rfl
      rw [hv]
      clear hv
      go_enter Tryd.func15, Tryd.ntmps15
      go_wp2_with (first | (go_at_call 27; refine (isMinute_any _ _).mono ?_; rintro e w' ⟨rfl, rfl⟩) | (go_at_call 28; refine (until_any _ _ _ (by omega) (by omega) (by omega) (by omega)).mono ?_; rintro e w' ⟨rfl, rfl⟩))
      go_ret
      exact ⟨rfl, rfl⟩
    · have hB : isM b = false := Bool.eq_false_iff.2 (fun h => hb ((isM_iff b).1 h))
      have hv : untilV a b = -1 := by unfold untilV; rw [hA, hB]; rfl
      rw [hv]
      clear hv hb
      go_enter Tryd.func15, Tryd.ntmps15
      go_wp2_with (go_at_call 27; refine (isMinute_any _ _).mono ?_; rintro e w' ⟨rfl, rfl⟩)
      go_ret
      exact ⟨rfl, rfl⟩
  · have hA : isM a = false := Bool.eq_false_iff.2 (fun h => ha ((isM_iff a).1 h))
    have hv : untilV a b = -1 := by unfold untilV; rw [hA]; rfl
    rw [hv]
    clear hv ha
    go_enter Tryd.func15, Tryd.ntmps15
    go_wp2_with (go_at_call 27; refine (isMinute_any _ _).mono ?_; rintro e w' ⟨rfl, rfl⟩)
    go_ret
    exact ⟨rfl, rfl⟩


end Go.Proofs.YtnlhnibhgpelfabDoor
