/- The program's functions over planOf: BookingsValid, ifBookings, SeatsTaken, SeatsRide, SeatsFull, SeatsFree, SeatingMake. -/
import Derived.Test.YtlkhgnglblgldaaEV
import Derived.Test.YtlkhgnglblgldaaER
import Derived.Test.YtlkhgnglblgldaaIO
namespace Go.Proofs.Ytlkhgnglblgldaa
open Go.RowKit

theorem plan_yes (n : Int) (v : Value) (l : List Bk) (hz : validB n l = true) : ∃ p q, planB l = some (p, q) ∧ ∀ w, BkIn w v l → Calls Try.prog 75 #[.int .i64 n, v] w (PlanOut l p q w) := by
  rw [validB_plan] at hz
  simp only [Bool.and_eq_true] at hz
  cases hp : planB l with
  | none => rw [hp] at hz; cases hz.2
  | some pq =>
    obtain ⟨p, q⟩ := pq
    refine ⟨p, q, rfl, fun w hv => (plan_any n v l w hv hz.1).mono fun e w' h => ?_⟩
    unfold PlanRes at h
    rwa [hp] at h
theorem plan_no_big (n : Int) (v : Value) (l : List Bk) (w : World) (hv : BkIn w v l) (hl : l.length ≤ 2097152) (hz : validB n l = false) : Calls Try.prog 75 #[.int .i64 n, v] w (PlanNo w) := by
  cases ho : okB n l with
  | false => exact plan_bad n v l w hv hl ho
  | true =>
    rw [validB_plan, ho, Bool.true_and] at hz
    refine (plan_any n v l w hv ho).mono fun e w' h => ?_
    unfold PlanRes at h
    cases hp : planB l with
    | none => rwa [hp] at h
    | some pq => rw [hp] at hz; cases hz

theorem plan_no (n : Int) (v : Value) (l : List Bk) (w : World) (hv : BkIn w v l) (hl : l.length ≤ 1048576) (hz : validB n l = false) : Calls Try.prog 75 #[.int .i64 n, v] w (PlanNo w) := plan_no_big n v l w hv (by omega) hz

set_option maxHeartbeats 400000 in
theorem books2_big (n : Int) (v : Value) (l : List Bk) (w : World) (hv : BkIn w v l) (hl : l.length ≤ 2097152) :
    Calls Try.prog 43 #[.int .i64 n, v] w (Gives (.bool (validB n l)) w) := by
  cases hz : validB n l with
  | true =>
    obtain ⟨p, q, _, hc⟩ := plan_yes n v l hz
    have HC := Lib.hid (hc w hv)
    clear hv hz hc
    go_enter Try.func43, Try.ntmps43
    go_wp2_with fail
    refine HC.out.mono ?_; rintro e w1 ⟨b, cap, rfl, _, _, _, _, _, _, hb1⟩
    have HB := Lib.hid hb1; clear hb1
    go_wp2
    go_ret
    exact ⟨rfl, HB.out⟩
  | false =>
    have HC := Lib.hid (plan_no_big n v l w hv hl hz)
    clear hv hz
    go_enter Try.func43, Try.ntmps43
    go_wp2_with fail
    refine HC.out.mono ?_; rintro e w1 ⟨rfl, hb1⟩
    have HB := Lib.hid hb1; clear hb1
    go_wp2
    go_ret
    exact ⟨rfl, HB.out⟩

theorem books2_any (n : Int) (v : Value) (l : List Bk) (w : World) (hv : BkIn w v l) (hl : l.length ≤ 1048576) :
    Calls Try.prog 43 #[.int .i64 n, v] w (Gives (.bool (validB n l)) w) := books2_big n v l w hv (by omega)






end Go.Proofs.Ytlkhgnglblgldaa
