/- Clocks as texts: the program's (strconv.Itoa at one digit, by the library's contract FI). -/
import Derived.Test.YtnlhnibhgpelfaaDoorCD
import Derived.Test.YtnlhnibhgpelfaaDoorFI
namespace Go.Proofs.YtnlhnibhgpelfaaDoor
open Go.RowKit

theorem dec_one (k : Nat) (h : k < 10) : Lib.decDigits k = [dgB k] := by
  have : ∀ j : Fin 10, Lib.decDigits j.val = [dgB j.val] := by decide +kernel
  exact this ⟨k, h⟩

theorem itoa_one (k : Int) (w : World) (h0 : 0 ≤ k) (h : k < 10) :
    Calls Tryd.prog 28 #[.int .i64 k] w fun e w' => e = .returned (.string ⟨#[dgB k.toNat]⟩) ∧ w' = w := by
  have hc := Tryd.strconv_Itoa_small k.toNat (by omega) w
  rw [dec_one _ (by omega), Int.toNat_of_nonneg h0] at hc
  exact hc

set_option maxHeartbeats 400000 in
theorem twoDigits_any (n : Int) (w : World) (h0 : 0 ≤ n) (h : n < 100) :
    Calls Tryd.prog 24 #[.int .i64 n] w fun e w' => e = .returned (.string (two n)) ∧ w' = w := by
  go_enter Tryd.func24, Tryd.ntmps24
  go_wp2_with fail
  refine (itoa_one _ _ (by omega) (by omega)).mono ?_; rintro e w1 ⟨rfl, rfl⟩
  go_wp2_with fail
  refine (itoa_one _ _ (by omega) (by omega)).mono ?_; rintro e w2 ⟨rfl, rfl⟩
  go_wp2
  go_ret
  exact ⟨ret_str (by rw [ba_app]; rfl), rfl⟩

theorem clock_two' (c : Int) (h0 : 0 ≤ c) (h1 : c < 1440) : two (c / 60) ++ ⟨#[46]⟩ ++ two (c % 60) = clockB c.toNat := by
  have e := clock_two c h0
  have e1 : c % 1440 = c := by omega
  rw [e1] at e
  exact e

set_option maxHeartbeats 400000 in
theorem textOf_any (c : Int) (w : World) (h0 : 0 ≤ c) (h1 : c < 1440) :
    Calls Tryd.prog 16 #[.int .i64 c] w fun e w' => e = .returned (.string (clockB c.toNat)) ∧ w' = w := by
  have Hc := Lib.hid (clock_two' c h0 h1)
  go_enter Tryd.func16, Tryd.ntmps16
  go_wp2_with fail
  refine (twoDigits_any _ _ (by omega) (by omega)).mono ?_; rintro e w1 ⟨rfl, rfl⟩
  go_wp2_with fail
  refine (twoDigits_any _ _ (by omega) (by omega)).mono ?_; rintro e w2 ⟨rfl, rfl⟩
  go_wp2
  go_ret
  exact ⟨ret_str Hc.out, rfl⟩

set_option maxHeartbeats 400000 in
theorem text2_any (t : Int) (w : World) :
    Calls Tryd.prog 6 #[.int .i64 t] w fun e w' => e = .returned (.string (clockT t)) ∧ Below w.heap.size w w' := by
  by_cases ht : 0 ≤ t ∧ t ≤ 10000
  · have hI : isT t = true := (isT_iff _).2 ht
    obtain ⟨ht0, ht1⟩ := ht
    rw [clockT_yes ht0 ht1]
    have hq0 : 0 ≤ t % 1440 := by omega
    have hq1 : t % 1440 < 1440 := by omega
    go_enter Tryd.func6, Tryd.ntmps6
    go_wp2_with fail
    refine (isTime_any _ _).mono ?_; rintro e w' ⟨rfl, rfl⟩
    go_wp2_with fail
    refine (clockOf_any _ _ (by omega) (by omega)).mono ?_; rintro e w' ⟨rfl, rfl⟩
    go_wp2_with fail
    refine (textOf_any _ _ hq0 hq1).mono ?_; rintro e w1 ⟨rfl, rfl⟩
    go_wp2
    go_ret
    exact ⟨rfl, Below.refl _ _⟩
  · have hI : isT t = false := Bool.eq_false_iff.2 (fun h => ht ((isT_iff _).1 h))
    rw [clockT_no ht]
    clear ht
    go_enter Tryd.func6, Tryd.ntmps6
    go_wp2_with fail
    refine (isTime_any _ _).mono ?_; rintro e w' ⟨rfl, rfl⟩
    go_wp2
    go_ret
    exact ⟨rfl, Below.refl _ _⟩

end Go.Proofs.YtnlhnibhgpelfaaDoor
