/- Clocks as texts: the model's. -/
import Derived.Test.YtnlhnibhgpelfaaDoorCB
import Derived.Laws.IdiomStrings
namespace Go.Proofs.YtnlhnibhgpelfaaDoor
open Go.RowKit

theorem run_one_string {P : Program} (src dst e : TypeId) (hs : P.underlying src = some (.slice e)) (he : P.underlying e = some (.int .u8)) (hd : P.underlying dst = some .string) (w : World) (z : Int) (b : UInt8) (hz : z = (b.toNat : Int)) :
    (convert src dst (.slice (some ⟨w.heap.size, 0, none⟩) 1 1)).run P (w.alloc (.cells #[.int .u8 z] e)) = .ok (.string ⟨#[b]⟩) (w.alloc (.cells #[.int .u8 z] e)) := by
  have h := run_convert_bytes_back (P := P) (w.alloc (.cells #[.int .u8 z] e)) src dst e ⟨w.heap.size, 0, none⟩ 1 [b] hs he hd (fun j hj => by
    simp only [List.length_cons, List.length_nil] at hj
    obtain rfl : j = 0 := by omega
    subst hz
    simp [Addr.add])
  exact h

set_option maxHeartbeats 400000 in
theorem l6Dec_any (n : Nat) (w : World) (h : n < 10) :
    Calls Tryd.prog 18 #[.int .i64 n] w fun e w' => e = .returned (.string ⟨#[dgB n]⟩) ∧ Below w.heap.size w w' := by
  have h0 : (0 : Int) ≤ (n : Int) := Int.natCast_nonneg _
  have h1 : (n : Int) < 10 := by omega
  have hk := fun W => run_one_string (P := Tryd.prog) 51 9 5 Tryd.underlying51 Tryd.underlying5 Tryd.underlying9 W (48 + n) (dgB n) (by rw [dgB_nat h]; omega)
  go_enter Tryd.func18, Tryd.ntmps18
  go_wp2
  go_ret
  exact ⟨rfl, (Below.refl _ _).alloc (Nat.le_refl _) _⟩

theorem l6DecI_any (n : Int) (w : World) (h0 : 0 ≤ n) (h : n < 10) :
    Calls Tryd.prog 18 #[.int .i64 n] w fun e w' => e = .returned (.string ⟨#[dgB n.toNat]⟩) ∧ Below w.heap.size w w' := by
  have := l6Dec_any n.toNat w (by omega)
  rwa [Int.toNat_of_nonneg h0] at this

theorem ba_app (x y : Array UInt8) : (⟨x⟩ : ByteArray) ++ ⟨y⟩ = ⟨x ++ y⟩ := by
  apply ByteArray.ext
  simp

theorem ret_str {s t : ByteArray} (h : s = t) : Ending.returned (.string s) = .returned (.string t) := by rw [h]

theorem str_eq {s t : ByteArray} (h : s.toList = t.toList) : s = t := by
  rw [ByteArray.toList_eq, ByteArray.toList_eq] at h
  exact ba_ext h

/-- A number below 100 with two digits. -/
def two (n : Int) : ByteArray := ⟨#[dgB (n / 10).toNat, dgB (n % 10).toNat]⟩

set_option maxHeartbeats 400000 in
theorem l2Two_any (n : Int) (w : World) (h0 : 0 ≤ n) (h : n < 100) :
    Calls Tryd.prog 13 #[.int .i64 n] w fun e w' => e = .returned (.string (two n)) ∧ Below w.heap.size w w' := by
  go_enter Tryd.func13, Tryd.ntmps13
  go_wp2_with fail
  refine (l6DecI_any _ _ (by omega) (by omega)).mono ?_; rintro e w1 ⟨rfl, hb1⟩
  go_wp2_with fail
  refine (l6DecI_any _ _ (by omega) (by omega)).mono ?_; rintro e w2 ⟨rfl, hb2⟩
  go_wp2
  go_ret
  exact ⟨ret_str (by rw [ba_app]; rfl), hb1.trans (hb2.mono hb1.size)⟩

theorem clock_two (t : Int) (h0 : 0 ≤ t) : two (t % 1440 / 60) ++ ⟨#[46]⟩ ++ two (t % 60) = clockB (t % 1440).toNat := by
  have e1 : (t % 1440 / 60 / 10).toNat = (t % 1440).toNat / 60 / 10 := by omega
  have e2 : (t % 1440 / 60 % 10).toNat = (t % 1440).toNat / 60 % 10 := by omega
  have e3 : (t % 60 / 10).toNat = (t % 1440).toNat % 60 / 10 := by omega
  have e4 : (t % 60 % 10).toNat = (t % 1440).toNat % 60 % 10 := by omega
  unfold two clockB clockL
  rw [ba_app, ba_app, e1, e2, e3, e4]
  rfl

/-- The clock of a time. -/
def clockT (t : Int) : ByteArray := if isT t = true then clockB (t % 1440).toNat else ⟨#[]⟩

theorem clockT_yes {t : Int} (h0 : 0 ≤ t) (h1 : t ≤ 10000) : clockT t = clockB (t % 1440).toNat := by
  unfold clockT; rw [if_pos ((isT_iff t).2 ⟨h0, h1⟩)]

theorem clockT_no {t : Int} (h : ¬ (0 ≤ t ∧ t ≤ 10000)) : clockT t = ⟨#[]⟩ := by
  unfold clockT; rw [if_neg (fun e => h ((isT_iff t).1 e))]

set_option maxHeartbeats 400000 in
theorem text1_any (t : Int) (w : World) :
    Calls Tryd.prog 5 #[.int .i64 t] w fun e w' => e = .returned (.string (clockT t)) ∧ Below w.heap.size w w' := by
  by_cases ht : 0 ≤ t ∧ t ≤ 10000
  · have hI : inB t 0 10000 = true := (inB_iff _ _ _).2 ht
    obtain ⟨ht0, ht1⟩ := ht
    rw [clockT_yes ht0 ht1]
    have Hc := Lib.hid (clock_two t ht0)
    go_enter Tryd.func5, Tryd.ntmps5
    go_wp2_with fail
    refine (l6In_any _ _ _ _).mono ?_; rintro e w' ⟨rfl, rfl⟩
    go_wp2_with fail
    refine (l2Two_any _ _ (by omega) (by omega)).mono ?_; rintro e w1 ⟨rfl, hb1⟩
    go_wp2_with fail
    refine (l2Two_any _ _ (by omega) (by omega)).mono ?_; rintro e w2 ⟨rfl, hb2⟩
    go_wp2
    go_ret
    exact ⟨ret_str Hc.out, hb1.trans (hb2.mono hb1.size)⟩
  · have hI : inB t 0 10000 = false := Bool.eq_false_iff.2 (fun h => ht ((inB_iff _ _ _).1 h))
    rw [clockT_no ht]
    clear ht
    go_enter Tryd.func5, Tryd.ntmps5
    go_wp2_with fail
    refine (l6In_any _ _ _ _).mono ?_; rintro e w' ⟨rfl, rfl⟩
    go_wp2
    go_ret
    exact ⟨rfl, Below.refl _ _⟩




end Go.Proofs.YtnlhnibhgpelfaaDoor
