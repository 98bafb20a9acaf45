/- How many teams are busy: l3Busy, busyAt; TeamsBusy, model and program. -/
import Derived.Test.YtmcapcclnkicbabUV
import Derived.Test.YtmcapcclnkicbabUW
namespace Go.Proofs.Ytmcapcclnkicbab
open Go.RowKit

theorem okR_iff {l : List Rn} {rest : Int} : okR l rest = true ↔ validU l = true ∧ 0 ≤ rest ∧ rest ≤ 600 := by simp [okR, restB_iff]

def BuRel (l : List Rn) (rest t : Int) (w : World) (nv i : Value) (wr : World) : Prop := ∃ k : Nat, k ≤ l.length ∧ nv = .int .i64 (busyTo l rest t k : Nat) ∧ i = .int .i64 k ∧ Drewn w wr

set_option maxRecDepth 100000 in
set_option maxHeartbeats 1000000 in
theorem busy1_any (v : Value) (l : List Rn) (rest t : Int) (w : World) (hv : RnIn w v l) (hz : okR l rest = true) :
    Calls Try.prog 25 #[v, .int .i64 rest, .int .i64 t] w (Quiet (.int .i64 (busyU l rest t : Nat)) w) := by
  obtain ⟨a, cap, rfl, hcap, ha⟩ := hv
  clear hcap
  have Ha := Lib.hid ha; clear ha
  obtain ⟨hz1, r0, r6⟩ := okR_iff.1 hz
  have hl := (validU_iff.1 hz1).1
  have Hz := Lib.hid hz1; clear hz hz1
  go_enter Try.func25, Try.ntmps25
  go_wp2
  go_loopw [7, 8] (fun nv i wr => BuRel l rest t w nv i wr) (fun _ i _ => l.length - (intOf i).toNat)
  case atStart => exact ⟨0, Nat.zero_le _, rfl, rfl, Drewn.refl w⟩
  case round =>
    obtain ⟨k, hk, rfl, rfl, hw⟩ := hrel
    have HW := Lib.hid hw; clear hw
    by_cases hlt : k < l.length
    · obtain ⟨b, o, rfl, hb0, hrw⟩ := Ha.out (by intro h; simp [h] at hlt)
      obtain ⟨c0, c1⟩ := (hrw.below HW.out.below hb0) k hlt
      have hat := validU_at Hz.out hlt
      have hs := busyTo_succ (rest := rest) (t := t) hlt
      have hbn := busyTo_le l rest t k
      clear hrw
      generalize (l.getD k rn0).a = xa at *
      generalize (l.getD k rn0).b = xb at *
      generalize busyTo l rest t k = n at *
      obtain ⟨h1, h2, h3, _⟩ := hat
      have hw : IntKind.i64.wrap (xb + rest) = xb + rest := IntWalk.i64_in _ (by omega)
      by_cases q1 : xa ≤ t
      · by_cases q2 : t < xb + rest
        · rw [if_pos ⟨q1, q2⟩] at hs
          have Hs := Lib.hid hs; clear hs
          go_wp2
          exact ⟨⟨k + 1, hlt, by rw [Hs.out]; go_num, by go_num, HW.out⟩, by simp [intOf]; omega⟩
        · rw [if_neg (fun h => q2 h.2)] at hs
          have Hs := Lib.hid hs; clear hs
          have hd : decide (t < xb + rest) = false := by simp only [decide_eq_false_iff_not]; omega
          clear q2
          go_wp2
          exact ⟨⟨k + 1, hlt, by rw [Hs.out]; go_num, by go_num, HW.out⟩, by simp [intOf]; omega⟩
      · rw [if_neg (fun h => q1 h.1)] at hs
        have Hs := Lib.hid hs; clear hs
        have hd : decide (xa ≤ t) = false := by simp only [decide_eq_false_iff_not]; omega
        clear q1
        go_wp2
        exact ⟨⟨k + 1, hlt, by rw [Hs.out]; go_num, by go_num, HW.out⟩, by simp [intOf]; omega⟩
    · obtain rfl : k = l.length := by omega
      go_wp2
      go_ret
      exact ⟨rfl, HW.out⟩

def Bu2Rel (l : List Rn) (rest t : Int) (w : World) (nv i : Value) (wr : World) : Prop := ∃ k : Nat, k ≤ l.length ∧ nv = .int .i64 (busyTo l rest t k : Nat) ∧ i = .int .i64 k ∧ Below w.heap.size w wr

set_option maxRecDepth 100000 in
set_option maxHeartbeats 1000000 in
theorem busy2_any (v : Value) (l : List Rn) (rest t : Int) (w : World) (hv : RnIn w v l) (hz : okR l rest = true) :
    Calls Try.prog 27 #[v, .int .i64 rest, .int .i64 t] w (Gives (.int .i64 (busyU l rest t : Nat)) w) := by
  obtain ⟨a, cap, rfl, hcap, ha⟩ := hv
  clear hcap
  have Ha := Lib.hid ha; clear ha
  obtain ⟨hz1, r0, r6⟩ := okR_iff.1 hz
  have hl := (validU_iff.1 hz1).1
  have Hz := Lib.hid hz1; clear hz hz1
  go_enter Try.func27, Try.ntmps27
  go_wp2
  go_loopw [7, 12] (fun nv i wr => Bu2Rel l rest t w nv i wr) (fun _ i _ => l.length - (intOf i).toNat)
  case atStart => exact ⟨0, Nat.zero_le _, rfl, rfl, Below.refl _ _⟩
  case round =>
    obtain ⟨k, hk, rfl, rfl, hbel⟩ := hrel
    by_cases hlt : k < l.length
    · obtain ⟨b, o, rfl, hb0, hrw⟩ := Ha.out (by intro h; simp [h] at hlt)
      obtain ⟨c0, c1⟩ := (hrw.below hbel hb0) k hlt
      have hat := validU_at Hz.out hlt
      have hs := busyTo_succ (rest := rest) (t := t) hlt
      have hbn := busyTo_le l rest t k
      have HB := Lib.hid (hbel.alloc hbel.size (.cells #[.int .i64 (l.getD k rn0).a, .int .i64 (l.getD k rn0).b] 29))
      clear hrw
      generalize (l.getD k rn0).a = xa at *
      generalize (l.getD k rn0).b = xb at *
      generalize busyTo l rest t k = n at *
      obtain ⟨h1, h2, h3, _⟩ := hat
      have hw : IntKind.i64.wrap (xb + rest) = xb + rest := IntWalk.i64_in _ (by omega)
      by_cases q1 : xa ≤ t
      · by_cases q2 : t < xb + rest
        · rw [if_pos ⟨q1, q2⟩] at hs
          have Hs := Lib.hid hs; clear hs
          go_wp2
          exact ⟨⟨k + 1, hlt, by rw [Hs.out]; go_num, by go_num, HB.out⟩, by simp [intOf]; omega⟩
        · rw [if_neg (fun h => q2 h.2)] at hs
          have Hs := Lib.hid hs; clear hs
          have hd : decide (t < xb + rest) = false := by simp only [decide_eq_false_iff_not]; omega
          clear q2
          go_wp2
          exact ⟨⟨k + 1, hlt, by rw [Hs.out]; go_num, by go_num, HB.out⟩, by simp [intOf]; omega⟩
      · rw [if_neg (fun h => q1 h.1)] at hs
        have Hs := Lib.hid hs; clear hs
        have hd : decide (xa ≤ t) = false := by simp only [decide_eq_false_iff_not]; omega
        clear q1
        go_wp2
        exact ⟨⟨k + 1, hlt, by rw [Hs.out]; go_num, by go_num, HB.out⟩, by simp [intOf]; omega⟩
    · obtain rfl : k = l.length := by omega
      go_wp2
      go_ret
      exact ⟨rfl, hbel⟩

/-- What TeamsBusy gives. -/
def busyV (l : List Rn) (rest t : Int) : Int := if okR l rest = true ∧ isT t = true then (busyU l rest t : Nat) else -1

set_option maxHeartbeats 400000 in
theorem teamsBusy1_any (v : Value) (l : List Rn) (rest t : Int) (w : World) (hv : RnIn w v l) (hl : l.length ≤ 1048576) :
    Calls Try.prog 13 #[v, .int .i64 rest, .int .i64 t] w (Quiet (.int .i64 (busyV l rest t)) w) := by
  have Hc := Lib.hid (l3Ok_any v l rest w hv hl)
  cases hz : okR l rest with
  | true =>
    have Hb := Lib.hid (fun w' (h : Drewn w w') => busy1_any v l rest t w' (hv.below h.below) hz)
    clear hv
    cases ht : isT t with
    | true =>
      have hbv : busyV l rest t = (busyU l rest t : Nat) := if_pos ⟨hz, ht⟩
      have Hbv := Lib.hid hbv
      have Hz := Lib.hid hz
      have Ht := Lib.hid (show inB t 0 10000 = true from ht)
      clear hbv hz ht
      go_enter Try.func13, Try.ntmps13
      go_wp2_with fail
      refine (Hc.out).mono ?_; rintro e w1 ⟨rfl, hw1⟩
      rw [Hz.out]
      go_wp2_with fail
      refine (l6In_any _ _ _ _).mono ?_; rintro e w' ⟨rfl, rfl⟩
      rw [Ht.out]
      go_wp2_with fail
      refine (Hb.out _ hw1).mono ?_; rintro e w2 ⟨rfl, hw2⟩
      go_wp2
      go_ret
      exact ⟨ret_int Hbv.out.symm, Drewn.trans hw1 hw2⟩
    | false =>
      have hbv : busyV l rest t = -1 := if_neg (by rw [ht]; simp)
      have Hbv := Lib.hid hbv
      have Hz := Lib.hid hz
      have Ht := Lib.hid (show inB t 0 10000 = false from ht)
      clear hbv hz ht
      go_enter Try.func13, Try.ntmps13
      go_wp2_with fail
      refine (Hc.out).mono ?_; rintro e w1 ⟨rfl, hw1⟩
      rw [Hz.out]
      go_wp2_with fail
      refine (l6In_any _ _ _ _).mono ?_; rintro e w' ⟨rfl, rfl⟩
      rw [Ht.out]
      go_wp2
      go_ret
      exact ⟨ret_int Hbv.out.symm, hw1⟩
  | false =>
    clear hv
    have hbv : busyV l rest t = -1 := if_neg (by rw [hz]; simp)
    have Hbv := Lib.hid hbv
    have Hz := Lib.hid hz
    clear hbv hz
    go_enter Try.func13, Try.ntmps13
    go_wp2_with fail
    refine (Hc.out).mono ?_; rintro e w1 ⟨rfl, hw1⟩
    rw [Hz.out]
    go_wp2
    go_ret
    exact ⟨ret_int Hbv.out.symm, hw1⟩

set_option maxHeartbeats 400000 in
theorem teamsBusy2_any (v : Value) (l : List Rn) (rest t : Int) (w : World) (hv : RnIn w v l) (hl : l.length ≤ 1048576) :
    Calls Try.prog 10 #[v, .int .i64 rest, .int .i64 t] w (Gives (.int .i64 (busyV l rest t)) w) := by
  have Hc := Lib.hid (runs2_any v l w hv hl)
  cases hz : validU l with
  | true =>
    cases hr : restB rest with
    | true =>
      cases ht : isT t with
      | true =>
        have hok : okR l rest = true := by unfold okR; rw [hz, hr]; rfl
        have Hb := Lib.hid (fun w' (h : Below w.heap.size w w') => busy2_any v l rest t w' (hv.below h) hok)
        clear hv
        have hbv : busyV l rest t = (busyU l rest t : Nat) := if_pos ⟨hok, ht⟩
        have Hbv := Lib.hid hbv
        have Hz := Lib.hid hz
        have Hr := Lib.hid hr
        have Ht := Lib.hid ht
        clear hbv hz hr ht hok
        go_enter Try.func10, Try.ntmps10
        go_wp2_with fail
        refine (Hc.out).mono ?_; rintro e w1 ⟨rfl, hw1⟩
        rw [Hz.out]
        go_wp2_with fail
        refine (rest_any _ _).mono ?_; rintro e w' ⟨rfl, rfl⟩
        rw [Hr.out]
        go_wp2_with fail
        refine (isTime_any _ _).mono ?_; rintro e w' ⟨rfl, rfl⟩
        rw [Ht.out]
        go_wp2_with fail
        refine (Hb.out _ hw1).mono ?_; rintro e w2 ⟨rfl, hw2⟩
        go_wp2
        go_ret
        exact ⟨ret_int Hbv.out.symm, hw1.trans (hw2.mono hw1.size)⟩
      | false =>
        clear hv
        have hbv : busyV l rest t = -1 := if_neg (by rw [ht]; simp)
        have Hbv := Lib.hid hbv
        have Hz := Lib.hid hz
        have Hr := Lib.hid hr
        have Ht := Lib.hid ht
        clear hbv hz hr ht
        go_enter Try.func10, Try.ntmps10
        go_wp2_with fail
        refine (Hc.out).mono ?_; rintro e w1 ⟨rfl, hw1⟩
        rw [Hz.out]
        go_wp2_with fail
        refine (rest_any _ _).mono ?_; rintro e w' ⟨rfl, rfl⟩
        rw [Hr.out]
        go_wp2_with fail
        refine (isTime_any _ _).mono ?_; rintro e w' ⟨rfl, rfl⟩
        rw [Ht.out]
        go_wp2
        go_ret
        exact ⟨ret_int Hbv.out.symm, hw1⟩
    | false =>
      clear hv
      have hok : okR l rest = false := by unfold okR; rw [hz, hr]; rfl
      have hbv : busyV l rest t = -1 := if_neg (by rw [hok]; simp)
      have Hbv := Lib.hid hbv
      have Hz := Lib.hid hz
      have Hr := Lib.hid hr
      clear hbv hz hr hok
      go_enter Try.func10, Try.ntmps10
      go_wp2_with fail
      refine (Hc.out).mono ?_; rintro e w1 ⟨rfl, hw1⟩
      rw [Hz.out]
      go_wp2_with fail
      refine (rest_any _ _).mono ?_; rintro e w' ⟨rfl, rfl⟩
      rw [Hr.out]
      go_wp2
      go_ret
      exact ⟨ret_int Hbv.out.symm, hw1⟩
  | false =>
    clear hv
    have hok : okR l rest = false := by unfold okR; rw [hz]; rfl
    have hbv : busyV l rest t = -1 := if_neg (by rw [hok]; simp)
    have Hbv := Lib.hid hbv
    have Hz := Lib.hid hz
    clear hbv hz hok
    go_enter Try.func10, Try.ntmps10
    go_wp2_with fail
    refine (Hc.out).mono ?_; rintro e w1 ⟨rfl, hw1⟩
    rw [Hz.out]
    go_wp2
    go_ret
    exact ⟨ret_int Hbv.out.symm, hw1⟩

end Go.Proofs.Ytmcapcclnkicbab
