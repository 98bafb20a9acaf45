/- TeamsLeast and RestMost, model and program. -/
import Derived.Test.YtmcapcclnkicbabVR
import Derived.Test.YtmcapcclnkicbabUX
namespace Go.Proofs.Ytmcapcclnkicbab
open Go.RowKit

def MoRel (l : List Rn) (rest : Int) (w : World) (mv iv : Value) (wr : World) : Prop := ∃ k : Nat, k ≤ l.length ∧ mv = .int .i64 (mostTo l rest k : Nat) ∧ iv = .int .i64 k ∧ Drewn w wr

set_option maxRecDepth 100000 in
set_option maxHeartbeats 1000000 in
theorem least1_any (v : Value) (l : List Rn) (rest : Int) (w : World) (hv : RnIn w v l) (hl : l.length ≤ 1048576) :
    Calls Try.prog 9 #[v, .int .i64 rest] w (Quiet (.int .i64 (leastV l rest)) w) := by
  have Hc := Lib.hid (l3Ok_any v l rest w hv hl)
  cases hz : okR l rest with
  | true =>
    have Hb := Lib.hid (fun w' t (h : Drewn w w') => busy1_any v l rest t w' (hv.below h.below) hz)
    have h12 := (validU_iff.1 (okR_parts.1 hz).1).1
    obtain ⟨a, cap, rfl, hcap, ha⟩ := hv
    clear hcap
    have Ha := Lib.hid ha; clear ha
    have HV := Lib.hid (show leastV l rest = (mostTo l rest l.length : Nat) from if_pos hz)
    have Hz := Lib.hid hz; clear hz
    go_enter Try.func9, Try.ntmps9
    go_wp2_with fail
    refine (Hc.out).mono ?_; rintro e w1 ⟨rfl, hw1⟩
    rw [Hz.out]
    have HW1 := Lib.hid (show Drewn w w1 from hw1); clear hw1
    go_wp2
    go_loopw [5, 6] (fun mv iv wr => MoRel l rest w mv iv wr) (fun _ i _ => l.length - (intOf i).toNat)
    case atStart => exact ⟨0, Nat.zero_le _, rfl, rfl, HW1.out⟩
    case round =>
      obtain ⟨k, hk, rfl, rfl, hw⟩ := hrel
      have HW := Lib.hid hw; clear hw
      by_cases hlt : k < l.length
      · obtain ⟨b, o, rfl, hb0, hrw⟩ := Ha.out (by intro h; simp [h] at hlt)
        obtain ⟨c0, _⟩ := (hrw.below HW.out.below hb0) k hlt
        have hm := mostTo_len l rest k
        have hbu := busyU_le l rest (l.getD k rn0).a
        have Hs := Lib.hid (show mostTo l rest (k + 1) = max (mostTo l rest k) (busyU l rest (l.getD k rn0).a) from rfl)
        have HB := Lib.hid (Hb.out wr (l.getD k rn0).a HW.out)
        clear hrw
        generalize (l.getD k rn0).a = x at *
        generalize mostTo l rest k = m at *
        generalize busyU l rest x = n at *
        go_wp2_with fail
        refine (HB.out).mono ?_; rintro e w2 ⟨rfl, hw2⟩
        have HW2 := Lib.hid (Drewn.trans HW.out hw2); clear hw2
        by_cases hq : n ≤ m
        · have Hs2 := Lib.hid (show mostTo l rest (k + 1) = m by rw [Hs.out]; omega)
          have hq' : (n : Int) ≤ (m : Int) := by omega
          go_wp2
          exact ⟨⟨k + 1, hlt, by rw [Hs2.out], by go_num, HW2.out⟩, by simp [intOf]; omega⟩
        · have Hs2 := Lib.hid (show mostTo l rest (k + 1) = n by rw [Hs.out]; omega)
          have hq' : (m : Int) < (n : Int) := by omega
          clear hq
          go_wp2
          exact ⟨⟨k + 1, hlt, by rw [Hs2.out], by go_num, HW2.out⟩, by simp [intOf]; omega⟩
      · obtain rfl : k = l.length := by omega
        go_wp2
        go_ret
        exact ⟨ret_int HV.out.symm, HW.out⟩
  | false =>
    clear hv
    have HV := Lib.hid (show leastV l rest = -1 from if_neg (by rw [hz]; simp))
    have Hz := Lib.hid hz; clear hz
    go_enter Try.func9, Try.ntmps9
    go_wp2_with fail
    refine (Hc.out).mono ?_; rintro e w1 ⟨rfl, hw1⟩
    rw [Hz.out]
    go_wp2
    go_ret
    exact ⟨ret_int HV.out.symm, hw1⟩

set_option maxHeartbeats 400000 in
theorem least2_any (v : Value) (l : List Rn) (rest : Int) (w : World) (hv : RnIn w v l) (hl : l.length ≤ 1048576) :
    Calls Try.prog 8 #[v, .int .i64 rest] w (Gives (.int .i64 (leastV l rest)) w) := by
  have Hc := Lib.hid (runs2_any v l w hv hl)
  cases hz : validU l with
  | true =>
    cases hr : restB rest with
    | true =>
      have hok : okR l rest = true := by unfold okR; rw [hz, hr]; rfl
      have Hro := Lib.hid (fun w' (h : Below w.heap.size w w') => rosterOf_any v l rest w' (hv.below h) hok)
      have HV := Lib.hid (show leastV l rest = (cntTo l rest l.length : Nat) by rw [cnt_most hok]; exact if_pos hok)
      have Hz := Lib.hid hz
      have Hr := Lib.hid hr
      clear hv hz hr hok
      go_enter Try.func8, Try.ntmps8
      go_wp2_with fail
      refine (Hc.out).mono ?_; rintro e w1 ⟨rfl, hw1⟩
      rw [Hz.out]
      go_wp2_with fail
      refine (rest_any _ _).mono ?_; rintro e w' ⟨rfl, rfl⟩
      rw [Hr.out]
      go_wp2_with fail
      refine (Hro.out _ hw1).mono ?_; rintro e w2 ⟨ad, cap, rfl, _, _, _, hb2⟩
      have HB := Lib.hid (Below.trans hw1 (hb2.mono (Below.size hw1)))
      generalize hcn : cntTo l rest l.length = cn at *
      have Hcn := Lib.hid hcn; clear hcn
      go_wp2
      go_ret
      exact ⟨ret_int HV.out.symm, HB.out⟩
    | false =>
      clear hv
      have HV := Lib.hid (show leastV l rest = -1 from if_neg (by unfold okR; rw [hr]; simp))
      have Hz := Lib.hid hz
      have Hr := Lib.hid hr
      clear hz hr
      go_enter Try.func8, Try.ntmps8
      go_wp2_with fail
      refine (Hc.out).mono ?_; rintro e w1 ⟨rfl, hw1⟩
      rw [Hz.out]
      go_wp2_with fail
      refine (rest_any _ _).mono ?_; rintro e w' ⟨rfl, rfl⟩
      rw [Hr.out]
      go_wp2
      go_ret
      exact ⟨ret_int HV.out.symm, hw1⟩
  | false =>
    clear hv
    have HV := Lib.hid (show leastV l rest = -1 from if_neg (by unfold okR; rw [hz]; simp))
    have Hz := Lib.hid hz; clear hz
    go_enter Try.func8, Try.ntmps8
    go_wp2_with fail
    refine (Hc.out).mono ?_; rintro e w1 ⟨rfl, hw1⟩
    rw [Hz.out]
    go_wp2
    go_ret
    exact ⟨ret_int HV.out.symm, hw1⟩

theorem downTo_bd (l : List Rn) (teams : Int) : ∀ k : Nat, -1 ≤ downTo l teams k ∧ downTo l teams k ≤ (k : Int)
  | 0 => ⟨by show (-1 : Int) ≤ -1; omega, by show (-1 : Int) ≤ ((0 : Nat) : Int); omega⟩
  | k + 1 => by
    have := downTo_bd l teams k
    unfold downTo
    split <;> omega

theorem leastV_bd (l : List Rn) (rest : Int) : -1 ≤ leastV l rest ∧ leastV l rest ≤ l.length := by
  unfold leastV
  have := mostTo_len l rest l.length
  split <;> omega

/-- k rests are left to try. -/
def RsRel (l : List Rn) (teams : Int) (w : World) (rv : Value) (wr : World) : Prop :=
  ∃ k : Nat, k ≤ 601 ∧ rv = .int .i64 ((k : Int) - 1) ∧ downTo l teams 601 = downTo l teams k ∧ Below w.heap.size w wr

theorem restOk_no {l : List Rn} {teams : Int} (h : ¬ (validU l = true ∧ 1 ≤ teams ∧ teams ≤ 12)) : restV l teams = -1 := by
  refine if_neg fun h' => h ?_
  simp only [restOk, Bool.and_eq_true, decide_eq_true_eq] at h'
  exact h'
theorem restOk_yes {l : List Rn} {teams : Int} (h : validU l = true ∧ 1 ≤ teams ∧ teams ≤ 12) : restV l teams = downTo l teams 601 := if_pos (by simp [restOk, h])

set_option maxRecDepth 100000 in
set_option maxHeartbeats 1000000 in
theorem rest1_any (v : Value) (l : List Rn) (teams : Int) (w : World) (hv : RnIn w v l) (hl : l.length ≤ 1048576) :
    Calls Try.prog 18 #[v, .int .i64 teams] w (Gives (.int .i64 (restV l teams)) w) := by
  have Hc := Lib.hid (runs1_any v l w hv hl)
  have Hle := Lib.hid (fun w' rest (h : Below w.heap.size w w') => Calls.gives (least1_any v l rest w' (hv.below h) hl))
  clear hv
  cases hz : validU l with
  | true =>
    by_cases ht : 1 ≤ teams ∧ teams ≤ 12
    · have HV := Lib.hid (restOk_yes ⟨hz, ht⟩)
      have Ht := Lib.hid (show inB teams 1 12 = true from (inB_iff _ _ _).2 ht)
      have Hz := Lib.hid hz; clear hz
      obtain ⟨t1, t2⟩ := ht
      go_enter Try.func18, Try.ntmps18
      go_wp2_with fail
      refine (Hc.out).mono ?_; rintro e w1 ⟨rfl, hw1⟩
      rw [Hz.out]
      go_wp2_with fail
      refine (l6In_any _ _ _ _).mono ?_; rintro e w' ⟨rfl, rfl⟩
      rw [Ht.out]
      have HW1 := Lib.hid (Drewn.below hw1); clear hw1
      go_wp2
      go_loopw [5] (fun rv wr => RsRel l teams w rv wr) (fun r _ => (intOf r + 1).toNat)
      case atStart => exact ⟨601, Nat.le_refl _, rfl, rfl, HW1.out⟩
      case round =>
        obtain ⟨k, hk, rfl, hd, hbel⟩ := hrel
        have Hd := Lib.hid hd; clear hd
        cases k with
        | zero =>
          have He := Lib.hid (show restV l teams = -1 from HV.out.trans Hd.out)
          go_wp2
          go_ret
          exact ⟨ret_int He.out.symm, hbel⟩
        | succ j =>
          have hj : ((j + 1 : Nat) : Int) - 1 = (j : Int) := by omega
          rw [hj]
          have hj0 : (0 : Int) ≤ (j : Int) := Int.natCast_nonneg _
          have hj1 : (j : Int) ≤ 600 := by omega
          have hlb := leastV_bd l (j : Int)
          have Hst := Lib.hid (show downTo l teams (j + 1) = if leastV l (j : Int) ≤ teams then (j : Int) else downTo l teams j from rfl)
          have HB := Lib.hid hbel
          have HL := Lib.hid (Hle.out wr (j : Int) hbel)
          clear hbel hj
          generalize leastV l (j : Int) = x at *
          go_wp2_with fail
          refine (HL.out).mono ?_; rintro e w2 ⟨rfl, hw2⟩
          have HB2 := Lib.hid (HB.out.trans (Below.mono hw2 HB.out.size)); clear hw2
          by_cases hq : x ≤ teams
          · have He := Lib.hid (show restV l teams = (j : Int) by rw [HV.out, Hd.out, Hst.out, if_pos hq])
            have hd : decide (x ≤ teams) = true := by simpa using hq
            go_wp2
            go_ret
            exact ⟨ret_int He.out.symm, HB2.out⟩
          · have He := Lib.hid (show downTo l teams 601 = downTo l teams j by rw [Hd.out, Hst.out, if_neg hq])
            have hd : decide (x ≤ teams) = false := by simpa using hq
            clear hq
            go_wp2
            exact ⟨⟨j, by omega, rfl, He.out, HB2.out⟩, by simp [intOf] <;> omega⟩
    · have HV := Lib.hid (restOk_no (l := l) (fun h => ht h.2))
      have Ht := Lib.hid (show inB teams 1 12 = false from Bool.eq_false_iff.2 (fun h => ht ((inB_iff _ _ _).1 h)))
      have Hz := Lib.hid hz; clear hz ht
      go_enter Try.func18, Try.ntmps18
      go_wp2_with fail
      refine (Hc.out).mono ?_; rintro e w1 ⟨rfl, hw1⟩
      rw [Hz.out]
      go_wp2_with fail
      refine (l6In_any _ _ _ _).mono ?_; rintro e w' ⟨rfl, rfl⟩
      rw [Ht.out]
      have HW1 := Lib.hid (Drewn.below hw1); clear hw1
      go_wp2
      go_ret
      exact ⟨ret_int HV.out.symm, HW1.out⟩
  | false =>
    have HV := Lib.hid (restOk_no (l := l) (teams := teams) (fun h => by rw [hz] at h; cases h.1))
    have Hz := Lib.hid hz; clear hz
    go_enter Try.func18, Try.ntmps18
    go_wp2_with fail
    refine (Hc.out).mono ?_; rintro e w1 ⟨rfl, hw1⟩
    rw [Hz.out]
    have HW1 := Lib.hid (Drewn.below hw1); clear hw1
    go_wp2
    go_ret
    exact ⟨ret_int HV.out.symm, HW1.out⟩

set_option maxRecDepth 100000 in
set_option maxHeartbeats 1000000 in
theorem rest2_any (v : Value) (l : List Rn) (teams : Int) (w : World) (hv : RnIn w v l) (hl : l.length ≤ 1048576) :
    Calls Try.prog 17 #[v, .int .i64 teams] w (Gives (.int .i64 (restV l teams)) w) := by
  have Hc := Lib.hid (runs2_any v l w hv hl)
  have Hle := Lib.hid (fun w' rest (h : Below w.heap.size w w') => least2_any v l rest w' (hv.below h) hl)
  clear hv
  cases hz : validU l with
  | true =>
    by_cases ht : 1 ≤ teams ∧ teams ≤ 12
    · have HV := Lib.hid (restOk_yes ⟨hz, ht⟩)
      have Hz := Lib.hid hz; clear hz
      obtain ⟨t1, t2⟩ := ht
      go_enter Try.func17, Try.ntmps17
      go_wp2_with fail
      refine (Hc.out).mono ?_; rintro e w1 ⟨rfl, hw1⟩
      rw [Hz.out]
      have HW1 := Lib.hid (show Below w.heap.size w w1 from hw1); clear hw1
      go_wp2
      go_loopw [5] (fun rv wr => RsRel l teams w rv wr) (fun r _ => (intOf r + 1).toNat)
      case atStart => exact ⟨601, Nat.le_refl _, rfl, rfl, HW1.out⟩
      case round =>
        obtain ⟨k, hk, rfl, hd, hbel⟩ := hrel
        have Hd := Lib.hid hd; clear hd
        cases k with
        | zero =>
          have He := Lib.hid (show restV l teams = -1 from HV.out.trans Hd.out)
          go_wp2
          go_ret
          exact ⟨ret_int He.out.symm, hbel⟩
        | succ j =>
          have hj : ((j + 1 : Nat) : Int) - 1 = (j : Int) := by omega
          rw [hj]
          have hj0 : (0 : Int) ≤ (j : Int) := Int.natCast_nonneg _
          have hj1 : (j : Int) ≤ 600 := by omega
          have hlb := leastV_bd l (j : Int)
          have Hst := Lib.hid (show downTo l teams (j + 1) = if leastV l (j : Int) ≤ teams then (j : Int) else downTo l teams j from rfl)
          have HB := Lib.hid hbel
          have HL := Lib.hid (Hle.out wr (j : Int) hbel)
          clear hbel hj
          generalize leastV l (j : Int) = x at *
          go_wp2_with fail
          refine (HL.out).mono ?_; rintro e w2 ⟨rfl, hw2⟩
          have HB2 := Lib.hid (HB.out.trans (Below.mono hw2 HB.out.size)); clear hw2
          by_cases hq : x ≤ teams
          · have He := Lib.hid (show restV l teams = (j : Int) by rw [HV.out, Hd.out, Hst.out, if_pos hq])
            have hd : decide (teams < x) = false := by simp only [decide_eq_false_iff_not]; omega
            go_wp2
            go_ret
            exact ⟨ret_int He.out.symm, HB2.out⟩
          · have He := Lib.hid (show downTo l teams 601 = downTo l teams j by rw [Hd.out, Hst.out, if_neg hq])
            have hd : decide (teams < x) = true := by simp only [decide_eq_true_eq]; omega
            clear hq
            go_wp2
            exact ⟨⟨j, by omega, rfl, He.out, HB2.out⟩, by simp [intOf] <;> omega⟩
    · have HV := Lib.hid (restOk_no (l := l) (fun h => ht h.2))
      have Hz := Lib.hid hz; clear hz
      by_cases h1 : teams < 1
      · have hd : decide (teams < 1) = true := by simpa using h1
        clear ht
        go_enter Try.func17, Try.ntmps17
        go_wp2_with fail
        refine (Hc.out).mono ?_; rintro e w1 ⟨rfl, hw1⟩
        rw [Hz.out]
        go_wp2
        go_ret
        exact ⟨ret_int HV.out.symm, hw1⟩
      · have h2 : 12 < teams := by omega
        have hd : decide (teams < 1) = false := by simpa using h1
        have hd2 : decide (12 < teams) = true := by simpa using h2
        clear ht
        go_enter Try.func17, Try.ntmps17
        go_wp2_with fail
        refine (Hc.out).mono ?_; rintro e w1 ⟨rfl, hw1⟩
        rw [Hz.out]
        go_wp2
        go_ret
        exact ⟨ret_int HV.out.symm, hw1⟩
  | false =>
    have HV := Lib.hid (restOk_no (l := l) (teams := teams) (fun h => by rw [hz] at h; cases h.1))
    have Hz := Lib.hid hz; clear hz
    go_enter Try.func17, Try.ntmps17
    go_wp2_with fail
    refine (Hc.out).mono ?_; rintro e w1 ⟨rfl, hw1⟩
    rw [Hz.out]
    go_wp2
    go_ret
    exact ⟨ret_int HV.out.symm, hw1⟩

end Go.Proofs.Ytmcapcclnkicbab
