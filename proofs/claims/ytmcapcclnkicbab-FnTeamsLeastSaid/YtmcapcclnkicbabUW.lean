/- The model's RunsValid and l3Ok; the program's restFits and teamFits. -/
import Derived.Test.YtmcapcclnkicbabUP
import Derived.Test.YtmcapcclnkicbabQW
namespace Go.Proofs.Ytmcapcclnkicbab
open Go.RowKit

theorem lastU_bd {l : List Rn} {k : Nat} (h : okToU l k = true) : 0 ≤ lastU l k ∧ lastU l k ≤ 10000 := by
  cases k with
  | zero => exact ⟨by show (0 : Int) ≤ 0; omega, by show (0 : Int) ≤ 10000; omega⟩
  | succ j =>
    have := (fitsU_iff _).1 ((okU_iff _ _).1 (okToU_at h (show j < j + 1 by omega))).1
    show 0 ≤ (l.getD j rn0).a ∧ (l.getD j rn0).a ≤ 10000
    omega

def Uv1Rel (l : List Rn) (w : World) (lv i : Value) (wr : World) : Prop := ∃ k : Nat, k ≤ l.length ∧ lv = .int .i64 (lastU l k) ∧ i = .int .i64 k ∧ okToU l k = true ∧ Drewn w wr

set_option maxRecDepth 100000 in
set_option maxHeartbeats 1000000 in
theorem runs1_any (v : Value) (l : List Rn) (w : World) (hv : RnIn w v l) (hl : l.length ≤ 1048576) :
    Calls Try.prog 31 #[v] w (Quiet (.bool (validU l)) w) := by
  have Hv := Lib.hid hv
  obtain ⟨a, cap, rfl, hcap, ha⟩ := hv
  clear hcap
  have Ha := Lib.hid ha; clear ha
  go_enter Try.func31, Try.ntmps31
  go_wp2
  go_loopw [3, 4] (fun lv i wr => Uv1Rel l w lv i wr) (fun _ i _ => l.length - (intOf i).toNat)
  case atStart => exact ⟨0, Nat.zero_le _, rfl, rfl, rfl, Drewn.refl w⟩
  case round =>
    obtain ⟨k, hk, rfl, rfl, hok, hw⟩ := hrel
    have HW := Lib.hid hw; clear hw
    obtain ⟨la0, la1⟩ := lastU_bd hok
    have Hok := Lib.hid hok; clear hok
    by_cases hlt : k < l.length
    · obtain ⟨b, o, rfl, hb0, hrw⟩ := Ha.out (by intro h; simp [h] at hlt)
      obtain ⟨c0, c1⟩ := (hrw.below HW.out.below hb0) k hlt
      clear hrw
      have hokU : okU l k = (fitsU (l.getD k rn0) && decide (lastU l k ≤ (l.getD k rn0).a)) := rfl
      have hfit := fitsU_iff (l.getD k rn0)
      have hlast : lastU l (k + 1) = (l.getD k rn0).a := rfl
      have hk0 : (0 : Int) ≤ (k : Int) := Int.natCast_nonneg _
      have hk1 : (k : Int) < (l.length : Int) := by omega
      generalize hga : (l.getD k rn0).a = xa at *
      generalize hgb : (l.getD k rn0).b = xb at *
      generalize hgl : lastU l k = la at *
      have Hl := Lib.hid (show okU l k = false → validU l = false from fun h => validU_no hlt h)
      have HokU := Lib.hid hokU; clear hokU
      have Hfit := Lib.hid hfit; clear hfit
      have Hlast := Lib.hid hlast; clear hlast
      clear hga hgb hgl
      by_cases q1 : la ≤ xa ∧ xa ≤ 10000
      · obtain ⟨q1a, q1b⟩ := q1
        have hs : IntKind.i64.wrap (xa + 1) = xa + 1 := IntWalk.i64_in _ (by omega)
        by_cases q2 : xa + 1 ≤ xb ∧ xb ≤ 10000
        · have hok1 : okToU l (k + 1) = true := by
            have h0 : decide (la ≤ xa) = true := by rw [decide_eq_true_eq]; exact q1a
            rw [okToU_succ, Hok.out, HokU.out, Hfit.out.2 (by omega), h0]; rfl
          have Hok1 := Lib.hid hok1; clear hok1
          have p1 : inB xa la 10000 = true := (inB_iff _ _ _).2 ⟨q1a, q1b⟩
          have p2 : inB xb (xa + 1) 10000 = true := (inB_iff _ _ _).2 q2
          go_wp2
          go_quiet ((go_at_call 29; exact Calls.hush (l6In_q _ _ _ _)))
          go_wp2
          exact ⟨⟨k + 1, hlt, by rw [Hlast.out], by go_num, Hok1.out, HW.out.drewN _⟩, by simp [intOf]; omega⟩
        · have p1 : inB xa la 10000 = true := (inB_iff _ _ _).2 ⟨q1a, q1b⟩
          have p2 : inB xb (xa + 1) 10000 = false := by rw [Bool.eq_false_iff]; intro h; exact q2 ((inB_iff _ _ _).1 h)
          have hz : validU l = false := Hl.out (by
            have h0 : fitsU (l.getD k rn0) = false := by rw [Bool.eq_false_iff]; intro h; have := Hfit.out.1 h; omega
            rw [HokU.out, h0]; rfl)
          have Hz := Lib.hid hz; clear hz
          go_wp2
          go_quiet ((go_at_call 29; exact Calls.hush (l6In_q _ _ _ _)))
          go_wp2
          go_ret
          exact ⟨ret_bool Hz.out.symm, HW.out.drewN _⟩
      · have p1 : inB xa la 10000 = false := by rw [Bool.eq_false_iff]; intro h; exact q1 ((inB_iff _ _ _).1 h)
        have hz : validU l = false := Hl.out (by
            have h0 : (fitsU (l.getD k rn0) && decide (la ≤ xa)) = false := by
              rw [Bool.eq_false_iff]; intro h; simp only [Bool.and_eq_true, decide_eq_true_eq] at h; have := Hfit.out.1 h.1; omega
            rw [HokU.out, h0])
        have Hz := Lib.hid hz; clear hz q1
        go_wp2
        go_quiet ((go_at_call 29; exact Calls.hush (l6In_q _ _ _ _)))
        go_wp2
        go_ret
        exact ⟨ret_bool Hz.out.symm, HW.out.drewN _⟩
    · obtain rfl : k = l.length := by omega
      by_cases h12 : l.length ≤ 12
      · have hz := validU_yes h12 Hok.out
        have Hz := Lib.hid hz; clear hz
        have hd : decide ((l.length : Int) ≤ 12) = true := by simp only [decide_eq_true_eq]; omega
        go_wp2
        go_ret
        exact ⟨ret_bool Hz.out.symm, HW.out⟩
      · have hz := validU_long h12
        have Hz := Lib.hid hz; clear hz
        have hd : decide ((l.length : Int) ≤ 12) = false := by simp only [decide_eq_false_iff_not]; omega
        go_wp2
        go_ret
        exact ⟨ret_bool Hz.out.symm, HW.out⟩

set_option maxHeartbeats 400000 in
theorem l3Ok_any (v : Value) (l : List Rn) (rest : Int) (w : World) (hv : RnIn w v l) (hl : l.length ≤ 1048576) :
    Calls Try.prog 24 #[v, .int .i64 rest] w (Quiet (.bool (okR l rest)) w) := by
  have Hc := Lib.hid (runs1_any v l w hv hl)
  clear hv
  cases hz : validU l with
  | true =>
    have Hz := Lib.hid hz
    have hr : okR l rest = inB rest 0 600 := by unfold okR restB inB; rw [hz]; rfl
    have Hr := Lib.hid hr; clear hr hz
    go_enter Try.func24, Try.ntmps24
    go_wp2_with fail
    refine (Hc.out).mono ?_; rintro e w1 ⟨rfl, m, rfl⟩
    rw [Hz.out]
    go_wp2_with fail
    refine (l6In_any _ _ _ _).mono ?_; rintro e w' ⟨rfl, rfl⟩
    go_wp2
    go_ret
    exact ⟨ret_bool Hr.out.symm, m, rfl⟩
  | false =>
    have Hz := Lib.hid hz
    have hr : okR l rest = false := by unfold okR; rw [hz]; rfl
    have Hr := Lib.hid hr; clear hr hz
    go_enter Try.func24, Try.ntmps24
    go_wp2_with fail
    refine (Hc.out).mono ?_; rintro e w1 ⟨rfl, m, rfl⟩
    rw [Hz.out]
    go_wp2
    go_ret
    exact ⟨ret_bool Hr.out.symm, m, rfl⟩

set_option maxHeartbeats 400000 in
theorem rest_any (rest : Int) (w : World) : Calls Try.prog 22 #[.int .i64 rest] w fun e w' => e = .returned (.bool (restB rest)) ∧ w = w' := by
  by_cases h1 : 0 ≤ rest
  · go_enter Try.func22, Try.ntmps22
    go_wp2
    go_ret
    exact ⟨ret_bool (by simp [restB, h1]), rfl⟩
  · go_enter Try.func22, Try.ntmps22
    go_wp2
    go_ret
    exact ⟨ret_bool (by simp [restB]; omega), rfl⟩

def teamB (t : Int) : Bool := decide (0 ≤ t) && decide (t < 12)
theorem teamB_iff {t : Int} : teamB t = true ↔ 0 ≤ t ∧ t < 12 := by simp [teamB]

end Go.Proofs.Ytmcapcclnkicbab
