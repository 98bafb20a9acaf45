/- TeamsPeak, model and program. -/
import Derived.Test.YtmcapcclnkicbabUX
namespace Go.Proofs.Ytmcapcclnkicbab
open Go.RowKit

/-- The first Start of the first k at which most are busy. -/
def bestTo (l : List Rn) (rest : Int) : Nat → Int
  | 0 => (l.getD 0 rn0).a
  | k + 1 => if busyU l rest (bestTo l rest k) < busyU l rest (l.getD k rn0).a then (l.getD k rn0).a else bestTo l rest k

def peakOk (l : List Rn) (rest : Int) : Bool := okR l rest && decide (0 < l.length)
def peakU (l : List Rn) (rest : Int) : Int := if peakOk l rest = true then bestTo l rest l.length else 0
def peakV (l : List Rn) (rest : Int) : Value := .tuple #[.int .i64 (peakU l rest), .bool (peakOk l rest)]

theorem peakV_no {l : List Rn} {rest : Int} (h : peakOk l rest = false) : peakV l rest = .tuple #[.int .i64 0, .bool false] := by
  unfold peakV peakU; rw [h]; rfl
theorem peakV_yes {l : List Rn} {rest : Int} (h : peakOk l rest = true) : peakV l rest = .tuple #[.int .i64 (bestTo l rest l.length), .bool true] := by
  unfold peakV peakU; rw [h]; rfl

theorem busyU_pos {l : List Rn} {rest : Int} {k : Nat} (hz : okR l rest = true) (hk : k < l.length) : 0 < busyU l rest (l.getD k rn0).a := by
  obtain ⟨h1, h2, h3⟩ := okR_iff.1 hz
  have h4 := validU_at h1 hk
  unfold busyU busyTo
  rw [List.take_length, List.countP_pos_iff]
  refine ⟨l.getD k rn0, by rw [Rn.getD_eq l hk]; exact List.getElem_mem _, ?_⟩
  simp only [Bool.and_eq_true, decide_eq_true_eq]
  omega

def Pk1Rel (l : List Rn) (rest : Int) (w : World) (bv i : Value) (wr : World) : Prop := ∃ k : Nat, k ≤ l.length ∧ bv = .int .i64 (bestTo l rest k) ∧ i = .int .i64 k ∧ Drewn w wr

set_option maxRecDepth 100000 in
set_option maxHeartbeats 1000000 in
theorem peak1_any (v : Value) (l : List Rn) (rest : Int) (w : World) (hv : RnIn w v l) (hl : l.length ≤ 1048576) :
    Calls Try.prog 15 #[v, .int .i64 rest] w (Quiet (peakV l rest) w) := by
  have Hc := Lib.hid (l3Ok_any v l rest w hv hl)
  cases hz : okR l rest with
  | true =>
    have Hb := Lib.hid (fun w' t (h : Drewn w w') => busy1_any v l rest t w' (hv.below h.below) hz)
    have Hl8 := Lib.hid (validU_iff.1 (okR_iff.1 hz).1).1
    obtain ⟨a, cap, rfl, hcap, ha⟩ := hv
    clear hcap
    have Ha := Lib.hid ha; clear ha
    by_cases h0 : 0 < l.length
    · have hok : peakOk l rest = true := by unfold peakOk; rw [hz]; simpa using h0
      have Hv := Lib.hid (peakV_yes hok); clear hok
      have Hz := Lib.hid hz; clear hz
      obtain ⟨b, o, rfl, hb0, hrw⟩ := Ha.out (by intro h; simp [h] at h0)
      have Hrw := Lib.hid hrw
      have hb00 : bestTo l rest 0 = (l.getD 0 rn0).a := rfl
      have Hb00 := Lib.hid hb00; clear hb00
      have hl0 : ((l.length : Int) == 0) = false := by rw [beq_eq_false_iff_ne]; omega
      have hl1 : (0 : Int) < (l.length : Int) := by omega
      go_enter Try.func15, Try.ntmps15
      go_wp2_with fail
      refine (Hc.out).mono ?_; rintro e w1 ⟨rfl, hw1⟩
      rw [Hz.out]
      obtain ⟨c0, _⟩ := (hrw.below (Drewn.below hw1) hb0) 0 h0
      rw [Nat.zero_mul, Nat.add_zero] at c0
      have HW1 := Lib.hid hw1; clear hw1 hrw
      generalize hx0 : (l.getD 0 rn0).a = x0 at c0
      have HX0 := Lib.hid hx0; clear hx0
      go_wp2
      go_loopw [6, 7] (fun bv i wr => Pk1Rel l rest w bv i wr) (fun _ i _ => l.length - (intOf i).toNat)
      case atStart => exact ⟨0, Nat.zero_le _, by rw [Hb00.out, HX0.out], rfl, HW1.out⟩
      case round =>
        obtain ⟨k, hk, rfl, rfl, hw⟩ := hrel
        have HW := Lib.hid hw; clear hw
        clear c0
        by_cases hlt : k < l.length
        · obtain ⟨c0, _⟩ := (Hrw.out.below HW.out.below hb0) k hlt
          have HE := Lib.hid (fun w' (h : Drewn w w') => ((Hrw.out.below h.below hb0) k hlt).1)
          have hstep : bestTo l rest (k + 1) = if busyU l rest (bestTo l rest k) < busyU l rest (l.getD k rn0).a then (l.getD k rn0).a else bestTo l rest k := rfl
          have hb1 := busyU_le l rest (l.getD k rn0).a
          have hb2 := busyU_le l rest (bestTo l rest k)
          have Hstep := Lib.hid hstep; clear hstep
          have HB1 := Lib.hid (fun w' (h : Drewn w w') => Hb.out w' (l.getD k rn0).a h)
          have HB2 := Lib.hid (fun w' (h : Drewn w w') => Hb.out w' (bestTo l rest k) h)
          generalize (l.getD k rn0).a = x at *
          generalize bestTo l rest k = y at *
          generalize busyU l rest x = nx at *
          generalize busyU l rest y = ny at *
          go_wp2_with fail
          refine (HB1.out _ HW.out).mono ?_; rintro e w2 ⟨rfl, hw2⟩
          have HW2 := Lib.hid (Drewn.trans HW.out hw2); clear hw2
          go_wp2_with fail
          refine (HB2.out _ HW2.out).mono ?_; rintro e w3 ⟨rfl, hw3⟩
          have HW3 := Lib.hid (Drewn.trans HW2.out hw3); clear hw3
          have c3 := HE.out _ HW3.out
          by_cases hq : ny < nx
          · have hd : decide ((ny : Int) < (nx : Int)) = true := by simp only [decide_eq_true_eq]; omega
            have hd2 : decide (ny < nx) = true := by simpa using hq
            have hs := Hstep.out; rw [if_pos hq] at hs
            have Hs := Lib.hid hs; clear hs
            go_wp2
            exact ⟨⟨k + 1, hlt, by rw [Hs.out], by go_num, HW3.out⟩, by simp [intOf]; omega⟩
          · have hd : decide ((ny : Int) < (nx : Int)) = false := by simp only [decide_eq_false_iff_not]; omega
            have hd2 : decide (ny < nx) = false := by simpa using hq
            have hs := Hstep.out; rw [if_neg hq] at hs
            have Hs := Lib.hid hs; clear hs hq
            go_wp2
            exact ⟨⟨k + 1, hlt, by rw [Hs.out], by go_num, HW3.out⟩, by simp [intOf]; omega⟩
        · obtain rfl : k = l.length := by omega
          go_wp2
          go_ret2
          exact ⟨ret_val Hv.out.symm, HW.out⟩
    · have hok : peakOk l rest = false := by unfold peakOk; rw [hz]; simpa using h0
      have Hv := Lib.hid (peakV_no hok); clear hok
      have Hz := Lib.hid hz; clear hz
      have hl0 : ((l.length : Int) == 0) = true := by rw [beq_iff_eq]; omega
      clear h0
      go_enter Try.func15, Try.ntmps15
      go_wp2_with fail
      refine (Hc.out).mono ?_; rintro e w1 ⟨rfl, hw1⟩
      rw [Hz.out]
      go_wp2
      go_ret2
      exact ⟨ret_val Hv.out.symm, hw1⟩
  | false =>
    clear hv
    have hok : peakOk l rest = false := by unfold peakOk; rw [hz]; rfl
    have Hv := Lib.hid (peakV_no hok); clear hok
    have Hz := Lib.hid hz; clear hz
    go_enter Try.func15, Try.ntmps15
    go_wp2_with fail
    refine (Hc.out).mono ?_; rintro e w1 ⟨rfl, hw1⟩
    rw [Hz.out]
    go_wp2
    go_ret2
    exact ⟨ret_val Hv.out.symm, hw1⟩

def pkA (l : List Rn) (rest : Int) (k : Nat) : Int := if k = 0 then 0 else bestTo l rest k
def pkN (l : List Rn) (rest : Int) (k : Nat) : Nat := if k = 0 then 0 else busyU l rest (bestTo l rest k)

theorem pk_step {l : List Rn} {rest : Int} {k : Nat} (hz : okR l rest = true) (hk : k < l.length) :
    (pkN l rest k < busyU l rest (l.getD k rn0).a → pkA l rest (k + 1) = (l.getD k rn0).a ∧ pkN l rest (k + 1) = busyU l rest (l.getD k rn0).a) ∧
    (¬ pkN l rest k < busyU l rest (l.getD k rn0).a → pkA l rest (k + 1) = pkA l rest k ∧ pkN l rest (k + 1) = pkN l rest k) := by
  unfold pkA pkN
  by_cases h0 : k = 0
  · subst h0
    have hp := busyU_pos hz hk
    have e : bestTo l rest (0 + 1) = (l.getD 0 rn0).a := by
      show (if busyU l rest (l.getD 0 rn0).a < busyU l rest (l.getD 0 rn0).a then (l.getD 0 rn0).a else (l.getD 0 rn0).a) = _
      split <;> rfl
    simp only [if_true]
    rw [if_neg (by omega), if_neg (by omega), e]
    exact ⟨fun _ => ⟨rfl, rfl⟩, fun h => absurd hp h⟩
  · rw [if_neg h0, if_neg (show ¬ k + 1 = 0 by omega), if_neg (show ¬ k + 1 = 0 by omega), if_neg h0]
    have e : bestTo l rest (k + 1) = if busyU l rest (bestTo l rest k) < busyU l rest (l.getD k rn0).a then (l.getD k rn0).a else bestTo l rest k := rfl
    constructor
    · intro h; rw [if_pos h] at e; rw [e]; exact ⟨rfl, rfl⟩
    · intro h; rw [if_neg h] at e; rw [e]; exact ⟨rfl, rfl⟩

theorem pkN_le (l : List Rn) (rest : Int) (k : Nat) : pkN l rest k ≤ l.length := by
  unfold pkN; split
  · omega
  · exact busyU_le _ _ _

def Pk2Rel (l : List Rn) (rest : Int) (w : World) (pv mv i : Value) (wr : World) : Prop := ∃ k : Nat, k ≤ l.length ∧ pv = .int .i64 (pkA l rest k) ∧ mv = .int .i64 (pkN l rest k : Nat) ∧ i = .int .i64 k ∧ Below w.heap.size w wr

set_option maxRecDepth 100000 in
set_option maxHeartbeats 1000000 in
theorem peak2_any (v : Value) (l : List Rn) (rest : Int) (w : World) (hv : RnIn w v l) (hl : l.length ≤ 1048576) :
    Calls Try.prog 11 #[v, .int .i64 rest] w (Gives (peakV l rest) w) := by
  have Hc := Lib.hid (runs2_any v l w hv hl)
  cases hz : validU l with
  | true =>
    cases hr : restB rest with
    | true =>
      have hok0 : okR l rest = true := by unfold okR; rw [hz, hr]; rfl
      have Hb := Lib.hid (fun w' t (h : Below w.heap.size w w') => busy2_any v l rest t w' (hv.below h) hok0)
      have h12 := (validU_iff.1 hz).1
      obtain ⟨a, cap, rfl, hcap, ha⟩ := hv
      clear hcap
      have Ha := Lib.hid ha; clear ha
      have Hz := Lib.hid hz
      have Hr := Lib.hid hr
      have Hok0 := Lib.hid hok0
      by_cases h0 : 0 < l.length
      · have hok : peakOk l rest = true := by unfold peakOk; rw [hok0]; simpa using h0
        have hv' := peakV_yes hok
        have e0 : bestTo l rest l.length = pkA l rest l.length := by unfold pkA; rw [if_neg (by omega)]
        rw [e0] at hv'
        have Hv := Lib.hid hv'; clear hok hv' e0
        obtain ⟨b, o, rfl, hb0, hrw⟩ := Ha.out (by intro h; simp [h] at h0)
        have Hrw := Lib.hid hrw
        have hl0 : ((l.length : Int) == 0) = false := by rw [beq_eq_false_iff_ne]; omega
        clear hz hr hok0 hrw
        go_enter Try.func11, Try.ntmps11
        go_wp2_with fail
        refine (Hc.out).mono ?_; rintro e w1 ⟨rfl, hw1⟩
        rw [Hz.out]
        go_wp2_with fail
        refine (rest_any _ _).mono ?_; rintro e w' ⟨rfl, rfl⟩
        rw [Hr.out]
        go_wp2
        go_loopw [6, 7, 26] (fun pv mv i wr => Pk2Rel l rest w pv mv i wr) (fun _ _ i _ => l.length - (intOf i).toNat)
        case atStart => exact ⟨0, Nat.zero_le _, rfl, rfl, rfl, hw1⟩
        case round =>
          obtain ⟨k, hk, rfl, rfl, rfl, hbel⟩ := hrel
          by_cases hlt : k < l.length
          · obtain ⟨c0, c1⟩ := (Hrw.out.below hbel hb0) k hlt
            have hB : Below w.heap.size w (wr.alloc (.cells #[.int .i64 (l.getD k rn0).a, .int .i64 (l.getD k rn0).b] 29)) := hbel.alloc hbel.size _
            have HB1 := Lib.hid (Hb.out _ (l.getD k rn0).a hB)
            have Hp := Lib.hid (pk_step Hok0.out hlt)
            have hb1 := busyU_le l rest (l.getD k rn0).a
            have hb2 := pkN_le l rest k
            generalize (l.getD k rn0).a = x at *
            generalize (l.getD k rn0).b = x' at *
            generalize pkA l rest k = y at *
            generalize pkN l rest k = ny at *
            generalize busyU l rest x = nx at *
            go_wp2_with fail
            refine (HB1.out).mono ?_; rintro e w2 ⟨rfl, hw2⟩
            have hz2 : wr.heap.size < (wr.alloc (.cells #[.int .i64 x, .int .i64 x'] 29)).heap.size := by simp
            have d0 : w2.cell? ⟨wr.heap.size, 0, none⟩ = some (.int .i64 x) := keepCell hw2 (by simp)
            have HB2 := Lib.hid (hB.trans (hw2.mono hB.size)); clear hw2 hz2 c0 c1
            by_cases hq : ny < nx
            · have hd : decide ((ny : Int) < (nx : Int)) = true := by simp only [decide_eq_true_eq]; omega
              have hd2 : decide (ny < nx) = true := by simpa using hq
              have Hs := Lib.hid (Hp.out.1 hq)
              go_wp2
              exact ⟨⟨k + 1, hlt, by rw [Hs.out.1], by rw [Hs.out.2], by go_num, HB2.out⟩, by simp [intOf]; omega⟩
            · have hd : decide ((ny : Int) < (nx : Int)) = false := by simp only [decide_eq_false_iff_not]; omega
              have hd2 : decide (ny < nx) = false := by simpa using hq
              have Hs := Lib.hid (Hp.out.2 hq); clear hq
              go_wp2
              exact ⟨⟨k + 1, hlt, by rw [Hs.out.1], by rw [Hs.out.2], by go_num, HB2.out⟩, by simp [intOf]; omega⟩
          · obtain rfl : k = l.length := by omega
            go_wp2
            go_ret2
            exact ⟨ret_val Hv.out.symm, hbel⟩
      · have hok : peakOk l rest = false := by unfold peakOk; rw [hok0]; simpa using h0
        have Hv := Lib.hid (peakV_no hok); clear hok
        have hl0 : ((l.length : Int) == 0) = true := by rw [beq_iff_eq]; omega
        clear h0 hz hr hok0
        go_enter Try.func11, Try.ntmps11
        go_wp2_with fail
        refine (Hc.out).mono ?_; rintro e w1 ⟨rfl, hw1⟩
        rw [Hz.out]
        go_wp2_with fail
        refine (rest_any _ _).mono ?_; rintro e w' ⟨rfl, rfl⟩
        rw [Hr.out]
        go_wp2
        go_ret2
        exact ⟨ret_val Hv.out.symm, hw1⟩
    | false =>
      clear hv
      have hok : peakOk l rest = false := by unfold peakOk okR; rw [hz, hr]; rfl
      have Hv := Lib.hid (peakV_no hok); clear hok
      have Hz := Lib.hid hz
      have Hr := Lib.hid hr
      clear hz hr
      go_enter Try.func11, Try.ntmps11
      go_wp2_with fail
      refine (Hc.out).mono ?_; rintro e w1 ⟨rfl, hw1⟩
      rw [Hz.out]
      go_wp2_with fail
      refine (rest_any _ _).mono ?_; rintro e w' ⟨rfl, rfl⟩
      rw [Hr.out]
      go_wp2
      go_ret2
      exact ⟨ret_val Hv.out.symm, hw1⟩
  | false =>
    clear hv
    have hok : peakOk l rest = false := by unfold peakOk okR; rw [hz]; rfl
    have Hv := Lib.hid (peakV_no hok); clear hok
    have Hz := Lib.hid hz; clear hz
    go_enter Try.func11, Try.ntmps11
    go_wp2_with fail
    refine (Hc.out).mono ?_; rintro e w1 ⟨rfl, hw1⟩
    rw [Hz.out]
    go_wp2
    go_ret2
    exact ⟨ret_val Hv.out.symm, hw1⟩

theorem peak1_law (v : Value) (l : List Rn) (rest : Int) (w : World) (hv : RnIn w v l) (hl : l.length ≤ 1048576) :
    Calls Try.prog 15 #[v, .int .i64 rest] w (Gives (.tuple #[.int .i64 (peakU l rest), .bool (peakOk l rest)]) w) := Calls.gives (peak1_any v l rest w hv hl)
theorem peak2_law (v : Value) (l : List Rn) (rest : Int) (w : World) (hv : RnIn w v l) (hl : l.length ≤ 1048576) :
    Calls Try.prog 11 #[v, .int .i64 rest] w (Gives (.tuple #[.int .i64 (peakU l rest), .bool (peakOk l rest)]) w) := peak2_any v l rest w hv hl

end Go.Proofs.Ytmcapcclnkicbab
