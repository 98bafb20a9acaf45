/- The model's l3Can and RosterValid. -/
import Derived.Test.YtmcapcclnkicbaaUQ
import Derived.Test.YtmcapcclnkicbaaUW
import Derived.Test.YtmcapcclnkicbaaI
namespace Go.Proofs.Ytmcapcclnkicbaa
open Go.RowKit

def CanRel (l : List Rn) (rest : Int) (r : List Int) (i : Nat) (t : Int) (w : World) (kv : Value) (wr : World) : Prop := ∃ k : Nat, k ≤ i ∧ kv = .int .i64 k ∧ canTo l rest r i t k = true ∧ Drewn w wr

set_option maxRecDepth 100000 in
set_option maxHeartbeats 1000000 in
theorem can_any (v vr : Value) (l : List Rn) (r : List Int) (rest t : Int) (i : Nat) (w : World) (hv : RnIn w v l) (hr : IntsIn w vr r) (hz : okR l rest = true) (hi : i < l.length) (hir : i ≤ r.length) :
    Calls Try.prog 53 #[v, .int .i64 rest, vr, .int .i64 (i : Int), .int .i64 t] w (Quiet (.bool (canU l rest r i t)) w) := by
  obtain ⟨a, cap, rfl, hcap, ha⟩ := hv
  obtain ⟨ar, capr, rfl, hcapr, har⟩ := hr
  clear hcap hcapr
  have Har := Lib.hid har; clear har
  obtain ⟨b, o, rfl, hb0, hrw⟩ := ha (by rintro rfl; simp at hi)
  clear ha
  obtain ⟨hz1, r0, r6⟩ := okR_parts.1 hz
  have h12 := (validU_iff.1 hz1).1
  have hati := validU_at hz1 hi
  have Hz := Lib.hid hz1; clear hz hz1
  have Hrw := Lib.hid hrw; clear hrw
  have Hi := Lib.hid hi
  have hii0 : (0 : Int) ≤ (i : Int) := Int.natCast_nonneg _
  have hii1 : (i : Int) < (l.length : Int) := by omega
  have hcan : canU l rest r i t = canTo l rest r i t i := rfl
  have Hcan := Lib.hid hcan; clear hcan
  go_enter Try.func53, Try.ntmps53
  go_wp2
  go_loopw [11] (fun kv wr => CanRel l rest r i t w kv wr) (fun kv _ => i - (intOf kv).toNat)
  case atStart => exact ⟨0, Nat.zero_le _, rfl, rfl, Drewn.refl w⟩
  case round =>
    obtain ⟨k, hk, rfl, hc, hw⟩ := hrel
    have HW := Lib.hid hw; clear hw
    have Hc := Lib.hid hc; clear hc
    by_cases hlt : k < i
    · have hlt' : (k : Int) < (i : Int) := by omega
      have hk0 : (0 : Int) ≤ (k : Int) := Int.natCast_nonneg _
      have hk1 : (k : Int) < (l.length : Int) := by omega
      have hk2 : (k : Int) < (r.length : Int) := by omega
      obtain ⟨br, or', rfl, hbr0, hri⟩ := Har.out (by rintro rfl; simp at hir; omega)
      have d0 := (hri.below HW.out.below hbr0) k (by omega)
      obtain ⟨_, c1⟩ := (Hrw.out.below HW.out.below hb0) k (by omega)
      obtain ⟨e0, _⟩ := (Hrw.out.below HW.out.below hb0) i Hi.out
      have hat := validU_at Hz.out (show k < l.length by omega)
      have Hup := Lib.hid (fun h => canTo_succ (l := l) (rest := rest) (r := r) (i := i) (t := t) (j := k) Hc.out h)
      have Hno := Lib.hid (fun h1 h2 => canTo_hit (l := l) (rest := rest) (r := r) (i := i) (t := t) (k := k) hlt h1 h2)
      clear hri
      generalize r.getD k 0 = y at *
      generalize (l.getD k rn0).b = xb at *
      generalize (l.getD k rn0).a = xa at *
      generalize (l.getD i rn0).a = xi at *
      obtain ⟨h1, h2, h3, _⟩ := hat
      have hwr : IntKind.i64.wrap (xb + rest) = xb + rest := IntWalk.i64_in _ (by omega)
      by_cases q1 : y = t
      · have hd1 : (y == t) = true := by simpa using q1
        by_cases q2 : xi < xb + rest
        · have hd2 : decide (xi < xb + rest) = true := by simpa using q2
          have Hz2 := Lib.hid (Hcan.out.trans (Hno.out q1 q2))
          clear q1
          go_wp2
          go_quiet (fail)
          go_wp2
          go_ret
          exact ⟨ret_bool Hz2.out.symm, HW.out.drewN _⟩
        · have hd2 : decide (xi < xb + rest) = false := by simp only [decide_eq_false_iff_not]; omega
          have Hu := Lib.hid (Hup.out (fun _ => by omega))
          clear q1 q2
          go_wp2
          go_quiet (fail)
          go_wp2
          exact ⟨⟨k + 1, hlt, by go_num, Hu.out, HW.out.drewN _⟩, by simp [intOf]; omega⟩
      · have hd1 : (y == t) = false := by simpa using q1
        have Hu := Lib.hid (Hup.out (fun h => absurd h q1))
        clear q1
        go_wp2
        go_quiet (fail)
        go_wp2
        exact ⟨⟨k + 1, hlt, by go_num, Hu.out, HW.out.drewN _⟩, by simp [intOf]; omega⟩
    · obtain rfl : k = i := by omega
      have Hz2 := Lib.hid (Hcan.out.trans Hc.out)
      go_wp2
      go_ret
      exact ⟨ret_bool Hz2.out.symm, HW.out⟩

def Rv1Rel (l : List Rn) (rest : Int) (r : List Int) (w : World) (kv : Value) (wr : World) : Prop := ∃ k : Nat, k ≤ r.length ∧ kv = .int .i64 k ∧ okTTo l rest r k = true ∧ Drewn w wr

set_option maxRecDepth 100000 in
set_option maxHeartbeats 1000000 in
theorem roster1_any (v vr : Value) (l : List Rn) (r : List Int) (rest : Int) (w : World) (hv : RnIn w v l) (hr : IntsIn w vr r) (hl : l.length ≤ 1048576) (hlr : r.length ≤ 1048576) :
    Calls Try.prog 20 #[v, .int .i64 rest, vr] w (Quiet (.bool (rosU l rest r)) w) := by
  have Hok := Lib.hid (l3Ok_any v l rest w hv hl)
  cases hz : okR l rest with
  | true =>
    have Hcan := Lib.hid (fun w' i t (h : Drewn w w') hi hir => can_any v vr l r rest t i w' (hv.below h.below) (hr.below h.below) hz hi hir)
    obtain ⟨a, cap, rfl, hcap, ha⟩ := hv
    obtain ⟨ar, capr, rfl, hcapr, har⟩ := hr
    clear hcap hcapr ha
    have Har := Lib.hid har; clear har
    by_cases hle : r.length = l.length
    · have hrl : rosU l rest r = okTTo l rest r r.length := by unfold rosU; rw [hz, hle]; simp
      have Hrl := Lib.hid hrl
      have Hle := Lib.hid hle
      have Hz := Lib.hid hz
      have hne : ((r.length : Int) != (l.length : Int)) = false := by rw [hle]; simp
      have hne2 : (r.length != l.length) = false := by rw [hle]; simp
      clear hrl hle hz
      go_enter Try.func20, Try.ntmps20
      go_wp2_with fail
      refine (Hok.out).mono ?_; rintro e w1 ⟨rfl, hw1⟩
      rw [Hz.out]
      have HW1 := Lib.hid (show Drewn w w1 from hw1); clear hw1
      go_wp2
      go_loopw [7] (fun kv wr => Rv1Rel l rest r w kv wr) (fun kv _ => r.length - (intOf kv).toNat)
      case atStart => exact ⟨0, Nat.zero_le _, rfl, rfl, HW1.out⟩
      case round =>
        obtain ⟨k, hk, rfl, hc, hw⟩ := hrel
        have HW := Lib.hid hw; clear hw
        have Hc := Lib.hid hc; clear hc
        by_cases hlt : k < r.length
        · have hk0 : (0 : Int) ≤ (k : Int) := Int.natCast_nonneg _
          have hk2 : (k : Int) < (r.length : Int) := by omega
          obtain ⟨br, or', rfl, hbr0, hri⟩ := Har.out (by rintro rfl; simp at hlt)
          have d0 := (hri.below HW.out.below hbr0) k hlt
          have HD := Lib.hid (fun w' (h : Drewn w w') => (hri.below h.below hbr0) k hlt)
          have Hq := Lib.hid (fun w' (h : Drewn w w') => Hcan.out w' k (r.getD k 0) h (by rw [← Hle.out]; exact hlt) (by omega))
          have hokT : okT l rest r k = (decide (0 ≤ r.getD k 0) && decide (r.getD k 0 < 12) && canU l rest r k (r.getD k 0)) := rfl
          have HokT := Lib.hid hokT; clear hokT hri
          have Hsucc := Lib.hid (okTTo_succ l rest r k)
          have Hno := Lib.hid (fun h => Hrl.out ▸ (rosU_no3 (l := l) (rest := rest) hlt h))
          have Hno' := Lib.hid (fun h => rosU_no3 (l := l) (rest := rest) (r := r) hlt h)
          clear Hno
          generalize r.getD k 0 = y at *
          by_cases q1 : 0 ≤ y ∧ y ≤ 11
          · have p1 : inB y 0 11 = true := (inB_iff _ _ _).2 q1
            obtain ⟨q1a, q1b⟩ := q1
            have h0 : (decide (0 ≤ y) && decide (y < 12)) = true := by simp; omega
            have HokT2 := Lib.hid (show okT l rest r k = canU l rest r k y by rw [HokT.out, h0]; rfl)
            cases hcu : canU l rest r k y with
            | true =>
              have Hcu := Lib.hid hcu; clear hcu h0
              have Hu := Lib.hid (show okTTo l rest r (k + 1) = true by rw [Hsucc.out, Hc.out, HokT2.out, Hcu.out]; rfl)
              go_wp2_with fail
              refine (l6In_any _ _ _ _).mono ?_; rintro e w' ⟨rfl, rfl⟩
              rw [p1]
              go_wp2_with fail
              refine (Hq.out _ HW.out).mono ?_; rintro e w2 ⟨rfl, hw2⟩
              rw [Hcu.out]
              have HW2 := Lib.hid (Drewn.trans HW.out hw2); clear hw2
              go_wp2
              exact ⟨⟨k + 1, hlt, by go_num, Hu.out, HW2.out⟩, by simp [intOf]; omega⟩
            | false =>
              have Hcu := Lib.hid hcu; clear hcu h0
              have Hu := Lib.hid (Hno'.out (by rw [HokT2.out, Hcu.out]))
              go_wp2_with fail
              refine (l6In_any _ _ _ _).mono ?_; rintro e w' ⟨rfl, rfl⟩
              rw [p1]
              go_wp2_with fail
              refine (Hq.out _ HW.out).mono ?_; rintro e w2 ⟨rfl, hw2⟩
              rw [Hcu.out]
              have HW2 := Lib.hid (Drewn.trans HW.out hw2); clear hw2
              go_wp2
              go_ret
              exact ⟨ret_bool Hu.out.symm, HW2.out⟩
          · have p1 : inB y 0 11 = false := by rw [Bool.eq_false_iff]; intro h; exact q1 ((inB_iff _ _ _).1 h)
            have h0 : (decide (0 ≤ y) && decide (y < 12)) = false := by
              rw [Bool.eq_false_iff]; intro h; simp only [Bool.and_eq_true, decide_eq_true_eq] at h; omega
            have Hu := Lib.hid (Hno'.out (by rw [HokT.out, h0]; rfl))
            clear q1 h0
            go_wp2_with fail
            refine (l6In_any _ _ _ _).mono ?_; rintro e w' ⟨rfl, rfl⟩
            rw [p1]
            go_wp2
            go_ret
            exact ⟨ret_bool Hu.out.symm, HW.out⟩
        · obtain rfl : k = r.length := by omega
          have Hz2 := Lib.hid (Hrl.out.trans Hc.out)
          go_wp2
          go_ret
          exact ⟨ret_bool Hz2.out.symm, HW.out⟩
    · have hrl := rosU_no2 (rest := rest) hle
      have Hrl := Lib.hid hrl
      have Hz := Lib.hid hz
      have hne : ((r.length : Int) != (l.length : Int)) = true := by rw [bne_iff_ne]; omega
      have hne2 : (r.length != l.length) = true := by rw [bne_iff_ne]; exact hle
      clear hrl hle hz
      go_enter Try.func20, Try.ntmps20
      go_wp2_with fail
      refine (Hok.out).mono ?_; rintro e w1 ⟨rfl, hw1⟩
      rw [Hz.out]
      go_wp2
      go_ret
      exact ⟨ret_bool Hrl.out.symm, hw1⟩
  | false =>
    clear hv hr
    have Hrl := Lib.hid (rosU_no1 (r := r) hz)
    have Hz := Lib.hid hz
    clear hz
    go_enter Try.func20, Try.ntmps20
    go_wp2_with fail
    refine (Hok.out).mono ?_; rintro e w1 ⟨rfl, hw1⟩
    rw [Hz.out]
    go_wp2
    go_ret
    exact ⟨ret_bool Hrl.out.symm, hw1⟩

end Go.Proofs.Ytmcapcclnkicbaa
