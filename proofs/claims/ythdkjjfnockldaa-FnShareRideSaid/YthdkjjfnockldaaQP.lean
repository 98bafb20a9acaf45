/- The program's sumTaken, ShareMake, ShareDue, ShareRide, ShareSettle. -/
import Derived.Test.YthdkjjfnockldaaQL
import Derived.Test.YthdkjjfnockldaaQJ
import Derived.Test.YthdkjjfnockldaaQSU
namespace Go.Proofs.Ythdkjjfnockldaa
open Go.RowKit

def TkRel (t : List Int) (w : World) (s i : Value) (wr : World) : Prop := ∃ k : Nat, k ≤ t.length ∧ i = .int .i64 k ∧ s = .int .i64 (t.take k).sum ∧ (∀ j, j < k → 0 ≤ t.getD j 0) ∧ (0 ≤ (t.take k).sum ∧ (t.take k).sum ≤ 1000000) ∧ w = wr

set_option maxHeartbeats 1000000 in
theorem make2_any (v : Value) (l : List Pt) (amt : Int) (w : World) (hv : PtIn w v l) (hm : l.length ≤ 1048576) :
    Calls Try.prog 35 #[v, .int .i64 amt] w (IntsOk (makeX l amt) (makeOk l amt) w) := by
  have Hval := Lib.hid (valid2_any v l w hv hm)
  cases hz : validP l with
  | false =>
    have ho : makeOk l amt = false := by unfold makeOk; rw [hz]; rfl
    have hx : makeX l amt = [] := by unfold makeX; rw [ho]; rfl
    have Hx := Lib.hid hx; clear hx
    have Ho := Lib.hid ho; clear ho
    rw [hz] at Hval
    obtain ⟨a, cap, rfl, _, _⟩ := hv
    go_enter Try.func35, Try.ntmps35
    go_wp2_with fail
    refine Hval.out.mono ?_; rintro e w1 ⟨rfl, hb1⟩
    have HB := Lib.hid hb1; clear hb1
    go_wp2
    go_ret2
    rw [Hx.out, Ho.out]
    exact IntsOk.no HB.out.size (by simp) (HB.out.alloc HB.out.size _)
  | true =>
    rw [hz] at Hval
    obtain ⟨b, o, cap, rfl, _, hb, hl⟩ := hv.full hz
    cases ha : okAm amt with
    | false =>
      have ho : makeOk l amt = false := by unfold makeOk; rw [hz, ha]; rfl
      have hx : makeX l amt = [] := by unfold makeX; rw [ho]; rfl
      have Hx := Lib.hid hx; clear hx
      have Ho := Lib.hid ho; clear ho
      have HA := Lib.hid ha; clear ha hz
      go_enter Try.func35, Try.ntmps35
      go_wp2_with fail
      refine Hval.out.mono ?_; rintro e w1 ⟨rfl, hb1⟩
      have HB := Lib.hid hb1; clear hb1
      go_wp2_with fail
      refine (amountFits_any _ _).mono ?_; rintro e w1 ⟨rfl, rfl⟩
      rw [HA.out]
      go_wp2
      go_ret2
      rw [Hx.out, Ho.out]
      exact IntsOk.no HB.out.size (by simp) (HB.out.alloc HB.out.size _)
    | true =>
      have ho : makeOk l amt = true := by unfold makeOk; rw [hz, ha]; rfl
      have hx : makeX l amt = shareL (cnt6 (ownP l)) amt := by unfold makeX; rw [ho]; rfl
      have Hx := Lib.hid hx; clear hx
      have Ho := Lib.hid ho; clear ho
      have HA := Lib.hid ha
      have Ham := Lib.hid (okAm_iff.1 ha); clear ha
      have Hps := Lib.hid (cntP_pos hz)
      have Hle := Lib.hid (cnt6_le (ownP l) (ownP_len hz))
      have Hz := Lib.hid hz; clear hz
      go_enter Try.func35, Try.ntmps35
      go_wp2_with fail
      refine Hval.out.mono ?_; rintro e w1 ⟨rfl, hb1⟩
      have Hw := Lib.hid (workedM b o cap l w1 Hz.out (Nat.lt_of_lt_of_le hb hb1.size) (hl.below hb1 hb))
      have HB := Lib.hid hb1; clear hb1 hl
      go_wp2_with fail
      refine (amountFits_any _ _).mono ?_; rintro e w1 ⟨rfl, rfl⟩
      rw [HA.out]
      go_wp2_with fail
      refine (milesOf_any _ _ _ _).mono ?_; rintro e w' ⟨rfl, rfl⟩
      go_wp2_with fail
      refine Hw.out.mono ?_; rintro e w2 ⟨ad, cp, rfl, hcp, hown, _, hb3⟩
      have hsz := HB.out.size
      have hB2 := HB.out.trans ((((Below.refl w1.heap.size w1).alloc (Nat.le_refl _) _).trans (hb3.mono (by simp))).mono hsz)
      have Hsh := Lib.hid (shares_any _ (cnt6 (ownP l)) amt w2 (hown.ints hcp) (by rw [cnt6_len]; omega) Hle.out Ham.out Hps.out)
      have HB2 := Lib.hid hB2
      clear hown hb3 hB2 hcp
      generalize hn : (cnt6 (ownP l)).length = n at *
      go_wp2_with fail
      refine Hsh.out.mono ?_
      intro e w3 h3
      obtain ⟨ad3, cp3, rfl, hR⟩ := IntsOne.ok (ok := true) h3 HB2.out Hx.out
      have HR := Lib.hid hR; clear h3 hR
      generalize hm2 : (makeX l amt).length = m2 at *
      go_wp2
      go_ret2
      rw [Ho.out]
      exact HR.out

end Go.Proofs.Ythdkjjfnockldaa
