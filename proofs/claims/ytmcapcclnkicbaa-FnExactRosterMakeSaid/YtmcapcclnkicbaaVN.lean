/- RosterMake, model and program. -/
import Derived.Test.YtmcapcclnkicbaaVR
import Derived.Test.YtmcapcclnkicbaaUS
import Derived.Test.YtmcapcclnkicbaaUN
namespace Go.Proofs.Ytmcapcclnkicbaa
open Go.RowKit

def makeL (l : List Rn) (rest : Int) : List Int := if okR l rest = true then mkTo l rest l.length else []
theorem makeL_len (l : List Rn) (rest : Int) : (makeL l rest).length ≤ l.length := by
  unfold makeL; split
  · rw [mkTo_len]; exact Nat.le_refl _
  · simp

set_option maxHeartbeats 400000 in
theorem make2_any (v : Value) (l : List Rn) (rest : Int) (w : World) (hv : RnIn w v l) (hl : l.length ≤ 1048576) :
    Calls Try.prog 25 #[v, .int .i64 rest] w (IntsOk (makeL l rest) (okR l rest) w) := by
  have Hc := Lib.hid (runs2_any v l w hv hl)
  cases hz : validU l with
  | true =>
    cases hr : restB rest with
    | true =>
      have hok : okR l rest = true := by unfold okR; rw [hz, hr]; rfl
      have Hro := Lib.hid (fun w' (h : Below w.heap.size w w') => rosterOf_any v l rest w' (hv.below h) hok)
      have HV := Lib.hid (And.intro hok (show makeL l rest = mkTo l rest l.length from if_pos hok))
      have Hz := Lib.hid hz
      have Hr := Lib.hid hr
      clear hv hz hr hok
      go_enter Try.func25, Try.ntmps25
      go_wp2_with fail
      refine (Hc.out).mono ?_; rintro e w1 ⟨rfl, hw1⟩
      rw [Hz.out]
      go_wp2_with fail
      refine (rest_any _ _).mono ?_; rintro e w' ⟨rfl, rfl⟩
      rw [Hr.out]
      go_wp2_with fail
      refine (Hro.out _ hw1).mono ?_; rintro e w2 ⟨ad, cap, rfl, hcp, hown, hblk, hb2⟩
      have HB := Lib.hid (Below.trans hw1 (hb2.mono (Below.size hw1)))
      have Hcp := Lib.hid hcp
      have Hown := Lib.hid hown
      have Hblk := Lib.hid hblk
      have Hs := Lib.hid (Below.size hw1)
      clear hcp hown hblk hb2 hw1
      generalize cntTo l rest l.length = cn at *
      go_wp2
      go_ret2
      rw [HV.out.1, HV.out.2]
      exact ⟨ad, cap, by rw [mkTo_len]; rfl, by rw [mkTo_len]; exact Hcp.out, Hown.out, fun j hj => ⟨Nat.le_trans Hs.out (Hblk.out j hj).1, (Hblk.out j hj).2⟩, HB.out⟩
    | false =>
      clear hv
      have hok : okR l rest = false := by unfold okR; rw [hr]; simp
      have HV := Lib.hid (And.intro hok (show makeL l rest = [] from if_neg (by rw [hok]; simp)))
      have Hz := Lib.hid hz
      have Hr := Lib.hid hr
      clear hz hr hok
      go_enter Try.func25, Try.ntmps25
      go_wp2_with fail
      refine (Hc.out).mono ?_; rintro e w1 ⟨rfl, hw1⟩
      rw [Hz.out]
      go_wp2_with fail
      refine (rest_any _ _).mono ?_; rintro e w' ⟨rfl, rfl⟩
      rw [Hr.out]
      have HB := Lib.hid (show Below w.heap.size w w1 from hw1); clear hw1
      go_wp2
      go_ret2
      rw [HV.out.1, HV.out.2]
      exact IntsOk.no HB.out.size (by simp) (HB.out.alloc HB.out.size _)
  | false =>
    clear hv
    have hok : okR l rest = false := by unfold okR; rw [hz]; rfl
    have HV := Lib.hid (And.intro hok (show makeL l rest = [] from if_neg (by rw [hok]; simp)))
    have Hz := Lib.hid hz; clear hz hok
    go_enter Try.func25, Try.ntmps25
    go_wp2_with fail
    refine (Hc.out).mono ?_; rintro e w1 ⟨rfl, hw1⟩
    rw [Hz.out]
    have HB := Lib.hid (show Below w.heap.size w w1 from hw1); clear hw1
    go_wp2
    go_ret2
    rw [HV.out.1, HV.out.2]
    exact IntsOk.no HB.out.size (by simp) (HB.out.alloc HB.out.size _)

def MkRel (l : List Rn) (rest : Int) (w : World) (rv iv : Value) (wr : World) : Prop :=
  ∃ k : Nat, k ≤ l.length ∧ iv = .int .i64 k ∧ RowI wr w.heap.size rv (mkTo l rest k) ∧ Below w.heap.size w wr
def MtRel (l : List Rn) (rest : Int) (k : Nat) (w : World) (tv : Value) (wr : World) : Prop :=
  ∃ t : Nat, t ≤ leastT l rest (mkTo l rest k) k ∧ tv = .int .i64 t ∧ Drewn w wr

set_option maxRecDepth 100000 in
set_option maxHeartbeats 1600000 in
theorem make1_any (v : Value) (l : List Rn) (rest : Int) (w : World) (hv : RnIn w v l) (hl : l.length ≤ 1048576) :
    Calls Try.prog 24 #[v, .int .i64 rest] w (IntsOk (makeL l rest) (okR l rest) w) := by
  have hb0 : Below w.heap.size w (w.alloc (.cells #[] 3)) := (Below.refl _ _).alloc (Nat.le_refl _) _
  have Hc := Lib.hid (l3Ok_any v l rest _ (hv.below hb0) hl)
  have Hb0 := Lib.hid hb0
  have Hr0 := Lib.hid (RowI.made w w.heap.size (Nat.le_refl _))
  obtain ⟨i0, hi0, hz0, hz1, hz2⟩ := info_parts Try.info3
  cases hz : okR l rest with
  | true =>
    have h12 := (validU_iff.1 (okR_parts.1 hz).1).1
    have Hcan := Lib.hid (fun w' vr r i t (h : Below w.heap.size w w') hr hi hir => can_any v vr l r rest t i w' (hv.below h) hr hz hi hir)
    obtain ⟨a, cap, rfl, hcap, ha⟩ := hv
    clear hcap ha hb0
    have HV := Lib.hid (show makeL l rest = mkTo l rest l.length from if_pos hz)
    have Hz := Lib.hid hz; clear hz
    go_enter Try.func24, Try.ntmps24
    go_wp2_with fail
    refine (Hc.out).mono ?_; rintro e w1 ⟨rfl, hw1⟩
    rw [Hz.out]
    have HW1 := Lib.hid (Hb0.out.trans ((Drewn.below hw1).mono Hb0.out.size))
    have HR1 := Lib.hid (Hr0.out.below (Drewn.below hw1))
    clear hw1
    go_wp2
    go_loopw [6, 7] (fun rv iv wr => MkRel l rest w rv iv wr) (fun _ i _ => l.length - (intOf i).toNat)
    case atStart => exact ⟨0, Nat.zero_le _, rfl, HR1.out, HW1.out⟩
    case round =>
      obtain ⟨k, hk, rfl, hrow, hbel⟩ := hrel
      by_cases hlt : k < l.length
      · have hk0 : (0 : Int) ≤ (k : Int) := Int.natCast_nonneg _
        have hk1 : (k : Int) < (l.length : Int) := by omega
        have Hrow := Lib.hid hrow
        have Hbel := Lib.hid hbel
        have hkl := mkTo_len l rest k
        have Hkl := Lib.hid hkl
        have hle := leastT_le l rest (mkTo l rest k) k
        have Hmk := Lib.hid (show mkTo l rest (k + 1) = mkTo l rest k ++ [(leastT l rest (mkTo l rest k) k : Int)] from rfl)
        have Hcn := Lib.hid (least_can l rest k)
        have Hlo := Lib.hid (fun (t : Nat) (h : t < leastT l rest (mkTo l rest k) k) => least_lt l rest k h)
        have Hup := Lib.hid (fun (t : Nat) (h1 : canU l rest (mkTo l rest k) k (t : Int) = true) (h2 : t ≤ leastT l rest (mkTo l rest k) k) => (show t = leastT l rest (mkTo l rest k) k by
          rcases Nat.lt_or_ge t (leastT l rest (mkTo l rest k) k) with h | h
          · have := least_lt l rest k h; rw [h1] at this; cases this
          · omega))
        obtain ⟨ado, cpo, rfl, hcpo, howno, _⟩ := hrow.row
        have HIn := Lib.hid (howno.ints hcpo)
        obtain ⟨wo, rfl⟩ : ∃ wo : World, wo = wr := ⟨_, rfl⟩
        clear hrow hbel hkl hcpo howno
        go_wp2
        go_loopw [8] (fun tv wq => MtRel l rest k wo tv wq) (fun t _ => leastT l rest (mkTo l rest k) k + 1 - (intOf t).toNat)
        case atStart => exact ⟨0, Nat.zero_le _, rfl, Drewn.refl wo⟩
        case round =>
          obtain ⟨t, ht, rfl, hd⟩ := hrel
          have HD := Lib.hid hd; clear hd
          have HC := Lib.hid (Hcan.out wr _ (mkTo l rest k) k (t : Int) (Hbel.out.trans ((HD.out.below).mono Hbel.out.size)) (HIn.out.below HD.out.below) hlt (by rw [Hkl.out]; exact Nat.le_refl _))
          cases hcu : canU l rest (mkTo l rest k) k (t : Int) with
          | false =>
            have htn : t < leastT l rest (mkTo l rest k) k := by
              rcases Nat.lt_or_ge t (leastT l rest (mkTo l rest k) k) with h | h
              · exact h
              · have e : t = leastT l rest (mkTo l rest k) k := by omega
                rw [e, Hcn.out] at hcu; cases hcu
            have Hcu := Lib.hid hcu; clear hcu
            have Htn := Lib.hid htn; clear htn
            generalize hlt0 : leastT l rest (mkTo l rest k) k = lt at *
            have Hlt0 := Lib.hid hlt0; clear hlt0
            have ht12 : (t : Int) ≤ 12 := by have := Htn.out; omega
            go_wp2_with fail
            refine (HC.out).mono ?_; rintro e w2 ⟨rfl, hw2⟩
            rw [Hcu.out]
            have HD2 := Lib.hid (Drewn.trans HD.out hw2); clear hw2
            go_wp2
            exact ⟨⟨t + 1, by rw [Hlt0.out]; exact Htn.out, by go_num, HD2.out⟩, by simp [intOf]; have := Htn.out; omega⟩
          | true =>
            have hte := Hup.out t hcu ht
            have Hcu := Lib.hid hcu; clear hcu
            have Hmk2 := Lib.hid (show mkTo l rest (k + 1) = mkTo l rest k ++ [(t : Int)] by rw [Hmk.out, ← hte])
            clear hte ht
            go_wp2_with fail
            refine (HC.out).mono ?_; rintro e w2 ⟨rfl, hw2⟩
            rw [Hcu.out]
            have hd2 := Drewn.trans HD.out hw2
            have hown := Hrow.out.below (Drewn.below hd2)
            unfold RowI at hown
            have HB2 := Lib.hid (Hbel.out.trans ((Drewn.below hd2).mono Hbel.out.size))
            have hs2 := HB2.out.size
            clear hw2 hd2
            go_wp2_with (at_builtin; refine wpList_append_own _ rfl _ _ 29 rfl w.heap.size 3 i0 (.int .i64 0) 1 8 Try.underlying29 hi0 hz0 hz1 hz2 rfl (by decide) _ _ _ rfl (hown.alloc _) ⟨w2.heap.size, 0, none⟩ 1 1 [.int .i64 (t : Int)] rfl rfl (cell_one_new _ _ _) (by simp [Value.oneCell']) (by rw [Hkl.out]; unfold maxLen; omega) (by rw [Hkl.out]; omega) (by simp; omega) ?_; intro v' w3 hown3 hgrow _)
            have hrow3 : RowI w3 w.heap.size v' (mkTo l rest (k + 1)) := by rw [Hmk2.out]; exact RowI.snoc hown3
            have hb3 : Below w.heap.size w w3 := (HB2.out.alloc hs2 _).grown hgrow (by simp; omega) (fun j hj => (hown.lt j hj).1)
            have HR3 := Lib.hid hrow3
            have HB3 := Lib.hid hb3
            clear hrow3 hb3 hown3 hgrow hown
            go_wp2
            exact ⟨⟨k + 1, hlt, by go_num, HR3.out, HB3.out⟩, by simp [intOf]; omega⟩
      · obtain rfl : k = l.length := by omega
        obtain ⟨ad, cp, rfl, hcp, hown, hblk⟩ := hrow.row
        rw [mkTo_len]
        rw [mkTo_len] at hcp
        have Hown := Lib.hid hown
        have Hblk := Lib.hid hblk
        have Hcp := Lib.hid hcp
        have HB := Lib.hid hbel
        clear hrow hown hblk hcp hbel
        go_wp2
        go_ret2
        rw [HV.out]
        exact ⟨ad, cp, by rw [mkTo_len]; rfl, by rw [mkTo_len]; exact Hcp.out, Hown.out, Hblk.out, HB.out⟩
  | false =>
    clear hv hb0
    have HV := Lib.hid (show makeL l rest = [] from if_neg (by rw [hz]; simp))
    have Hz := Lib.hid hz; clear hz
    go_enter Try.func24, Try.ntmps24
    go_wp2_with fail
    refine (Hc.out).mono ?_; rintro e w1 ⟨rfl, hw1⟩
    rw [Hz.out]
    have HW1 := Lib.hid (Hb0.out.trans ((Drewn.below hw1).mono Hb0.out.size))
    have hs1 := Below.size (Drewn.below hw1)
    have hsz : w.heap.size < w1.heap.size := by simp at hs1; omega
    clear hw1 hs1
    go_wp2
    go_ret2
    rw [HV.out]
    exact IntsOk.no (Nat.le_refl _) hsz HW1.out

end Go.Proofs.Ytmcapcclnkicbaa
