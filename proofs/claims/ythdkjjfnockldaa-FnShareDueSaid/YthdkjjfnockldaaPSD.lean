/- The law FnShareDue holds at every input. No condition. -/
import Derived.Test.YthdkjjfnockldaaDPA
import Derived.Test.YthdkjjfnockldaaSFS
import Derived.Test.YthdkjjfnockldaaLH
import Derived.Test.YthdkjjfnockldaaSI
import Derived.Test.YthdkjjfnockldaaSUF
import Derived.Test.YthdkjjfnockldaaQP
import Derived.Test.YthdkjjfnockldaaQ7
import Derived.Test.YthdkjjfnockldaaQK
import Derived.Test.YthdkjjfnockldaaQL
import Derived.Test.YthdkjjfnockldaaQR
namespace Go.Proofs.Ythdkjjfnockldaa.lawFnShareDue
open Go.ChangeShapes Go.WideShapes Go.ChangeAt Go.RowKit
set_option linter.unusedVariables false

def SrRel (w : World) (iv : Value) (wr : World) : Prop := ∃ i : Nat, i ≤ 6 ∧ iv = .int .i64 i ∧ Below w.heap.size w wr

def wholeTo (ds : List Int) (n : Int) (k : Nat) : Bool := (List.range k).all fun j => ds.getD j 0 % n == 0
theorem wholeTo_succ (ds : List Int) (n : Int) (k : Nat) : wholeTo ds n (k + 1) = (wholeTo ds n k && (ds.getD k 0 % n == 0)) := by simp [wholeTo, List.range_succ]
theorem wholeTo_all {ds : List Int} {n : Int} {k : Nat} (h : wholeTo ds n k = true) : ∀ j, j < k → ds.getD j 0 % n = 0 := by
  simp only [wholeTo, List.all_eq_true, List.mem_range, beq_iff_eq] at h
  exact h
def SdwRel (ds : List Int) (n : Int) (w : World) (hv iv : Value) (wr : World) : Prop := ∃ i : Nat, i ≤ 6 ∧ iv = .int .i64 i ∧ hv = .bool (wholeTo ds n i) ∧ Below w.heap.size w wr

set_option maxRecDepth 100000 in
set_option maxHeartbeats 2000000 in
theorem walk (v : Value) (l : List Int) (w : World) (hv : BytesIn w v l) (hm : l.length ≤ maxLen) :
    Calls Try.prog 12 #[v] w fun e w' => e = .returned (.bool true) ∧ Below w.heap.size w w' := by
  have Hv := Lib.hid hv
  obtain ⟨av, cv, rfl, hcv, _, _⟩ := hv
  clear hcv
  by_cases hl : l.length ≤ 1048576
  · have hl' : ¬ (1048576 : Int) < (l.length : Int) := by omega
    go_enter Try.func12, Try.ntmps12
    go_wp2_with fail
    refine (drawShareDue_any _ l _ Hv.out hl).mono ?_; rintro e w1 ⟨pv, xs, a, rfl, hp, hx8, ha0, ha1, hb⟩
    have Hx1 := Lib.hid hp
    have HB1 := Lib.hid hb
    have hx : xs.length ≤ 1048576 := by omega
    clear hb hp
    have H2 := Lib.hid (fun w' (h : PtIn w' pv xs) => dueS2_any pv xs a w' h hx)
    have H1 := Lib.hid (fun w' (h : PtIn w' pv xs) => dueS1_any pv xs a w' h hx)
    cases hok : makeOk xs a with
    | false =>
      have hno : dueX xs a = [] := by unfold dueX; rw [if_no hok]
      rw [hno, hok] at H2 H1
      clear hok hno
      go_wp2_with fail
      refine (H2.out _ Hx1.out).mono ?_; intro e w2 h2
      obtain ⟨v2, rfl, hi2, hb2⟩ := okIn h2
      have Hx2 := Lib.hid (Hx1.out.below hb2)
      have HB2 := Lib.hid (HB1.out.trans (hb2.mono HB1.out.size))
      have HI2 := Lib.hid hi2
      clear hb2 hi2 h2
      go_wp2_with fail
      refine (H1.out _ Hx2.out).mono ?_; intro e w3 h3
      obtain ⟨v3, rfl, hi3, hb3⟩ := okIn h3
      have HB3 := Lib.hid (HB2.out.trans (hb3.mono HB2.out.size))
      have HI3 := Lib.hid (HI2.out.below hb3)
      have HJ3 := Lib.hid hi3
      clear hb3 hi3 h3
      go_wp2_with fail
      refine (sameInts_any _ _ [] [] _ HI3.out HJ3.out (by simp)).mono ?_; rintro e w4 ⟨⟨x, rfl, hx4⟩, hb4⟩
      obtain rfl : x = true := hx4.2 rfl
      have HB4 := Lib.hid (HB3.out.trans (hb4.mono HB3.out.size))
      have HI4 := Lib.hid (HI3.out.below hb4)
      have HJ4 := Lib.hid (HJ3.out.below hb4)
      clear hb4 hx4
      go_wp2_with fail
      refine (sameInts_any _ _ [] [] _ HI4.out HJ4.out (by simp)).mono ?_; rintro e w5 ⟨⟨x, rfl, hx5⟩, hb5⟩
      obtain rfl : x = true := hx5.2 rfl
      have HB5 := Lib.hid (HB4.out.trans (hb5.mono HB4.out.size))
      clear hb5 hx5
      go_wp2
      go_ret
      exact ⟨rfl, HB5.out⟩
    | true =>
      have hk := hok
      unfold makeOk at hk
      simp only [Bool.and_eq_true] at hk
      obtain ⟨hz, ham⟩ := hk
      obtain ⟨a0, a1⟩ := okAm_iff.1 ham
      have hpos := cntP_pos hz
      have hmx : milesX xs = cnt6 (ownP xs) := by unfold milesX; rw [if_yes hz]
      have hmm := cnt6_le _ (ownP_len hz)
      have hl6 := cnt6_len (ownP xs)
      have hsx : makeX xs a = shareL (cnt6 (ownP xs)) a := by unfold makeX; rw [if_yes hok]
      have hdx : dueX xs a = dueL (cnt6 (ownP xs)) a := by unfold dueX; rw [if_yes hok]
      have hs6 : (shareL (cnt6 (ownP xs)) a).length = 6 := by rw [shareL_len, cnt6_len]
      have hd6 : (dueL (cnt6 (ownP xs)) a).length = 6 := by rw [dueL_len, cnt6_len]
      have hsb := shareL_bd (ms := cnt6 (ownP xs)) (amt := a) (by omega) hmm ⟨a0, a1⟩ hpos.1
      have hsum := dueL_sum (cnt6 (ownP xs)) a
      have hln : lenX xs = (cnt6 (ownP xs)).sum := by rw [lenX_yes hz, cntP_sum hz]
      have HM := Lib.hid (fun w' (h : PtIn w' pv xs) => make2_any pv xs a w' h hx)
      have HL := Lib.hid (fun w' (h : PtIn w' pv xs) => len2_any pv xs w' h hx)
      rw [hsx, hok] at HM
      rw [hln] at HL
      rw [hdx, hok] at H2 H1
      clear hok hz ham hmx hsx hx8 ha0 ha1 hdx hln
      generalize cnt6 (ownP xs) = ms at *
      have HWhole := Lib.hid (fun (h : ∀ i, i < ms.length → a * ms.getD i 0 % ms.sum = 0) => share_whole (amt := a) hpos.1 h)
      have HDb := Lib.hid (fun (i : Nat) => (show 0 ≤ (dueL ms a).getD i 0 ∧ (dueL ms a).getD i 0 ≤ 1188000000 from by
        rw [dueG]
        have hmb := hmm i
        have hp0 : 0 ≤ a * ms.getD i 0 := Int.mul_nonneg a0 hmb.1
        have hp1 : a * ms.getD i 0 ≤ 1000000 * 1188 := Int.mul_le_mul a1 hmb.2 hmb.1 (by omega)
        omega))
      have HDM := Lib.hid (fun (i : Nat) => (show -2000000000 ≤ (dueL ms a).getD i 0 ∧ (dueL ms a).getD i 0 ≤ 2000000000 from by have := HDb.out i; omega))
      have HDu := Lib.hid (fun (i : Nat) => dueG ms a i)
      have HSb := Lib.hid (fun (i : Nat) => hsb i)
      obtain ⟨n, hn⟩ : ∃ n, ms.sum = n := ⟨_, rfl⟩
      rw [hn] at HL HWhole hpos hsum
      generalize shareL ms a = ss at *
      generalize dueL ms a = ds at *
      have hpn0 : 0 ≤ a * n := Int.mul_nonneg a0 (by omega)
      have hpn1 : a * n ≤ 1000000 * 7128 := Int.mul_le_mul a1 hpos.2 (by omega) (by omega)
      obtain ⟨pn, hpn⟩ : ∃ pn, a * n = pn := ⟨_, rfl⟩
      rw [hpn] at hsum hpn0 hpn1
      have Hpn := Lib.hid (And.intro (show wrap64 (a * n) = pn by rw [hpn]; exact wrap64_ok (by omega) (by omega)) (show IntKind.i64.wrap (a * n) = pn by rw [hpn]; exact IntWalk.i64_in _ (by omega)))
      have Hsum := Lib.hid hsum
      clear hsb hmm hsum hn hpn hpn0 hpn1
      go_wp2_with fail
      refine (H2.out _ Hx1.out).mono ?_; intro e w2 h2
      obtain ⟨v2, rfl, hi2, hb2⟩ := okIn h2
      have Hx2 := Lib.hid (Hx1.out.below hb2)
      have HB2 := Lib.hid (HB1.out.trans (hb2.mono HB1.out.size))
      have HI2 := Lib.hid hi2
      clear hb2 hi2 h2
      go_wp2_with fail
      refine (H1.out _ Hx2.out).mono ?_; intro e w3 h3
      obtain ⟨v3, rfl, hi3, hb3⟩ := okIn h3
      have Hx3 := Lib.hid (Hx2.out.below hb3)
      have HB3 := Lib.hid (HB2.out.trans (hb3.mono HB2.out.size))
      have HI3 := Lib.hid (HI2.out.below hb3)
      have HJ3 := Lib.hid hi3
      clear hb3 hi3 h3 H1 H2 Hx1 Hx2 HI2 HB1 HB2
      go_wp2_with fail
      refine (sameInts_any _ _ ds ds _ HI3.out HJ3.out (by omega)).mono ?_; rintro e w4 ⟨⟨x, rfl, hx4⟩, hb4⟩
      obtain rfl : x = true := hx4.2 rfl
      have Hx4 := Lib.hid (Hx3.out.below hb4)
      have HB4 := Lib.hid (HB3.out.trans (hb4.mono HB3.out.size))
      have HI4 := Lib.hid (HI3.out.below hb4)
      clear hb4 hx4 Hx3 HB3 HI3 HJ3
      go_wp2_with fail
      refine (HL.out _ Hx4.out).mono ?_; rintro e w5 ⟨rfl, hb5⟩
      have HB5 := Lib.hid (HB4.out.trans (hb5.mono HB4.out.size))
      have Hx5 := Lib.hid (Hx4.out.below hb5)
      have HI5 := Lib.hid (HI4.out.below hb5)
      clear hb5 HL Hx4 HB4 HI4
      go_wp2_with fail
      refine (HM.out _ Hx5.out).mono ?_; intro e w7 h7
      obtain ⟨v7, rfl, hi7, hb7⟩ := okIn h7
      have HB7 := Lib.hid (HB5.out.trans (hb7.mono HB5.out.size))
      have hI7 := HI5.out.below hb7
      have HI7 := Lib.hid hI7
      obtain ⟨b2, o2, c2, rfl, hb2, hr2⟩ := six hI7 hd6
      obtain ⟨bs, os, cs, rfl, hbs, hrs⟩ := six hi7 hs6
      have HC := Lib.hid (fun (w' : World) (h : Below w7.heap.size w7 w') (i : Nat) (hi : i < 6) => (show w'.cell? ⟨b2, o2 + i, none⟩ = some (.int .i64 (ds.getD i 0)) ∧ w'.cell? ⟨bs, os + i, none⟩ = some (.int .i64 (ss.getD i 0)) from ⟨(hr2.below h hb2) i (by omega), (hrs.below h hbs) i (by omega)⟩))
      clear hb7 HM h7 hi7 Hx5 HB5 HI5 hI7 hb2 hr2 hbs hrs
      go_wp2
      go_loopw [12, 13] (fun hv iv wr => SdwRel ds n w7 hv iv wr) (fun _ iv _ => 6 - (intOf iv).toNat)
      case atStart => exact ⟨0, Nat.zero_le _, rfl, rfl, Below.refl _ _⟩
      case round =>
        obtain ⟨i, hi, rfl, rfl, hb⟩ := hrel
        by_cases hlt : i < 6
        · obtain ⟨c0, _⟩ := HC.out _ hb i hlt
          have hdb := HDb.out i
          have hst := wholeTo_succ ds n i
          have HB := Lib.hid hb
          have hi' : (i : Int) < 6 := by omega
          have hi0 : (0 : Int) ≤ (i : Int) := Int.natCast_nonneg _
          generalize ds.getD i 0 = d at *
          obtain ⟨hd0, hd1⟩ := hdb
          have hn0 : 0 < n := hpos.1
          have hnz : n ≠ 0 := by omega
          have htm : Int.tmod d n = d % n := Int.tmod_eq_emod_of_nonneg hd0
          cases hwt : wholeTo ds n i with
          | false =>
            rw [hwt, Bool.false_and] at hst
            have Hst := Lib.hid hst
            clear hb hi hst hwt htm
            go_wp2
            exact ⟨⟨i + 1, hlt, by go_num, by rw [Hst.out], HB.out⟩, by simp [intOf]; omega⟩
          | true =>
            rw [hwt, Bool.true_and] at hst
            have Hst := Lib.hid hst
            clear hb hi hst hwt
            go_wp2
            exact ⟨⟨i + 1, hlt, by go_num, by rw [Hst.out], HB.out⟩, by simp [intOf]; omega⟩
        · obtain rfl : i = 6 := by omega
          have HI8 := Lib.hid (HI7.out.below hb)
          have HB8 := Lib.hid (HB7.out.trans (hb.mono HB7.out.size))
          have HC8 := Lib.hid (fun (w' : World) (h : Below wr.heap.size wr w') (i : Nat) (hi : i < 6) => HC.out w' (hb.trans (h.mono hb.size)) i hi)
          have hs100 : ds.length ≤ 100 := by omega
          clear hb hlt hi HC HB7 HI7
          cases hwt : wholeTo ds n 6 with
          | false =>
            clear hwt HC8 HWhole
            go_wp2
            go_loopw [14] (fun iv w' => iv = .int .i64 0 ∧ wr = w') (fun _ _ => 0)
            case atStart => exact ⟨rfl, rfl⟩
            case round =>
              obtain ⟨rfl, hw⟩ := hrel
              subst hw
              go_wp2_with fail
              refine (sumOf_any _ ds _ HI8.out hs100 HDM.out).mono ?_; rintro e _ ⟨rfl, rfl⟩
              rw [Hsum.out]
              obtain ⟨hp1, hp2⟩ := Hpn.out
              have hq : (pn == pn) = true := by simp
              go_wp2
              go_ret
              exact ⟨rfl, HB8.out⟩
          | true =>
            have HW := Lib.hid (HWhole.out (fun i hi => by rw [← HDu.out i]; exact wholeTo_all hwt i (by omega)))
            clear hwt HWhole
            go_wp2
            go_loopw [14] (fun iv w' => SrRel wr iv w') (fun iv _ => 6 - (intOf iv).toNat)
            case atStart => exact ⟨0, Nat.zero_le _, rfl, Below.refl _ _⟩
            case round =>
              obtain ⟨i, hi, rfl, hb⟩ := hrel
              by_cases hlt : i < 6
              · obtain ⟨c0, c1⟩ := HC8.out _ hb i hlt
                have hw := HW.out i
                have hdb := HDb.out i
                have hdu := HDu.out i
                have HB := Lib.hid hb
                have hi' : (i : Int) < 6 := by omega
                have hi0 : (0 : Int) ≤ (i : Int) := Int.natCast_nonneg _
                rw [← hdu] at hw
                generalize ss.getD i 0 = s at *
                generalize ds.getD i 0 = d at *
                have hw1 : wrap64 (s * n) = d := by rw [hw]; exact wrap64_ok (by omega) (by omega)
                have hw2 : IntKind.i64.wrap (s * n) = d := by rw [hw]; exact IntWalk.i64_in _ (by omega)
                have hq : (d != d) = false := by simp
                clear hb hi hw hdb hdu
                go_wp2
                go_region
                all_goals
                  go_wp2
                  go_roundw
                  case rel => exact ⟨i + 1, hlt, by go_num, HB.out.drew⟩
                  case measure => simp [intOf]; omega
              · obtain rfl : i = 6 := by omega
                have HI9 := Lib.hid (HI8.out.below hb)
                have HB9 := Lib.hid (HB8.out.trans (hb.mono HB8.out.size))
                clear hb hlt hi HC8 HB8 HI8
                go_wp2_with fail
                refine (sumOf_any _ ds _ HI9.out hs100 HDM.out).mono ?_; rintro e _ ⟨rfl, rfl⟩
                rw [Hsum.out]
                obtain ⟨hp1, hp2⟩ := Hpn.out
                have hq : (pn == pn) = true := by simp
                go_wp2
                go_ret
                exact ⟨rfl, HB9.out⟩
  · have hl' : (1048576 : Int) < (l.length : Int) := by omega
    go_enter Try.func12, Try.ntmps12
    go_wp2
    go_ret
    exact ⟨rfl, Below.refl _ _⟩

set_option maxRecDepth 100000 in
theorem lifted (os : Os) (started : os.Started) (H : Type) (enc : TypeId × Value → H) :
    ReturnsInHanded {} Try.checked os 12 .any (Rows.fnShareDueSpec.pre6 enc Try.prog Try.f12 Rows.fnShareDueRow.domain false) (Rows.fnShareDueSpec.post enc Try.prog Try.f12 false true false false) := by
  refine returnsInHanded_of_change (C := Try.checked) own started (by kernel_rfl) Try.func12
    (ChangeSpec.witness6 (enc := enc) (C := Try.checked) false ⟨#[], #[.slice none 0 0], []⟩ 8 (by kernel_rfl) (by kernel_rfl) (by kernel_rfl) (by kernel_rfl)) ?_
  intro W base args ds gs before hval0 hW hcnd _
  have hval : ∀ (j : Nat) t v, Try.f12.params[j]? = some t → args[j]? = some v → Value.okWide Try.prog W .any base t v := hval0
  have hW' := hW
  obtain ⟨p, q, hA0, hV, rfl, hfz, hnd⟩ := hW
  have hA : DataW.TrodAll enc Try.prog W 0 (fun _ => true) true Try.f12.params.toList args.toList ds p := hA0
  rw [Try.params12] at hA hval
  obtain ⟨v0, vs0, d0, ds0, p0, q0, hargs, rfl, rfl, h0, r0⟩ := trodAll_cons hA
  obtain ⟨rfl, rfl, rfl⟩ := trodAll_nil r0
  obtain rfl : args = #[v0] := by cases args; simp_all
  obtain ⟨rfl, rfl⟩ := trodVars_none hV
  obtain ⟨a0, len0, cap0, rfl⟩ := okWide_slice Try.underlying22 (hval 0 22 v0 rfl rfl)
  have k0 := h0
  have lt0 : ∀ x ∈ p0, x.block < W.heap.size := by obtain ⟨m, hm⟩ := k0; exact DataW.trod_lt m _ _ _ hm
  obtain ⟨z0, hv0, hm0⟩ := open_byteS h0 rfl
  clear hA0 hval0
  refine (walk _ z0 W hv0 hm0).mono fun e W' ⟨he, bel⟩ => ?_
  subst he
  exact ⟨_, rfl, _, _, _, [], _, [], hW', trodAll_mk1 (shut_bool Try.underlying4 _), (trodAll_cons_mk (Below.trod laidOut (by kernel_rfl) (of_decide_eq_true (by kernel_rfl)) k0 bel lt0) trodAll_mk0), rfl, bel.frame _, fun h => by cases h⟩

theorem over : Rows.fnShareDueRow.holds Try.pinned (OpenSpec.ofChange Rows.fnShareDueSpec) :=
  OpenClaim.holds_of_wide 12 Try.f12 rfl rfl rfl rfl rfl rfl rfl ⟨rfl, rfl, rfl, rfl, rfl⟩ rfl rfl rfl rfl rfl (by kernel_rfl) Try.func12 (by kernel_rfl)
    (of_decide_eq_true (by kernel_rfl)) (by unfold Func.isWrapper; first | (rw [if_pos (by decide +kernel)]; kernel_rfl) | (rw [if_neg (by decide +kernel)]; exact ⟨rfl, rfl⟩))
    (fun os started H enc _ => lifted os started H enc)

theorem proved : Rows.FnShareDueSaid := over
#print axioms proved
end Go.Proofs.Ythdkjjfnockldaa.lawFnShareDue
