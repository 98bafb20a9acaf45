/- The law FnPartsJoin holds at every input. No condition. -/
import Derived.Test.YthdkjjfnockldaaDPJ
import Derived.Test.YthdkjjfnockldaaJF
import Derived.Test.YthdkjjfnockldaaLH
import Derived.Test.YthdkjjfnockldaaSI
import Derived.Test.YthdkjjfnockldaaSPT
import Derived.Test.YthdkjjfnockldaaQN
import Derived.Test.YthdkjjfnockldaaQ5
import Derived.Test.YthdkjjfnockldaaQK
import Derived.Test.YthdkjjfnockldaaQL
import Derived.Test.YthdkjjfnockldaaQO
namespace Go.Proofs.Ythdkjjfnockldaa.lawFnPartsJoin
open Go.ChangeShapes Go.WideShapes Go.ChangeAt Go.RowKit
set_option linter.unusedVariables false

def SrRel (w : World) (iv : Value) (wr : World) : Prop := ∃ i : Nat, i ≤ 6 ∧ iv = .int .i64 i ∧ Below w.heap.size w wr

set_option maxRecDepth 100000 in
set_option maxHeartbeats 2000000 in
theorem walk (v : Value) (l : List Int) (v' : Value) (l' : List Int) (w : World) (hv : BytesIn w v l) (hm : l.length ≤ maxLen) (hv' : BytesIn w v' l') (hm' : l'.length ≤ maxLen) :
    Calls Try.prog 9 #[v, v'] w fun e w' => e = .returned (.bool true) ∧ Below w.heap.size w w' := by
  have Hv := Lib.hid hv
  obtain ⟨av, cv, rfl, hcv, _, _⟩ := hv
  obtain ⟨av', cv', rfl, hcv', _, _⟩ := hv'
  clear hcv hcv'
  by_cases hl : l.length ≤ 1048576
  · have hl' : ¬ (1048576 : Int) < (l.length : Int) := by omega
    by_cases hk : l'.length ≤ 1048576
    · have hk' : ¬ (1048576 : Int) < (l'.length : Int) := by omega
      go_enter Try.func9, Try.ntmps9
      go_wp2_with fail
      refine (drawPartsJoin_any _ l _ Hv.out hl).mono ?_; rintro e w1 ⟨ad, ad', cap, cap', xs, zs, rfl, hp, hp', hx8, hz8, hb⟩
      have Hx1 := Lib.hid hp
      have Hz1 := Lib.hid hp'
      have HB1 := Lib.hid hb
      have hx : xs.length ≤ 1048576 := by omega
      have hz : zs.length ≤ 1048576 := by omega
      clear hb hp hp'
      have H2 := Lib.hid (fun w' (h : PtIn w' (.slice (some ad) xs.length cap) xs) (h' : PtIn w' (.slice (some ad') zs.length cap') zs) => join2_any _ _ xs zs w' h h' hx hz)
      have H1 := Lib.hid (fun w' (h : PtIn w' (.slice (some ad) xs.length cap) xs) (h' : PtIn w' (.slice (some ad') zs.length cap') zs) => join1_any ad ad' cap cap' xs zs w' h h' hx hz)
      obtain ⟨pv, hpv⟩ : ∃ pv, Value.slice (some ad) xs.length cap = pv := ⟨_, rfl⟩
      obtain ⟨qv, hqv⟩ : ∃ qv, Value.slice (some ad') zs.length cap' = qv := ⟨_, rfl⟩
      rw [hpv, hqv] at H2 H1
      rw [hpv] at Hx1
      rw [hqv] at Hz1
      rw [hpv, hqv]
      clear hpv hqv
      cases hok : joinOk xs zs with
      | false =>
        have hno : joinX xs zs = [] := by unfold joinX; rw [if_no hok]
        rw [hno, hok] at H2 H1
        clear hok hno
        go_wp2_with fail
        refine (H2.out _ Hx1.out Hz1.out).mono ?_; intro e w2 h2
        obtain ⟨v2, rfl, hi2, hb2⟩ := outPt_in h2
        have Hx2 := Lib.hid (Hx1.out.below hb2)
        have Hz2 := Lib.hid (Hz1.out.below hb2)
        have HB2 := Lib.hid (HB1.out.trans (hb2.mono HB1.out.size))
        have HI2 := Lib.hid hi2
        clear hb2 hi2 h2
        go_wp2_with fail
        refine (H1.out _ Hx2.out Hz2.out).mono ?_; intro e w3 h3
        obtain ⟨v3, rfl, hi3, hb3⟩ := outPt_in h3
        have HB3 := Lib.hid (HB2.out.trans (hb3.mono HB2.out.size))
        have HI3 := Lib.hid (HI2.out.below hb3)
        have HJ3 := Lib.hid hi3
        clear hb3 hi3 h3
        go_wp2_with fail
        refine (sameParts_eq _ _ [] _ HI3.out HJ3.out (by simp)).mono ?_; rintro e w4 ⟨rfl, hb4⟩
        have HB4 := Lib.hid (HB3.out.trans (hb4.mono HB3.out.size))
        have HI4 := Lib.hid (HI3.out.below hb4)
        have HJ4 := Lib.hid (HJ3.out.below hb4)
        clear hb4
        go_wp2_with fail
        refine (sameParts_eq _ _ [] _ HI4.out HJ4.out (by simp)).mono ?_; rintro e w5 ⟨rfl, hb5⟩
        have HB5 := Lib.hid (HB4.out.trans (hb5.mono HB4.out.size))
        clear hb5
        go_wp2
        go_ret
        exact ⟨rfl, HB5.out⟩
      | true =>
        obtain ⟨f0, F⟩ := join_facts hok
        have hyl : (xs ++ zs).length ≤ 1048576 := by rw [List.length_append]; omega
        rw [f0, hok] at H2 H1
        generalize xs ++ zs = ys at *
        have HMx := Lib.hid (fun w' (h : PtIn w' pv xs) => milesP2_any pv xs w' h hx)
        have HMz := Lib.hid (fun w' (h : PtIn w' qv zs) => milesP2_any qv zs w' h hz)
        have HMy := Lib.hid (fun u w' (h : PtIn w' u ys) => milesP2_any u ys w' h hyl)
        have HLx := Lib.hid (fun w' (h : PtIn w' pv xs) => len2_any pv xs w' h hx)
        have HLz := Lib.hid (fun w' (h : PtIn w' qv zs) => len2_any qv zs w' h hz)
        have HLy := Lib.hid (fun u w' (h : PtIn w' u ys) => len2_any u ys w' h hyl)
        obtain ⟨a, ha⟩ : ∃ a : Int, (l'.length : Int) % lenX zs = a := ⟨_, rfl⟩
        obtain ⟨la0, la1⟩ := F.la
        obtain ⟨lb0, lb1⟩ := F.lb
        have ha0 : 0 ≤ a := by rw [← ha]; exact Int.emod_nonneg _ (by omega)
        have ha1 : a < lenX zs := by rw [← ha]; exact Int.emod_lt_of_pos _ (by omega)
        obtain ⟨o1, o2, o3⟩ := F.owner a ha0 ha1
        have HOz := Lib.hid (fun w' (h : PtIn w' qv zs) => owner2_any qv zs a w' h hz)
        have HOy := Lib.hid (fun u w' (h : PtIn w' u ys) => owner2_any u ys (lenX xs + a) w' h hyl)
        rw [F.va] at HMx
        rw [F.vb] at HMz
        rw [F.vc] at HMy
        rw [F.len] at HLy
        rw [o1] at HOz
        rw [o2, o3] at HOy
        have Hms := Lib.hid F.miles
        have Hbd := Lib.hid F.bd
        have hma := F.ma
        have hmb := F.mb
        have hmc := F.mc
        have Hha := Lib.hid ha
        clear hok F ha o1 o2 o3 f0 hx8 hz8
        generalize milesX xs = mx at *
        generalize milesX zs = mz at *
        generalize milesX ys = my at *
        generalize mileX zs a = ow at *
        generalize lenX xs = na at *
        generalize lenX zs = nb at *
        have hqo : (ow == ow) = true := by simp
        obtain ⟨t, ht⟩ : ∃ t, na + a = t := ⟨_, rfl⟩
        obtain ⟨r, hr⟩ : ∃ r, na + nb = r := ⟨_, rfl⟩
        rw [ht] at HOy
        rw [hr] at HLy
        have hw1 : wrap64 (na + a) = t := by rw [ht]; exact wrap64_ok (by omega) (by omega)
        have hw2 : wrap64 (na + nb) = r := by rw [hr]; exact wrap64_ok (by omega) (by omega)
        have hqr : (r == r) = true := by simp
        have hnb : nb ≠ 0 := by omega
        have Hr := Lib.hid (show (r == na + nb) = true by rw [hr]; simp)
        clear ht hr ha0 ha1
        go_wp2_with fail
        refine (H2.out _ Hx1.out Hz1.out).mono ?_; intro e w2 h2
        obtain ⟨v2, rfl, hi2, hb2⟩ := outPt_in h2
        have Hx2 := Lib.hid (Hx1.out.below hb2)
        have Hz2 := Lib.hid (Hz1.out.below hb2)
        have HB2 := Lib.hid (HB1.out.trans (hb2.mono HB1.out.size))
        have HI2 := Lib.hid hi2
        clear hb2 hi2 h2
        go_wp2_with fail
        refine (H1.out _ Hx2.out Hz2.out).mono ?_; intro e w3 h3
        obtain ⟨v3, rfl, hi3, hb3⟩ := outPt_in h3
        have Hx3 := Lib.hid (Hx2.out.below hb3)
        have Hz3 := Lib.hid (Hz2.out.below hb3)
        have HB3 := Lib.hid (HB2.out.trans (hb3.mono HB2.out.size))
        have HI3 := Lib.hid (HI2.out.below hb3)
        have HJ3 := Lib.hid hi3
        clear hb3 hi3 h3 H1 H2 Hx1 Hx2 Hz1 Hz2 HI2 HB1 HB2
        go_wp2_with fail
        refine (sameParts_eq _ _ ys _ HI3.out HJ3.out hyl).mono ?_; rintro e w4 ⟨rfl, hb4⟩
        have Hx4 := Lib.hid (Hx3.out.below hb4)
        have Hz4 := Lib.hid (Hz3.out.below hb4)
        have HB4 := Lib.hid (HB3.out.trans (hb4.mono HB3.out.size))
        have HI4 := Lib.hid (HI3.out.below hb4)
        clear hb4 Hx3 Hz3 HB3 HI3 HJ3
        go_wp2_with fail
        refine (HMx.out _ Hx4.out).mono ?_; intro e w5 h5
        obtain ⟨v5, rfl, hi5, hb5⟩ := okIn h5
        have HB5 := Lib.hid (HB4.out.trans (hb5.mono HB4.out.size))
        have Hx5 := Lib.hid (Hx4.out.below hb5)
        have Hz5 := Lib.hid (Hz4.out.below hb5)
        have HI5 := Lib.hid (HI4.out.below hb5)
        have HP5 := Lib.hid hi5
        clear hb5 hi5 h5 HMx Hx4 Hz4 HI4 HB4
        go_wp2_with fail
        refine (HMz.out _ Hz5.out).mono ?_; intro e w6 h6
        obtain ⟨v6, rfl, hi6, hb6⟩ := okIn h6
        have HB6 := Lib.hid (HB5.out.trans (hb6.mono HB5.out.size))
        have Hx6 := Lib.hid (Hx5.out.below hb6)
        have Hz6 := Lib.hid (Hz5.out.below hb6)
        have HI6 := Lib.hid (HI5.out.below hb6)
        have HP6 := Lib.hid (HP5.out.below hb6)
        have HQ6 := Lib.hid hi6
        clear hb6 hi6 h6 HMz Hx5 Hz5 HI5 HP5 HB5
        go_wp2_with fail
        refine (HMy.out _ _ HI6.out).mono ?_; intro e w7 h7
        obtain ⟨v7, rfl, hi7, hb7⟩ := okIn h7
        have HB7 := Lib.hid (HB6.out.trans (hb7.mono HB6.out.size))
        have Hx7 := Lib.hid (Hx6.out.below hb7)
        have Hz7 := Lib.hid (Hz6.out.below hb7)
        have HI7 := Lib.hid (HI6.out.below hb7)
        have HP7 := Lib.hid (HP6.out.below hb7)
        have HQ7 := Lib.hid (HQ6.out.below hb7)
        have HR7 := Lib.hid hi7
        clear hb7 hi7 h7 HMy Hx6 Hz6 HI6 HP6 HQ6 HB6
        go_wp2_with fail
        refine (HLx.out _ Hx7.out).mono ?_; rintro e w8 ⟨rfl, hb8⟩
        have HB8 := Lib.hid (HB7.out.trans (hb8.mono HB7.out.size))
        have Hz8 := Lib.hid (Hz7.out.below hb8)
        have HI8 := Lib.hid (HI7.out.below hb8)
        have HP8 := Lib.hid (HP7.out.below hb8)
        have HQ8 := Lib.hid (HQ7.out.below hb8)
        have HR8 := Lib.hid (HR7.out.below hb8)
        clear hb8 HLx Hx7 Hz7 HI7 HP7 HQ7 HR7 HB7
        go_wp2_with fail
        refine (HLz.out _ Hz8.out).mono ?_; rintro e w9 ⟨rfl, hb9⟩
        have HB9 := Lib.hid (HB8.out.trans (hb9.mono HB8.out.size))
        have Hz9 := Lib.hid (Hz8.out.below hb9)
        have HI9 := Lib.hid (HI8.out.below hb9)
        have HP9 := Lib.hid (HP8.out.below hb9)
        have HQ9 := Lib.hid (HQ8.out.below hb9)
        have HR9 := Lib.hid (HR8.out.below hb9)
        clear hb9 Hz8 HI8 HP8 HQ8 HR8 HB8
        go_wp2_with fail
        rw [Hha.out]
        refine (HOz.out _ Hz9.out).mono ?_; rintro e wa ⟨rfl, hba⟩
        have HBa := Lib.hid (HB9.out.trans (hba.mono HB9.out.size))
        have Hza := Lib.hid (Hz9.out.below hba)
        have HIa := Lib.hid (HI9.out.below hba)
        have HPa := Lib.hid (HP9.out.below hba)
        have HQa := Lib.hid (HQ9.out.below hba)
        have HRa := Lib.hid (HR9.out.below hba)
        clear hba HOz Hz9 HI9 HP9 HQ9 HR9 HB9
        go_wp2_with fail
        refine (HOy.out _ _ HIa.out).mono ?_; rintro e wb ⟨rfl, hbb⟩
        have HBb := Lib.hid (HBa.out.trans (hbb.mono HBa.out.size))
        have Hzb := Lib.hid (Hza.out.below hbb)
        have HIb := Lib.hid (HIa.out.below hbb)
        have hPb := HPa.out.below hbb
        have hQb := HQa.out.below hbb
        have hRb := HRa.out.below hbb
        obtain ⟨b1, o1, c1, rfl, hb1, hr1⟩ := six hPb hma
        obtain ⟨b2, o2, c2, rfl, hb2, hr2⟩ := six hQb hmb
        obtain ⟨b3, o3, c3, rfl, hb3, hr3⟩ := six hRb hmc
        have HC := Lib.hid (fun (w' : World) (h : Below wb.heap.size wb w') (i : Nat) (hi : i < 6) => (show w'.cell? ⟨b1, o1 + i, none⟩ = some (.int .i64 (mx.getD i 0)) ∧ w'.cell? ⟨b2, o2 + i, none⟩ = some (.int .i64 (mz.getD i 0)) ∧ w'.cell? ⟨b3, o3 + i, none⟩ = some (.int .i64 (my.getD i 0)) from ⟨(hr1.below h hb1) i (by omega), (hr2.below h hb2) i (by omega), (hr3.below h hb3) i (by omega)⟩))
        clear hbb HOy Hza HIa HPa HQa HRa HBa hPb hQb hRb hb1 hr1 hb2 hr2 hb3 hr3
        go_wp2
        go_loopw [23] (fun iv wr => SrRel wb iv wr) (fun iv _ => 6 - (intOf iv).toNat)
        case atStart => exact ⟨0, Nat.zero_le _, rfl, Below.refl _ _⟩
        case round =>
          obtain ⟨i, hi, rfl, hb⟩ := hrel
          by_cases hlt : i < 6
          · obtain ⟨d1, d2, d3⟩ := HC.out _ hb i hlt
            have em := Hms.out i
            have eb := Hbd.out i
            have HB := Lib.hid hb
            have hi' : (i : Int) < 6 := by omega
            have hi0 : (0 : Int) ≤ (i : Int) := Int.natCast_nonneg _
            generalize mx.getD i 0 = x at *
            generalize mz.getD i 0 = y at *
            generalize my.getD i 0 = z at *
            have hw3 : wrap64 (x + y) = z := by rw [wrap64_ok (by omega) (by omega)]; exact em
            have hw4 : IntKind.i64.wrap (x + y) = z := by rw [IntWalk.i64_in _ (by omega)]; exact em
            have hq : (z != z) = false := by simp
            clear hb hi em eb
            go_wp2
            go_region
            all_goals
              go_wp2
              go_roundw
              case rel => exact ⟨i + 1, hlt, by go_num, HB.out.drew⟩
              case measure => simp [intOf]; omega
          · obtain rfl : i = 6 := by omega
            have Hzc := Lib.hid (Hzb.out.below hb)
            have HIc := Lib.hid (HIb.out.below hb)
            have HBc := Lib.hid (HBb.out.trans (hb.mono HBb.out.size))
            clear hb hlt hi HC Hzb HIb HBb
            go_wp2_with fail
            refine (HLy.out _ _ HIc.out).mono ?_; rintro e wd ⟨rfl, hbd⟩
            have Hzd := Lib.hid (Hzc.out.below hbd)
            have HBd := Lib.hid (HBc.out.trans (hbd.mono HBc.out.size))
            clear hbd HLy Hzc HIc HBc
            go_wp2_with fail
            refine (HLz.out _ Hzd.out).mono ?_; rintro e we ⟨rfl, hbe⟩
            have HBe := Lib.hid (HBd.out.trans (hbe.mono HBd.out.size))
            clear hbe HLz Hzd HBd
            go_wp2
            go_ret
            exact ⟨ret_bool (by first | rfl | exact Hr.out | (simp; done)), HBe.out⟩
    · have hk' : (1048576 : Int) < (l'.length : Int) := by omega
      go_enter Try.func9, Try.ntmps9
      go_wp2
      go_ret
      exact ⟨rfl, Below.refl _ _⟩
  · have hl' : (1048576 : Int) < (l.length : Int) := by omega
    go_enter Try.func9, Try.ntmps9
    go_wp2
    go_ret
    exact ⟨rfl, Below.refl _ _⟩

set_option maxRecDepth 100000 in
theorem lifted (os : Os) (started : os.Started) (H : Type) (enc : TypeId × Value → H) :
    ReturnsInHanded {} Try.checked os 9 .any (Rows.fnPartsJoinSpec.pre6 enc Try.prog Try.f9 Rows.fnPartsJoinRow.domain false) (Rows.fnPartsJoinSpec.post enc Try.prog Try.f9 false true false false) := by
  refine returnsInHanded_of_change (C := Try.checked) own started (by kernel_rfl) Try.func9
    (ChangeSpec.witness6 (enc := enc) (C := Try.checked) false ⟨#[], #[.slice none 0 0, .slice none 0 0], []⟩ 8 (by kernel_rfl) (by kernel_rfl) (by kernel_rfl) (by kernel_rfl)) ?_
  intro W base args ds gs before hval0 hW hcnd _
  have hval : ∀ (j : Nat) t v, Try.f9.params[j]? = some t → args[j]? = some v → Value.okWide Try.prog W .any base t v := hval0
  have hW' := hW
  obtain ⟨p, q, hA0, hV, rfl, hfz, hnd⟩ := hW
  have hA : DataW.TrodAll enc Try.prog W 0 (fun _ => true) true Try.f9.params.toList args.toList ds p := hA0
  rw [Try.params9] at hA hval
  obtain ⟨v0, vs0, d0, ds0, p0, q0, hargs, rfl, rfl, h0, r0⟩ := trodAll_cons hA
  obtain ⟨v1, vs1, d1, ds1, p1, q1, rfl, rfl, rfl, h1, r1⟩ := trodAll_cons r0
  obtain ⟨rfl, rfl, rfl⟩ := trodAll_nil r1
  obtain rfl : args = #[v0, v1] := by cases args; simp_all
  obtain ⟨rfl, rfl⟩ := trodVars_none hV
  obtain ⟨a0, len0, cap0, rfl⟩ := okWide_slice Try.underlying22 (hval 0 22 v0 rfl rfl)
  have k0 := h0
  have lt0 : ∀ x ∈ p0, x.block < W.heap.size := by obtain ⟨m, hm⟩ := k0; exact DataW.trod_lt m _ _ _ hm
  obtain ⟨z0, hv0, hm0⟩ := open_byteS h0 rfl
  obtain ⟨a1, len1, cap1, rfl⟩ := okWide_slice Try.underlying22 (hval 1 22 v1 rfl rfl)
  have k1 := h1
  have lt1 : ∀ x ∈ p1, x.block < W.heap.size := by obtain ⟨m, hm⟩ := k1; exact DataW.trod_lt m _ _ _ hm
  obtain ⟨z1, hv1, hm1⟩ := open_byteS h1 rfl
  clear hA0 hval0
  refine (walk _ z0 _ z1 W hv0 hm0 hv1 hm1).mono fun e W' ⟨he, bel⟩ => ?_
  subst he
  exact ⟨_, rfl, _, _, _, [], _, [], hW', trodAll_mk1 (shut_bool Try.underlying4 _), (trodAll_cons_mk (Below.trod laidOut (by kernel_rfl) (of_decide_eq_true (by kernel_rfl)) k0 bel lt0) (trodAll_cons_mk (Below.trod laidOut (by kernel_rfl) (of_decide_eq_true (by kernel_rfl)) k1 bel lt1) trodAll_mk0)), rfl, bel.frame _, fun h => by cases h⟩

theorem over : Rows.fnPartsJoinRow.holds Try.pinned (OpenSpec.ofChange Rows.fnPartsJoinSpec) :=
  OpenClaim.holds_of_wide 9 Try.f9 rfl rfl rfl rfl rfl rfl rfl ⟨rfl, rfl, rfl, rfl, rfl⟩ rfl rfl rfl rfl rfl (by kernel_rfl) Try.func9 (by kernel_rfl)
    (of_decide_eq_true (by kernel_rfl)) (by unfold Func.isWrapper; first | (rw [if_pos (by decide +kernel)]; kernel_rfl) | (rw [if_neg (by decide +kernel)]; exact ⟨rfl, rfl⟩))
    (fun os started H enc _ => lifted os started H enc)

theorem proved : Rows.FnPartsJoinSaid := over
#print axioms proved
end Go.Proofs.Ythdkjjfnockldaa.lawFnPartsJoin
