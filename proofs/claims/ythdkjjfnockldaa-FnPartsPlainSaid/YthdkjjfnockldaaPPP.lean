/- The law FnPartsPlain holds at every input. No condition. -/
import Derived.Test.YthdkjjfnockldaaDPN
import Derived.Test.YthdkjjfnockldaaPNF
import Derived.Test.YthdkjjfnockldaaLH
import Derived.Test.YthdkjjfnockldaaSI
import Derived.Test.YthdkjjfnockldaaSPT
import Derived.Test.YthdkjjfnockldaaQM
import Derived.Test.YthdkjjfnockldaaQ4
import Derived.Test.YthdkjjfnockldaaQK
import Derived.Test.YthdkjjfnockldaaQL
import Derived.Test.YthdkjjfnockldaaQO
namespace Go.Proofs.Ythdkjjfnockldaa.lawFnPartsPlain
open Go.ChangeShapes Go.WideShapes Go.ChangeAt Go.RowKit
set_option linter.unusedVariables false

theorem rowPt_in {w : World} {v : Value} {t : List Pt} (h : PtIn w v t) (h6 : 0 < t.length) : ∃ b o cap, v = .slice (some ⟨b, o, none⟩) t.length cap ∧ b < w.heap.size ∧ PtAt w b o t := by
  obtain ⟨a, cap, rfl, _, ha⟩ := h
  obtain ⟨b, o, rfl, hb, hr⟩ := ha (by rintro rfl; simp at h6)
  exact ⟨b, o, cap, rfl, hb, hr⟩
def PpRel (n : Nat) (w : World) (iv : Value) (wr : World) : Prop := ∃ j i : Nat, i = j + 1 ∧ i ≤ n ∧ iv = .int .i64 i ∧ Below w.heap.size w wr

set_option maxRecDepth 100000 in
set_option maxHeartbeats 2000000 in
theorem walk (v : Value) (l : List Int) (v' : Value) (l' : List Int) (w : World) (hv : BytesIn w v l) (hm : l.length ≤ maxLen) (hv' : BytesIn w v' l') (hm' : l'.length ≤ maxLen) :
    Calls Try.prog 6 #[v, v'] w fun e w' => e = .returned (.bool true) ∧ Below w.heap.size w w' := by
  have Hv := Lib.hid hv
  obtain ⟨av, cv, rfl, hcv, _, _⟩ := hv
  obtain ⟨av', cv', rfl, hcv', _, _⟩ := hv'
  clear hcv hcv'
  by_cases hl : l.length ≤ 1048576
  · have hl' : ¬ (1048576 : Int) < (l.length : Int) := by omega
    by_cases hk : l'.length ≤ 1048576
    · have hk' : ¬ (1048576 : Int) < (l'.length : Int) := by omega
      go_enter Try.func6, Try.ntmps6
      go_wp2_with fail
      refine (drawPartsPlain_any _ l _ Hv.out hl).mono ?_; rintro e w1 ⟨pv, xs, rfl, hp, hx8, hb⟩
      have Hx1 := Lib.hid hp
      have HB1 := Lib.hid hb
      have hx : xs.length ≤ 1048576 := by omega
      clear hb hp
      have H2 := Lib.hid (fun w' (h : PtIn w' pv xs) => plain2_any pv xs  w' h hx)
      have H1 := Lib.hid (fun w' (h : PtIn w' pv xs) => plain1_any pv xs  w' h hx)
      cases hok : plainOk xs  with
      | false =>
        have hno : plainX xs  = [] := by unfold plainX; rw [if_no hok]
        rw [hno, hok] at H2 H1
        clear hok hno
        go_wp2_with fail
        refine (H2.out _ Hx1.out).mono ?_; intro e w2 h2
        obtain ⟨v2, rfl, hi2, hb2⟩ := outPt_in h2
        have Hx2 := Lib.hid (Hx1.out.below hb2)
        have HB2 := Lib.hid (HB1.out.trans (hb2.mono HB1.out.size))
        have HI2 := Lib.hid hi2
        clear hb2 hi2 h2
        go_wp2_with fail
        refine (H1.out _ Hx2.out).mono ?_; intro e w3 h3
        obtain ⟨v3, rfl, hi3, hb3⟩ := outPt_in h3
        have HB3 := Lib.hid (HB2.out.trans (hb3.mono HB2.out.size))
        have HI3 := Lib.hid (HI2.out.below hb3)
        have HJ3 := Lib.hid hi3
        clear hb3 hi3 h3
        go_wp2_with fail
        refine (sameParts_eq _ _ [] _ HI3.out HJ3.out (by simp)).mono ?_; rintro e w4 ⟨rfl, hb4⟩
        have HB4 := Lib.hid (HB3.out.trans (hb4.mono HB3.out.size))
        have HI4 := Lib.hid (HI3.out.below hb4)
        have HJ4 := Lib.hid (HJ3.out.below hb4)
        clear hb4
        go_wp2_with fail
        refine (sameParts_eq _ _ [] _ HI4.out HJ4.out (by simp)).mono ?_; rintro e w5 ⟨rfl, hb5⟩
        have HB5 := Lib.hid (HB4.out.trans (hb5.mono HB4.out.size))
        clear hb5
        go_wp2
        go_ret
        exact ⟨rfl, HB5.out⟩
      | true =>
        obtain ⟨f1, f2, f3, f4, f5, f6, f7, f8⟩ := plain_facts hok
        have hyl := plainX_short xs
        have hy1 : 1 ≤ (plainX xs).length := by rw [f1]; exact (validP_iff.1 f3).1
        have HN := Lib.hid (show ∀ i, i + 1 < (plainX xs).length → ((plainX xs).getD (i + 1) pt0).a ≠ ((plainX xs).getD i pt0).a by rw [f1]; exact plainL_nb (ownP xs))
        have hvy : validP (plainX xs) = true := by rw [f1]; exact f3
        have hlp := len_parts f2
        have hx1 := (validP_iff.1 f2).1
        have HP := Lib.hid (fun u w' (h : PtIn w' u (plainX xs)) => plain2_any u _ w' h hyl)
        have HMx := Lib.hid (fun w' (h : PtIn w' pv xs) => milesP2_any pv xs w' h hx)
        have HMy := Lib.hid (fun u w' (h : PtIn w' u (plainX xs)) => milesP2_any u _ w' h hyl)
        have HL := Lib.hid (fun w' (h : PtIn w' pv xs) => len2_any pv xs w' h hx)
        have hn0 : 0 < lenX xs := by omega
        obtain ⟨a, ha⟩ : ∃ a : Int, (l'.length : Int) % lenX xs = a := ⟨_, rfl⟩
        have ha0 : 0 ≤ a := by rw [← ha]; exact Int.emod_nonneg _ (by omega)
        have ha1 : a < lenX xs := by rw [← ha]; exact Int.emod_lt_of_pos _ hn0
        have hmo : mileOk xs a = true := mileOk_iff.2 ⟨f2, ha0, by rw [← lenX_yes f2]; exact ha1⟩
        have HOx := Lib.hid (fun w' (h : PtIn w' pv xs) => owner2_any pv xs a w' h hx)
        have HOy := Lib.hid (fun u w' (h : PtIn w' u (plainX xs)) => owner2_any u _ a w' h hyl)
        rw [f6, f7] at HP
        rw [f5, hvy] at HMy
        rw [f2] at HMx
        rw [hmo] at HOx
        rw [(f8 a).1, (f8 a).2, hmo] at HOy
        rw [hok] at H2 H1
        have hMs := milesX_short xs
        have Hha := Lib.hid ha
        clear hok f1 f2 f3 f4 f5 f6 f7 f8 hvy hmo ha ha0 ha1 hlp hx8
        generalize plainX xs = ys at *
        generalize milesX xs = ms at *
        generalize mileX xs a = ow at *
        generalize lenX xs = n at *
        have hqo : (ow == ow) = true := by simp
        go_wp2_with fail
        refine (H2.out _ Hx1.out).mono ?_; intro e w2 h2
        obtain ⟨v2, rfl, hi2, hb2⟩ := outPt_in h2
        have Hx2 := Lib.hid (Hx1.out.below hb2)
        have HB2 := Lib.hid (HB1.out.trans (hb2.mono HB1.out.size))
        have HI2 := Lib.hid hi2
        clear hb2 hi2 h2
        go_wp2_with fail
        refine (H1.out _ Hx2.out).mono ?_; intro e w3 h3
        obtain ⟨v3, rfl, hi3, hb3⟩ := outPt_in h3
        have Hx3 := Lib.hid (Hx2.out.below hb3)
        have HB3 := Lib.hid (HB2.out.trans (hb3.mono HB2.out.size))
        have HI3 := Lib.hid (HI2.out.below hb3)
        have HJ3 := Lib.hid hi3
        clear hb3 hi3 h3 H1 H2 Hx1 Hx2 HI2 HB1 HB2
        go_wp2_with fail
        refine (sameParts_eq _ _ ys _ HI3.out HJ3.out hyl).mono ?_; rintro e w4 ⟨rfl, hb4⟩
        have Hx4 := Lib.hid (Hx3.out.below hb4)
        have HB4 := Lib.hid (HB3.out.trans (hb4.mono HB3.out.size))
        have HI4 := Lib.hid (HI3.out.below hb4)
        clear hb4 Hx3 HB3 HI3 HJ3
        go_wp2_with fail
        refine (HP.out _ _ HI4.out).mono ?_; intro e w5 h5
        obtain ⟨v5, rfl, hi5, hb5⟩ := outPt_in h5
        have HB5 := Lib.hid (HB4.out.trans (hb5.mono HB4.out.size))
        have Hx5 := Lib.hid (Hx4.out.below hb5)
        have HI5 := Lib.hid (HI4.out.below hb5)
        have HX5 := Lib.hid hi5
        clear hb5 hi5 h5 HP Hx4 HI4 HB4
        go_wp2_with fail
        refine (HMx.out _ Hx5.out).mono ?_; intro e w6 h6
        obtain ⟨v6, rfl, hi6, hb6⟩ := okIn h6
        have HB6 := Lib.hid (HB5.out.trans (hb6.mono HB5.out.size))
        have Hx6 := Lib.hid (Hx5.out.below hb6)
        have HI6 := Lib.hid (HI5.out.below hb6)
        have HX6 := Lib.hid (HX5.out.below hb6)
        have HM6 := Lib.hid hi6
        clear hb6 hi6 h6 HMx Hx5 HI5 HX5 HB5
        go_wp2_with fail
        refine (HMy.out _ _ HI6.out).mono ?_; intro e w7 h7
        obtain ⟨v7, rfl, hi7, hb7⟩ := okIn h7
        have HB7 := Lib.hid (HB6.out.trans (hb7.mono HB6.out.size))
        have Hx7 := Lib.hid (Hx6.out.below hb7)
        have hI7 := HI6.out.below hb7
        have HI7 := Lib.hid hI7
        have HX7 := Lib.hid (HX6.out.below hb7)
        have HM7 := Lib.hid (HM6.out.below hb7)
        have HN7 := Lib.hid hi7
        obtain ⟨b2, o2, c2, rfl, hb2, hr2⟩ := rowPt_in hI7 (by omega)
        have HC := Lib.hid (fun (w' : World) (h : Below w7.heap.size w7 w') (i : Nat) (hi : i < ys.length) => (show w'.cell? ⟨b2, o2 + i * 2, none⟩ = some (.int .i64 (ys.getD i pt0).a) from ((hr2.below h hb2) i hi).1))
        clear hb7 hi7 h7 HMy Hx6 HI6 HX6 HM6 HB6 hI7 hb2 hr2
        go_wp2
        go_loopw [16] (fun iv wr => PpRel ys.length w7 iv wr) (fun iv _ => ys.length - (intOf iv).toNat)
        case atStart => exact ⟨0, 1, rfl, hy1, rfl, Below.refl _ _⟩
        case round =>
          obtain ⟨j, i, hij, hi, rfl, hb⟩ := hrel
          by_cases hlt : i < ys.length
          · have c1 := HC.out _ hb i hlt
            have c0 := HC.out _ hb j (by omega)
            have hne := HN.out j (by omega)
            rw [← hij] at hne
            have HB := Lib.hid hb
            have hi' : (i : Int) < (ys.length : Int) := by omega
            have hi0 : (0 : Int) ≤ (i : Int) := Int.natCast_nonneg _
            have hj' : (j : Int) < (ys.length : Int) := by omega
            have hj0 : (0 : Int) ≤ (j : Int) := Int.natCast_nonneg _
            have hw1 : wrap64 ((i : Int) - 1) = (j : Int) := by rw [wrap64_ok (by omega) (by omega)]; omega
            have hw2 : IntKind.i64.wrap ((i : Int) - 1) = (j : Int) := by rw [IntWalk.i64_in _ (by omega)]; omega
            generalize (ys.getD i pt0).a = x at *
            generalize (ys.getD j pt0).a = y at *
            have hq : (x == y) = false := by simpa using hne
            have Hij := Lib.hid hij
            clear hb hi hne hij
            go_wp2
            go_region
            all_goals
              go_wp2
              go_roundw
              case rel => exact ⟨i, i + 1, rfl, hlt, by go_num, HB.out.drew⟩
              case measure => simp [intOf]; omega
          · obtain rfl : i = ys.length := by omega
            have Hx8 := Lib.hid (Hx7.out.below hb)
            have HI8 := Lib.hid (HI7.out.below hb)
            have HX8 := Lib.hid (HX7.out.below hb)
            have HM8 := Lib.hid (HM7.out.below hb)
            have HN8 := Lib.hid (HN7.out.below hb)
            have HB8 := Lib.hid (HB7.out.trans (hb.mono HB7.out.size))
            clear hb hlt hi HC HN Hx7 HI7 HX7 HM7 HN7 HB7 hij
            go_wp2_with fail
            refine (HL.out _ Hx8.out).mono ?_; rintro e w9 ⟨rfl, hb9⟩
            have Hx9 := Lib.hid (Hx8.out.below hb9)
            have HI9 := Lib.hid (HI8.out.below hb9)
            have HX9 := Lib.hid (HX8.out.below hb9)
            have HM9 := Lib.hid (HM8.out.below hb9)
            have HN9 := Lib.hid (HN8.out.below hb9)
            have HB9 := Lib.hid (HB8.out.trans (hb9.mono HB8.out.size))
            clear hb9 HL Hx8 HI8 HX8 HM8 HN8 HB8
            go_wp2_with fail
            rw [Hha.out]
            refine (HOx.out _ Hx9.out).mono ?_; rintro e wa ⟨rfl, hba⟩
            have HIa := Lib.hid (HI9.out.below hba)
            have HXa := Lib.hid (HX9.out.below hba)
            have HMa := Lib.hid (HM9.out.below hba)
            have HNa := Lib.hid (HN9.out.below hba)
            have HBa := Lib.hid (HB9.out.trans (hba.mono HB9.out.size))
            clear hba HOx Hx9 HI9 HX9 HM9 HN9 HB9
            go_wp2_with fail
            refine (HOy.out _ _ HIa.out).mono ?_; rintro e wb ⟨rfl, hbb⟩
            have HIb := Lib.hid (HIa.out.below hbb)
            have HXb := Lib.hid (HXa.out.below hbb)
            have HMb := Lib.hid (HMa.out.below hbb)
            have HNb := Lib.hid (HNa.out.below hbb)
            have HBb := Lib.hid (HBa.out.trans (hbb.mono HBa.out.size))
            clear hbb HOy HIa HXa HMa HNa HBa
            go_wp2_with fail
            refine (sameParts_eq _ _ ys _ HXb.out HIb.out hyl).mono ?_; rintro e wc ⟨rfl, hbc⟩
            have HMc := Lib.hid (HMb.out.below hbc)
            have HNc := Lib.hid (HNb.out.below hbc)
            have HBc := Lib.hid (HBb.out.trans (hbc.mono HBb.out.size))
            clear hbc HIb HXb HMb HNb HBb
            go_wp2_with fail
            refine (sameInts_any _ _ ms ms _ HMc.out HNc.out hMs).mono ?_; rintro e wd ⟨⟨x, rfl, hxd⟩, hbd⟩
            obtain rfl : x = true := hxd.2 rfl
            have HBd := Lib.hid (HBc.out.trans (hbd.mono HBc.out.size))
            clear hbd hxd
            go_wp2
            go_ret
            exact ⟨rfl, HBd.out⟩
    · have hk' : (1048576 : Int) < (l'.length : Int) := by omega
      go_enter Try.func6, Try.ntmps6
      go_wp2
      go_ret
      exact ⟨rfl, Below.refl _ _⟩
  · have hl' : (1048576 : Int) < (l.length : Int) := by omega
    go_enter Try.func6, Try.ntmps6
    go_wp2
    go_ret
    exact ⟨rfl, Below.refl _ _⟩

set_option maxRecDepth 100000 in
theorem lifted (os : Os) (started : os.Started) (H : Type) (enc : TypeId × Value → H) :
    ReturnsInHanded {} Try.checked os 6 .any (Rows.fnPartsPlainSpec.pre6 enc Try.prog Try.f6 Rows.fnPartsPlainRow.domain false) (Rows.fnPartsPlainSpec.post enc Try.prog Try.f6 false true false false) := by
  refine returnsInHanded_of_change (C := Try.checked) own started (by kernel_rfl) Try.func6
    (ChangeSpec.witness6 (enc := enc) (C := Try.checked) false ⟨#[], #[.slice none 0 0, .slice none 0 0], []⟩ 8 (by kernel_rfl) (by kernel_rfl) (by kernel_rfl) (by kernel_rfl)) ?_
  intro W base args ds gs before hval0 hW hcnd _
  have hval : ∀ (j : Nat) t v, Try.f6.params[j]? = some t → args[j]? = some v → Value.okWide Try.prog W .any base t v := hval0
  have hW' := hW
  obtain ⟨p, q, hA0, hV, rfl, hfz, hnd⟩ := hW
  have hA : DataW.TrodAll enc Try.prog W 0 (fun _ => true) true Try.f6.params.toList args.toList ds p := hA0
  rw [Try.params6] at hA hval
  obtain ⟨v0, vs0, d0, ds0, p0, q0, hargs, rfl, rfl, h0, r0⟩ := trodAll_cons hA
  obtain ⟨v1, vs1, d1, ds1, p1, q1, rfl, rfl, rfl, h1, r1⟩ := trodAll_cons r0
  obtain ⟨rfl, rfl, rfl⟩ := trodAll_nil r1
  obtain rfl : args = #[v0, v1] := by cases args; simp_all
  obtain ⟨rfl, rfl⟩ := trodVars_none hV
  obtain ⟨a0, len0, cap0, rfl⟩ := okWide_slice Try.underlying22 (hval 0 22 v0 rfl rfl)
  have k0 := h0
  have lt0 : ∀ x ∈ p0, x.block < W.heap.size := by obtain ⟨m, hm⟩ := k0; exact DataW.trod_lt m _ _ _ hm
  obtain ⟨z0, hv0, hm0⟩ := open_byteS h0 rfl
  obtain ⟨a1, len1, cap1, rfl⟩ := okWide_slice Try.underlying22 (hval 1 22 v1 rfl rfl)
  have k1 := h1
  have lt1 : ∀ x ∈ p1, x.block < W.heap.size := by obtain ⟨m, hm⟩ := k1; exact DataW.trod_lt m _ _ _ hm
  obtain ⟨z1, hv1, hm1⟩ := open_byteS h1 rfl
  clear hA0 hval0
  refine (walk _ z0 _ z1 W hv0 hm0 hv1 hm1).mono fun e W' ⟨he, bel⟩ => ?_
  subst he
  exact ⟨_, rfl, _, _, _, [], _, [], hW', trodAll_mk1 (shut_bool Try.underlying4 _), (trodAll_cons_mk (Below.trod laidOut (by kernel_rfl) (of_decide_eq_true (by kernel_rfl)) k0 bel lt0) (trodAll_cons_mk (Below.trod laidOut (by kernel_rfl) (of_decide_eq_true (by kernel_rfl)) k1 bel lt1) trodAll_mk0)), rfl, bel.frame _, fun h => by cases h⟩

theorem over : Rows.fnPartsPlainRow.holds Try.pinned (OpenSpec.ofChange Rows.fnPartsPlainSpec) :=
  OpenClaim.holds_of_wide 6 Try.f6 rfl rfl rfl rfl rfl rfl rfl ⟨rfl, rfl, rfl, rfl, rfl⟩ rfl rfl rfl rfl rfl (by kernel_rfl) Try.func6 (by kernel_rfl)
    (of_decide_eq_true (by kernel_rfl)) (by unfold Func.isWrapper; first | (rw [if_pos (by decide +kernel)]; kernel_rfl) | (rw [if_neg (by decide +kernel)]; exact ⟨rfl, rfl⟩))
    (fun os started H enc _ => lifted os started H enc)

theorem proved : Rows.FnPartsPlainSaid := over
#print axioms proved
end Go.Proofs.Ythdkjjfnockldaa.lawFnPartsPlain
