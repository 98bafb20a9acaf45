/- The law FnExactRoadsNet holds at every input: the program's function answers as its model and leaves its arguments alone. No condition. -/
import Derived.Test.YtlkhgnglblgldaaW1
import Derived.Test.YtlkhgnglblgldaaNP
import Derived.Test.YtlkhgnglblgldaaNM
import Derived.Test.YtlkhgnglblgldaaAC
import Derived.Test.YtlkhgnglblgldaaAI
import Derived.Test.YtlkhgnglblgldaaO
namespace Go.Proofs.Ytlkhgnglblgldaa.lawFnExactRoadsNet
open Go.ChangeShapes Go.WideShapes Go.ChangeAt Go.RowKit
set_option linter.unusedVariables false

set_option maxRecDepth 100000 in
set_option maxHeartbeats 1000000 in
theorem walk (n : Int) (v : Value) (l : List Rd) (w : World) (hv : RoadsIn w v l) (hw : RdWf l) (hm : l.length ≤ maxLen) (wn : W64 n) :
    Calls Try.prog 5 #[.int .i64 n, v] w fun e w' => e = .returned (.bool true) ∧ Below w.heap.size w w' := by
  by_cases hl : l.length ≤ 1048576
  · have Hw := Lib.hid hw; clear hw
    have hlb : (netL n l).length ≤ 1048576 := netL_short hl
    have Hlb := Lib.hid hlb; clear hlb
    go_enter Try.func5, Try.ntmps5
    go_wp2_with fail
    refine (szRoadS_yes _ l _ hv hl).mono ?_; rintro e w' ⟨rfl, rfl⟩
    go_wp2_with fail
    refine (toRoadS_any _ l _ hv hl).mono ?_; rintro e w1 ⟨b1, rfl, hb1, hl1, hr1, hm1, bel1⟩
    have hv1 := hv.below bel1
    have hx1 := RoadsIn.row (cap := l.length) hl1 hr1
    clear hm1
    go_wp2_with fail
    refine (net1_any n _ l _ hx1 hl).mono ?_; rintro e w2 ⟨ad0, cap0, rfl, hc0, ho0, hblk0, bel2⟩
    have hv2 := hv1.below bel2
    have z1 := bel1.size
    have z2 := bel2.size
    clear hx1 hr1
    generalize hxs : netL n l = xs at *
    generalize hok : wholeOf n l = ok at *
    have Hxs := Lib.hid hxs; clear hxs
    have Hok := Lib.hid hok; clear hok
    go_wp2_with fail
    refine (toRoadS_any _ l _ hv2 hl).mono ?_; rintro e w3 ⟨b2, rfl, hb2, hl2, hr2, hm2, bel3⟩
    have hv3 := hv2.below bel3
    have hx2 := RoadsIn.row (cap := l.length) hl2 hr2
    have ho0b := ho0.below bel3
    have z3 := bel3.size
    clear ho0 hr2
    go_wp2_with fail
    refine (net2_any n _ l _ hx2 hl Hw.out).mono ?_; rintro e w4 ⟨adg, capg, he, hcg, hog, hblkg, bel4⟩
    rw [Hxs.out, Hok.out] at he
    rw [Hxs.out] at hcg hog
    subst he
    have z4 := bel4.size
    have hv4 := hv3.below bel4
    have hx3 := hx2.below bel4
    have ho0c := ho0b.below bel4
    have hr4 : Room w4 b2 (l.length * 3) := hm2.below bel4 hl2
    clear hx2 ho0b hm2
    have B4 : Below w.heap.size w w4 := ((bel1.trans (bel2.mono z1)).trans (bel3.mono (by omega))).trans (bel4.mono (by omega))
    have d0 : ∀ j, inBlk ad0 j → j ≠ b2 := fun j hj e => by have := hblk0 j hj; omega
    have dg : ∀ j, inBlk adg j → j ≠ b2 ∧ w.heap.size ≤ j ∧ j < w4.heap.size := fun j hj => by have := hblkg j hj; omega
    have d0g : ∀ j, inBlk ad0 j → ¬ inBlk adg j := fun j hj hg => by have := hblk0 j hj; have := hblkg j hg; omega
    have hb2w : w.heap.size ≤ b2 := by omega
    have hb24 : b2 < w4.heap.size := by omega
    clear hv1 hv2 hv3 hv4 hb1 hl1 bel1 bel2 bel3 bel4 hblk0 hblkg hb2 hl2 z1 z2 z3 z4
    have D0 := Lib.hid d0; clear d0
    have Dg := Lib.hid dg; clear dg
    have D0g := Lib.hid d0g; clear d0g
    go_wp2_with fail
    refine (eqIntS_any _ _ xs xs _ (hog.ints hcg) (ho0c.ints hc0) Hlb.out).mono ?_; rintro e w5 ⟨⟨x, rfl, hx⟩, bel5⟩
    obtain rfl : x = true := hx.2 rfl
    clear hx
    have z5 := bel5.size
    have B5 := B4.trans (bel5.mono B4.size)
    have hx5 := hx3.below bel5
    have hog5 := hog.below bel5
    have ho05 := ho0c.below bel5
    have hr5 := hr4.below bel5 hb24
    clear hx3 hog ho0c hr4
    go_wp2_with fail
    refine (toRoadS_any _ l _ (hv.below B5) hl).mono ?_; rintro e w6 ⟨b3, rfl, hb3, hl3, hr3, hm3, bel6⟩
    have z6 := bel6.size
    have B6 := B5.trans (bel6.mono B5.size)
    have hx6 := hx5.below bel6
    have hx6' := RoadsIn.row (cap := l.length) hl3 hr3
    clear hm3 hb3
    go_wp2_with fail
    refine (eqRoadS_any _ _ l l _ hx6 hx6' hl).mono ?_; rintro e w7 ⟨⟨x, rfl, hx⟩, bel7⟩
    obtain rfl : x = true := hx.2 rfl
    have z7 := bel7.size
    have B7 := B6.trans (bel7.mono B6.size)
    have hog7 := (hog5.below bel6).below bel7
    have ho07 := (ho05.below bel6).below bel7
    have hr7 := (hr5.below bel6 (by omega)).below bel7 (by omega)
    clear hx hx5 hx6 hx6' hr3 hl3 hog5 ho05 hr5 bel5 bel6 bel7 B4 B5 B6
    go_wp2_with fail
    refine (markRoadS_any _ _ l.length 1 _ (fun _ => ⟨b2, rfl, by omega, hr7⟩) hl (by omega) (by omega)).mono ?_; rintro e w8 ⟨rfl, t8⟩
    have z8 := t8.size
    have B8 : Below w.heap.size w w8 := B7.trans (t8.below (fun j hj => by obtain ⟨o, ho⟩ := hj; cases ho; exact hb2w) B7.size)
    have hog8 := hog7.touch t8 (fun j hj h => by obtain ⟨o, ho⟩ := h; cases ho; exact (Dg.out _ hj).1 rfl)
    have ho08 := ho07.touch t8 (fun j hj h => by obtain ⟨o, ho⟩ := h; cases ho; exact D0.out _ hj rfl)
    clear hr7 hog7 ho07 t8 B7
    go_wp2_with fail
    refine (eqIntS_any _ _ xs xs _ (hog8.ints hcg) (ho08.ints hc0) Hlb.out).mono ?_; rintro e w9 ⟨⟨x, rfl, hx⟩, bel9⟩
    obtain rfl : x = true := hx.2 rfl
    have z9 := bel9.size
    have B9 := B8.trans (bel9.mono B8.size)
    have hog9 := hog8.below bel9
    have ho09 := ho08.below bel9
    clear hx hog8 ho08 bel9 B8
    go_wp2_with fail
    refine (markIntS_any adg capg xs 1 _ hog9 Hlb.out (by omega) (by omega)).mono ?_; rintro e w10 ⟨rfl, hog10, t10⟩
    have z10 := t10.size
    have B10 : Below w.heap.size w w10 := B9.trans (t10.below (fun j hj => (Dg.out j hj).2.1) B9.size)
    have ho10 := ho09.touch t10 (fun j hj => D0g.out j hj)
    clear hog9 ho09 t10 B9
    go_wp2_with fail
    refine (heldIntS_any adg capg xs.length 1 _ hog10 Hlb.out (by omega) (by omega)).mono ?_; rintro e w' ⟨rfl, rfl⟩
    go_wp2_with fail
    refine (toRoadS_any _ l _ (hv.below B10) hl).mono ?_; rintro e w11 ⟨b4, rfl, hb4, hl4, hr4, hm4, bel11⟩
    have z11 := bel11.size
    have B11 := B10.trans (bel11.mono B10.size)
    have hx11 := RoadsIn.row (cap := l.length) hl4 hr4
    have hog11 := hog10.below bel11
    have ho11 := ho10.below bel11
    clear hm4 hr4 hog10 ho10 bel11 B10 hb4
    go_wp2_with fail
    refine (net2_any n _ l _ hx11 hl Hw.out).mono ?_; rintro e w12 ⟨adh, caph, he, hch, hoh, hblkh, bel12⟩
    rw [Hxs.out, Hok.out] at he
    rw [Hxs.out] at hch hoh
    subst he
    have z12 := bel12.size
    have B12 := B11.trans (bel12.mono B11.size)
    have hog12 := hog11.below bel12
    have ho12 := ho11.below bel12
    clear hx11 hog11 ho11 bel12 B11 hblkh
    go_wp2_with fail
    refine (eqIntS_any _ _ xs xs _ (hoh.ints hch) (ho12.ints hc0) Hlb.out).mono ?_; rintro e w13 ⟨⟨x, rfl, hx⟩, bel13⟩
    obtain rfl : x = true := hx.2 rfl
    have B13 := B12.trans (bel13.mono B12.size)
    have hog13 := hog12.below bel13
    clear hx hoh ho12 hog12 bel13 B12
    go_wp2_with fail
    refine (heldIntS_any adg capg xs.length 1 _ hog13 Hlb.out (by omega) (by omega)).mono ?_; rintro e w' ⟨rfl, rfl⟩
    go_wp2
    go_ret
    exact ⟨rfl, B13⟩
  · go_enter Try.func5, Try.ntmps5
    go_wp2_with fail
    refine (szRoadS_no _ l _ hv hm hl).mono ?_; rintro e w' ⟨rfl, rfl⟩
    go_wp2
    go_ret
    exact ⟨rfl, Below.refl _ _⟩

set_option maxRecDepth 100000 in
theorem lifted (os : Os) (started : os.Started) (H : Type) (enc : TypeId × Value → H) :
    ReturnsInHanded {} Try.checked os 5 .any (Rows.fnExactRoadsNetSpec.pre6 enc Try.prog Try.f5 Rows.fnExactRoadsNetRow.domain false) (Rows.fnExactRoadsNetSpec.post enc Try.prog Try.f5 false true false false) := by
  refine returnsInHanded_of_change (C := Try.checked) own started (by kernel_rfl) Try.func5
    (ChangeSpec.witness6 (enc := enc) (C := Try.checked) false ⟨#[], #[.int .i64 0, .slice none 0 0], []⟩ 8 (by kernel_rfl) (by kernel_rfl) (by kernel_rfl) (by kernel_rfl)) ?_
  intro W base args ds gs before hval0 hW hcnd _
  have hval : ∀ (j : Nat) t v, Try.f5.params[j]? = some t → args[j]? = some v → Value.okWide Try.prog W .any base t v := hval0
  have hW' := hW
  obtain ⟨p, q, hA0, hV, rfl, hfz, hnd⟩ := hW
  have hA : DataW.TrodAll enc Try.prog W 0 (fun _ => true) true Try.f5.params.toList args.toList ds p := hA0
  rw [Try.params5] at hA hval
  obtain ⟨v0, vs0, d0, ds0, p0, q0, hargs, rfl, rfl, h0, r0⟩ := trodAll_cons hA
  obtain ⟨v1, vs1, d1, ds1, p1, q1, rfl, rfl, rfl, h1, r1⟩ := trodAll_cons r0
  obtain ⟨rfl, rfl, rfl⟩ := trodAll_nil r1
  obtain rfl : args = #[v0, v1] := by cases args; simp_all
  obtain ⟨rfl, rfl⟩ := trodVars_none hV
  obtain ⟨x0, rfl, rfl, rfl, w0⟩ := open_int Try.underlying3 (hval 0 3 v0 rfl rfl) h0
  obtain ⟨a1, len1, cap1, rfl⟩ := okWide_slice Try.underlying34 (hval 1 34 v1 rfl rfl)
  have k1 := h1
  have lt1 : ∀ x ∈ p1, x.block < W.heap.size := by obtain ⟨m, hm⟩ := k1; exact DataW.trod_lt m _ _ _ hm
  obtain ⟨z1, hv1, hw1, _, hm1⟩ := open_roads h1
  clear hA0 hval0
  refine (walk x0 _ z1 W hv1 hw1 hm1 (wfI w0)).mono fun e W' ⟨he, bel⟩ => ?_
  subst he
  exact ⟨_, rfl, _, _, _, [], _, [], hW', trodAll_mk1 (shut_bool Try.underlying4 _), (trodAll_cons_mk (shut_int Try.underlying3 w0) (trodAll_cons_mk (Below.trod laidOut (by kernel_rfl) (of_decide_eq_true (by kernel_rfl)) k1 bel lt1) trodAll_mk0)), rfl, bel.frame _, fun h => by cases h⟩

theorem over : Rows.fnExactRoadsNetRow.holds Try.pinned (OpenSpec.ofChange Rows.fnExactRoadsNetSpec) :=
  OpenClaim.holds_of_wide 5 Try.f5 rfl rfl rfl rfl rfl rfl rfl ⟨rfl, rfl, rfl, rfl, rfl⟩ rfl rfl rfl rfl rfl (by kernel_rfl) Try.func5 (by kernel_rfl)
    (of_decide_eq_true (by kernel_rfl)) (by unfold Func.isWrapper; first | (rw [if_pos (by decide +kernel)]; kernel_rfl) | (rw [if_neg (by decide +kernel)]; exact ⟨rfl, rfl⟩))
    (fun os started H enc _ => lifted os started H enc)

theorem proved : Rows.FnExactRoadsNetSaid := over
#print axioms proved
end Go.Proofs.Ytlkhgnglblgldaa.lawFnExactRoadsNet
