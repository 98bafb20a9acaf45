/- The law FnExactShareSettle holds at every input. No condition. -/
import Derived.Test.YtcllgpfnojncoaaQ8
import Derived.Test.YtcllgpfnojncoaaQT
import Derived.Test.YtcllgpfnojncoaaPB
import Derived.Test.YtcllgpfnojncoaaPC
import Derived.Test.YtcllgpfnojncoaaPD
import Derived.Test.YtcllgpfnojncoaaIC
namespace Go.Proofs.Ytcllgpfnojncoaa.lawFnExactShareSettle
open Go.ChangeShapes Go.WideShapes Go.ChangeAt Go.RowKit
set_option linter.unusedVariables false

set_option maxRecDepth 100000 in
set_option maxHeartbeats 2000000 in
theorem walk (v0 : Value) (l0 : List Pt) (v1 : Value) (l1 : List Int) (w : World) (hv0 : PtIn w v0 l0) (hw0 : PtWf l0) (hm0 : l0.length ≤ maxLen) (hv1 : IntsIn w v1 l1) (hw1 : IntWf l1) (hm1 : l1.length ≤ maxLen) :
    Calls Try.prog 14 #[v0, v1] w fun e w' => e = .returned (.bool true) ∧ Below w.heap.size w w' := by
  have Hv1 := Lib.hid hv1
  obtain ⟨ad1, cp1, rfl, hcp1, hu1⟩ := hv1
  clear hcp1 hu1
  have W0 := Lib.hid hw0; clear hw0
  have W1 := Lib.hid hw1; clear hw1
  by_cases hl1 : l1.length ≤ 1048576
  · by_cases hl0 : l0.length ≤ 1048576
    · have Hlb : Hid ((setX l0 l1).length ≤ 1048576) := Lib.hid (setX_short l0 l1)
      go_enter Try.func14, Try.ntmps14
      go_wp2_with fail
      refine (szPartS_yes _ l0 _ hv0 hl0).mono ?_; rintro e w' ⟨rfl, rfl⟩
      go_wp2_with fail
      refine (toPartS_any _ l0 _ hv0 hl0).mono ?_; rintro e w1 ⟨b1, rfl, hb1, hlt1, hr1, hm_1, bel1⟩
      have z1 := bel1.size
      have s0_1 := PtIn.row (cap := l0.length) hlt1 (Nat.le_refl _) hr1
      clear hr1
      have B1 := bel1
      clear bel1
      go_wp2_with fail
      refine (toIntS_any _ l1 _ (Hv1.out.below B1) hl1).mono ?_; rintro e w2 ⟨b2, rfl, hb2, hlt2, hr2, hm_2, bel2⟩
      have z2 := bel2.size
      have s0_2 := s0_1.below bel2
      clear s0_1
      have s1_2 := IntsIn.row (cap := l1.length) hlt2 (Nat.le_refl _) hr2
      clear hr2
      have B2 := B1.trans (bel2.mono B1.size)
      clear B1
      clear bel2
      go_wp2_with fail
      refine (settle1_any _ _ l0 l1 _ s0_2 s1_2 hl0 hl1).mono ?_; rintro e w3 ⟨adw, capw, rfl, hcw, how_3, hblkw, bel3⟩
      clear s0_2
      clear s1_2
      have z3 := bel3.size
      have B3 := B2.trans (bel3.mono B2.size)
      clear B2
      clear bel3
      generalize hxs : setX l0 l1 = xs at *
      generalize hok : setOk l0 l1 = ok at *
      have Hxs := Lib.hid hxs; clear hxs
      have Hok := Lib.hid hok; clear hok
      go_wp2_with fail
      refine (toPartS_any _ l0 _ (hv0.below B3) hl0).mono ?_; rintro e w4 ⟨b4, rfl, hb4, hlt4, hr4, hm_4, bel4⟩
      have z4 := bel4.size
      have how_4 := how_3.below bel4
      clear how_3
      have x0_4 := PtIn.row (cap := l0.length) hlt4 (Nat.le_refl _) hr4
      have hat4 := hr4
      clear hr4
      have B4 := B3.trans (bel4.mono B3.size)
      clear B3
      clear bel4
      have ox0_4 : OwnPt w4 (some ⟨b4, 0, none⟩) l0 := fun _ => ⟨b4, rfl, hlt4, hat4, hm_4⟩
      go_wp2_with fail
      refine (toIntS_any _ l1 _ (Hv1.out.below B4) hl1).mono ?_; rintro e w5 ⟨b5, rfl, hb5, hlt5, hr5, hm_5, bel5⟩
      have z5 := bel5.size
      have how_5 := how_4.below bel5
      clear how_4
      have x0_5 := x0_4.below bel5
      clear x0_4
      have ox0_5 := ox0_4.below bel5
      clear ox0_4
      have x1_5 := IntsIn.row (cap := l1.length) hlt5 (Nat.le_refl _) hr5
      have hat5 := hr5
      clear hr5
      have B5 := B4.trans (bel5.mono B4.size)
      clear B4
      clear bel5
      have ox1_5 : OwnI w5 (some ⟨b5, 0, none⟩) l1 := fun _ => ⟨b5, rfl, hlt5, hat5, hm_5⟩
      go_wp2_with fail
      refine (settle2_any _ _ l0 l1 _ x0_5 x1_5 hl0).mono ?_; rintro e w6 ⟨adg, capg, he, hcg, hog_6, hblkg, bel6⟩
      rw [Hxs.out, Hok.out] at he
      rw [Hxs.out] at hcg hog_6
      subst he
      have z6 := bel6.size
      have how_6 := how_5.below bel6
      clear how_5
      have x0_6 := x0_5.below bel6
      clear x0_5
      have ox0_6 := ox0_5.below bel6
      clear ox0_5
      have x1_6 := x1_5.below bel6
      clear x1_5
      have ox1_6 := ox1_5.below bel6
      clear ox1_5
      have B6 := B5.trans (bel6.mono B5.size)
      clear B5
      clear bel6
      have dw0 := Lib.hid (show ∀ i, inBlk adw i → ¬ inBlk (some ⟨b4, 0, none⟩) i from fun i hi h => by obtain ⟨o, ho⟩ := h; cases ho; have := hblkw _ hi; omega)
      have dg0 := Lib.hid (show ∀ i, inBlk adg i → ¬ inBlk (some ⟨b4, 0, none⟩) i from fun i hi h => by obtain ⟨o, ho⟩ := h; cases ho; have := hblkg _ hi; omega)
      have dx10 := Lib.hid (show ∀ i, inBlk (some ⟨b5, 0, none⟩) i → ¬ inBlk (some ⟨b4, 0, none⟩) i from fun i hi h => by obtain ⟨o, ho⟩ := h; cases ho; obtain ⟨o, ho⟩ := hi; cases ho; omega)
      have lo0 := Lib.hid (show ∀ i, inBlk (some ⟨b4, 0, none⟩) i → w.heap.size ≤ i from fun i h => by obtain ⟨o, ho⟩ := h; cases ho; omega)
      have dw1 := Lib.hid (show ∀ i, inBlk adw i → ¬ inBlk (some ⟨b5, 0, none⟩) i from fun i hi h => by obtain ⟨o, ho⟩ := h; cases ho; have := hblkw _ hi; omega)
      have dg1 := Lib.hid (show ∀ i, inBlk adg i → ¬ inBlk (some ⟨b5, 0, none⟩) i from fun i hi h => by obtain ⟨o, ho⟩ := h; cases ho; have := hblkg _ hi; omega)
      have dx01 := Lib.hid (show ∀ i, inBlk (some ⟨b4, 0, none⟩) i → ¬ inBlk (some ⟨b5, 0, none⟩) i from fun i hi h => by obtain ⟨o, ho⟩ := h; cases ho; obtain ⟨o, ho⟩ := hi; cases ho; omega)
      have lo1 := Lib.hid (show ∀ i, inBlk (some ⟨b5, 0, none⟩) i → w.heap.size ≤ i from fun i h => by obtain ⟨o, ho⟩ := h; cases ho; omega)
      have dwg := Lib.hid (show ∀ i, inBlk adw i → ¬ inBlk adg i from fun i hi h => by have := hblkw _ hi; have := hblkg _ h; omega)
      have log := Lib.hid (show ∀ i, inBlk adg i → w.heap.size ≤ i from fun i h => by have := hblkg _ h; omega)
      clear hblkw hblkg z1 z2 z3 z4 z5 z6 hb4 hlt4 hb5 hlt5
      go_wp2_with fail
      refine (eqIntS_any _ _ xs xs _ (hog_6.ints hcg) (how_6.ints hcw) Hlb.out).mono ?_; rintro e w7 ⟨⟨x7, rfl, hx7⟩, bel7⟩
      obtain rfl : x7 = true := hx7.2 rfl
      clear hx7
      have how_7 := how_6.below bel7
      clear how_6
      have x0_7 := x0_6.below bel7
      clear x0_6
      have ox0_7 := ox0_6.below bel7
      clear ox0_6
      have x1_7 := x1_6.below bel7
      clear x1_6
      have ox1_7 := ox1_6.below bel7
      clear ox1_6
      have hog_7 := hog_6.below bel7
      clear hog_6
      have B7 := B6.trans (bel7.mono B6.size)
      clear B6
      clear bel7
      go_wp2_with fail
      refine (toPartS_any _ l0 _ (hv0.below B7) hl0).mono ?_; rintro e w8 ⟨b8, rfl, hb8, hlt8, hr8, hm_8, bel8⟩
      have z8 := bel8.size
      have how_8 := how_7.below bel8
      clear how_7
      have x0_8 := x0_7.below bel8
      clear x0_7
      have ox0_8 := ox0_7.below bel8
      clear ox0_7
      have x1_8 := x1_7.below bel8
      clear x1_7
      have ox1_8 := ox1_7.below bel8
      clear ox1_7
      have hog_8 := hog_7.below bel8
      clear hog_7
      have y0_8 := PtIn.row (cap := l0.length) hlt8 (Nat.le_refl _) hr8
      clear hr8
      have B8 := B7.trans (bel8.mono B7.size)
      clear B7
      clear bel8
      go_wp2_with fail
      refine (eqPartS_any _ _ l0 l0 _ x0_8 y0_8 hl0).mono ?_; rintro e w9 ⟨⟨x9, rfl, hx9⟩, bel9⟩
      obtain rfl : x9 = true := hx9.2 rfl
      clear hx9
      clear x0_8 y0_8
      have how_9 := how_8.below bel9
      clear how_8
      have ox0_9 := ox0_8.below bel9
      clear ox0_8
      have x1_9 := x1_8.below bel9
      clear x1_8
      have ox1_9 := ox1_8.below bel9
      clear ox1_8
      have hog_9 := hog_8.below bel9
      clear hog_8
      have B9 := B8.trans (bel9.mono B8.size)
      clear B8
      clear bel9
      go_wp2_with fail
      refine (toIntS_any _ l1 _ (Hv1.out.below B9) hl1).mono ?_; rintro e w10 ⟨b10, rfl, hb10, hlt10, hr10, hm_10, bel10⟩
      have z10 := bel10.size
      have how_10 := how_9.below bel10
      clear how_9
      have ox0_10 := ox0_9.below bel10
      clear ox0_9
      have x1_10 := x1_9.below bel10
      clear x1_9
      have ox1_10 := ox1_9.below bel10
      clear ox1_9
      have hog_10 := hog_9.below bel10
      clear hog_9
      have y1_10 := IntsIn.row (cap := l1.length) hlt10 (Nat.le_refl _) hr10
      clear hr10
      have B10 := B9.trans (bel10.mono B9.size)
      clear B9
      clear bel10
      go_wp2_with fail
      refine (eqIntS_any _ _ l1 l1 _ x1_10 y1_10 hl1).mono ?_; rintro e w11 ⟨⟨x11, rfl, hx11⟩, bel11⟩
      obtain rfl : x11 = true := hx11.2 rfl
      clear hx11
      clear x1_10 y1_10
      have how_11 := how_10.below bel11
      clear how_10
      have ox0_11 := ox0_10.below bel11
      clear ox0_10
      have ox1_11 := ox1_10.below bel11
      clear ox1_10
      have hog_11 := hog_10.below bel11
      clear hog_10
      have B11 := B10.trans (bel11.mono B10.size)
      clear B10
      clear bel11
      go_wp2_with fail
      refine (markPartS_own _ _ l0 1 _ ox0_11 hl0 (by omega) (by omega)).mono ?_; rintro e w12 ⟨rfl, _, t12⟩
      clear ox0_11
      have B12 : Below w.heap.size w w12 := B11.trans (t12.below lo0.out B11.size)
      clear B11
      have hog_12 := hog_11.touch t12 (fun i hi => dg0.out i hi)
      clear hog_11
      have how_12 := how_11.touch t12 (fun i hi => dw0.out i hi)
      clear how_11
      have ox1_12 := ox1_11.touch t12 (fun i hi => dx10.out i hi)
      clear ox1_11
      clear t12
      go_wp2_with fail
      refine (markIntS_any _ _ l1 _ _ ox1_12 hl1 (by omega) (by omega)).mono ?_; rintro e w13 ⟨rfl, _, t13⟩
      clear ox1_12
      have B13 : Below w.heap.size w w13 := B12.trans (t13.below lo1.out B12.size)
      clear B12
      have hog_13 := hog_12.touch t13 (fun i hi => dg1.out i hi)
      clear hog_12
      have how_13 := how_12.touch t13 (fun i hi => dw1.out i hi)
      clear how_12
      clear t13
      go_wp2_with fail
      refine (eqIntS_any _ _ xs xs _ (hog_13.ints hcg) (how_13.ints hcw) Hlb.out).mono ?_; rintro e w14 ⟨⟨x14, rfl, hx14⟩, bel14⟩
      obtain rfl : x14 = true := hx14.2 rfl
      clear hx14
      have how_14 := how_13.below bel14
      clear how_13
      have hog_14 := hog_13.below bel14
      clear hog_13
      have B14 := B13.trans (bel14.mono B13.size)
      clear B13
      clear bel14
      go_wp2_with fail
      refine (markIntS_any adg capg xs 1 _ hog_14 Hlb.out (by omega) (by omega)).mono ?_; rintro e w15 ⟨rfl, hog_15, t15⟩
      clear hog_14
      have B15 : Below w.heap.size w w15 := B14.trans (t15.below log.out B14.size)
      clear B14
      have how_15 := how_14.touch t15 (fun i hi => dwg.out i hi)
      clear how_14 t15
      go_wp2_with fail
      refine (heldIntS_any adg capg xs.length 1 _ hog_15 Hlb.out (by omega) (by omega)).mono ?_; rintro e w' ⟨rfl, rfl⟩
      go_wp2_with fail
      refine (toPartS_any _ l0 _ (hv0.below B15) hl0).mono ?_; rintro e w16 ⟨b16, rfl, hb16, hlt16, hr16, hm_16, bel16⟩
      have z16 := bel16.size
      have how_16 := how_15.below bel16
      clear how_15
      have hog_16 := hog_15.below bel16
      clear hog_15
      have u0_16 := PtIn.row (cap := l0.length) hlt16 (Nat.le_refl _) hr16
      clear hr16
      have B16 := B15.trans (bel16.mono B15.size)
      clear B15
      clear bel16
      go_wp2_with fail
      refine (toIntS_any _ l1 _ (Hv1.out.below B16) hl1).mono ?_; rintro e w17 ⟨b17, rfl, hb17, hlt17, hr17, hm_17, bel17⟩
      have z17 := bel17.size
      have how_17 := how_16.below bel17
      clear how_16
      have hog_17 := hog_16.below bel17
      clear hog_16
      have u0_17 := u0_16.below bel17
      clear u0_16
      have u1_17 := IntsIn.row (cap := l1.length) hlt17 (Nat.le_refl _) hr17
      clear hr17
      have B17 := B16.trans (bel17.mono B16.size)
      clear B16
      clear bel17
      go_wp2_with fail
      refine (settle2_any _ _ l0 l1 _ u0_17 u1_17 hl0).mono ?_; rintro e w18 ⟨adh, caph, he, hch, hoh, hblkh, bel18⟩
      rw [Hxs.out, Hok.out] at he
      rw [Hxs.out] at hch hoh
      subst he
      clear u0_17
      clear u1_17
      have how_18 := how_17.below bel18
      clear how_17
      have hog_18 := hog_17.below bel18
      clear hog_17
      have B18 := B17.trans (bel18.mono B17.size)
      clear B17
      clear bel18 hblkh
      go_wp2_with fail
      refine (eqIntS_any _ _ xs xs _ (hoh.ints hch) (how_18.ints hcw) Hlb.out).mono ?_; rintro e w19 ⟨⟨x19, rfl, hx19⟩, bel19⟩
      obtain rfl : x19 = true := hx19.2 rfl
      clear hx19
      clear hoh how_18
      have hog_19 := hog_18.below bel19
      clear hog_18
      have B19 := B18.trans (bel19.mono B18.size)
      clear B18
      clear bel19
      go_wp2_with fail
      refine (heldIntS_any adg capg xs.length 1 _ hog_19 Hlb.out (by omega) (by omega)).mono ?_; rintro e w' ⟨rfl, rfl⟩
      go_wp2
      go_ret
      exact ⟨rfl, B19⟩
    · go_enter Try.func14, Try.ntmps14
      go_wp2_with fail
      refine (szPartS_no _ l0 _ hv0 hm0 hl0).mono ?_; rintro e w' ⟨rfl, rfl⟩
      go_wp2
      go_ret
      exact ⟨rfl, Below.refl _ _⟩
  · have hl' : (1048576 : Int) < (l1.length : Int) := by omega
    go_enter Try.func14, Try.ntmps14
    go_wp2
    go_ret
    exact ⟨rfl, Below.refl _ _⟩

set_option maxRecDepth 100000 in
theorem lifted (os : Os) (started : os.Started) (H : Type) (enc : TypeId × Value → H) :
    ReturnsInHanded {} Try.checked os 14 .any (Rows.fnExactShareSettleSpec.pre6 enc Try.prog Try.f14 Rows.fnExactShareSettleRow.domain false) (Rows.fnExactShareSettleSpec.post enc Try.prog Try.f14 false true false false) := by
  refine returnsInHanded_of_change (C := Try.checked) own started (by kernel_rfl) Try.func14
    (ChangeSpec.witness6 (enc := enc) (C := Try.checked) false ⟨#[], #[.slice none 0 0, .slice none 0 0], []⟩ 8 (by kernel_rfl) (by kernel_rfl) (by kernel_rfl) (by kernel_rfl)) ?_
  intro W base args ds gs before hval0 hW hcnd _
  have hval : ∀ (j : Nat) t v, Try.f14.params[j]? = some t → args[j]? = some v → Value.okWide Try.prog W .any base t v := hval0
  have hW' := hW
  obtain ⟨p, q, hA0, hV, rfl, hfz, hnd⟩ := hW
  have hA : DataW.TrodAll enc Try.prog W 0 (fun _ => true) true Try.f14.params.toList args.toList ds p := hA0
  rw [Try.params14] at hA hval
  obtain ⟨v0, vs0, d0, ds0, p0, q0, hargs, rfl, rfl, h0, r0⟩ := trodAll_cons hA
  obtain ⟨v1, vs1, d1, ds1, p1, q1, rfl, rfl, rfl, h1, r1⟩ := trodAll_cons r0
  obtain ⟨rfl, rfl, rfl⟩ := trodAll_nil r1
  obtain rfl : args = #[v0, v1] := by cases args; simp_all
  obtain ⟨rfl, rfl⟩ := trodVars_none hV
  obtain ⟨a0, len0, cap0, rfl⟩ := okWide_slice Try.underlying22 (hval 0 22 v0 rfl rfl)
  have k0 := h0
  have lt0 : ∀ x ∈ p0, x.block < W.heap.size := by obtain ⟨m, hm⟩ := k0; exact DataW.trod_lt m _ _ _ hm
  obtain ⟨z0, hv0, hw0, _, hm0⟩ := open_Pt h0
  obtain ⟨a1, len1, cap1, rfl⟩ := okWide_slice Try.underlying29 (hval 1 29 v1 rfl rfl)
  have k1 := h1
  have lt1 : ∀ x ∈ p1, x.block < W.heap.size := by obtain ⟨m, hm⟩ := k1; exact DataW.trod_lt m _ _ _ hm
  obtain ⟨z1, hv1, hw1, _, hm1⟩ := open_intS h1 rfl
  clear hA0 hval0
  refine (walk _ z0 _ z1 W hv0 hw0 hm0 hv1 hw1 hm1).mono fun e W' ⟨he, bel⟩ => ?_
  subst he
  exact ⟨_, rfl, _, _, _, [], _, [], hW', trodAll_mk1 (shut_bool Try.underlying4 _), (trodAll_cons_mk (Below.trod laidOut (by kernel_rfl) (of_decide_eq_true (by kernel_rfl)) k0 bel lt0) (trodAll_cons_mk (Below.trod laidOut (by kernel_rfl) (of_decide_eq_true (by kernel_rfl)) k1 bel lt1) trodAll_mk0)), rfl, bel.frame _, fun h => by cases h⟩

theorem over : Rows.fnExactShareSettleRow.holds Try.pinned (OpenSpec.ofChange Rows.fnExactShareSettleSpec) :=
  OpenClaim.holds_of_wide 14 Try.f14 rfl rfl rfl rfl rfl rfl rfl ⟨rfl, rfl, rfl, rfl, rfl⟩ rfl rfl rfl rfl rfl (by kernel_rfl) Try.func14 (by kernel_rfl)
    (of_decide_eq_true (by kernel_rfl)) (by unfold Func.isWrapper; first | (rw [if_pos (by decide +kernel)]; kernel_rfl) | (rw [if_neg (by decide +kernel)]; exact ⟨rfl, rfl⟩))
    (fun os started H enc _ => lifted os started H enc)

theorem proved : Rows.FnExactShareSettleSaid := over
#print axioms proved
end Go.Proofs.Ytcllgpfnojncoaa.lawFnExactShareSettle
