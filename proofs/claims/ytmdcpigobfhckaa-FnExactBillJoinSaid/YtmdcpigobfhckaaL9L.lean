/- The law FnExactBillJoin holds at every input. No condition. -/
import Derived.Test.YtmdcpigobfhckaaOJ
import Derived.Test.YtmdcpigobfhckaaFJN
import Derived.Test.YtmdcpigobfhckaaFB
import Derived.Test.YtmdcpigobfhckaaFC
import Derived.Test.YtmdcpigobfhckaaFD
import Derived.Test.YtmdcpigobfhckaaFSZ
namespace Go.Proofs.Ytmdcpigobfhckaa.lawFnExactBillJoin
open Go.ChangeShapes Go.WideShapes Go.ChangeAt Go.RowKit
set_option linter.unusedVariables false

set_option maxRecDepth 100000 in
set_option maxHeartbeats 2000000 in
theorem walk (a0 : Int) (v1 : Value) (l1 : List Fr) (v2 : Value) (l2 : List Fr) (w : World) (wa0 : W64 a0) (hv1 : FrIn w v1 l1) (hw1 : FrWf l1) (hm1 : l1.length ≤ maxLen) (hv2 : FrIn w v2 l2) (hw2 : FrWf l2) (hm2 : l2.length ≤ maxLen) :
    Calls Try.prog 14 #[.int .i64 a0, v1, v2] w fun e w' => e = .returned (.bool true) ∧ Below w.heap.size w w' := by
  have W1 := Lib.hid hw1; clear hw1
  have W2 := Lib.hid hw2; clear hw2
  by_cases hl1 : l1.length ≤ 1048576
  · by_cases hs2 : l1.length + l2.length ≤ 1048576
    · have hl2 : l2.length ≤ 1048576 := by omega
      have Hlb : Hid ((joinX a0 l1 l2).length ≤ 1048576) := Lib.hid (joinX_short a0 l1 l2)
      go_enter Try.func14, Try.ntmps14
      go_wp2_with fail
      refine (szParcelS_yes _ l1 _ hv1 hl1).mono ?_; rintro e w' ⟨rfl, rfl⟩
      go_wp2_with fail
      refine (szParcelS_yes2 _ l2 l1.length _ hv2 hs2).mono ?_; rintro e w' ⟨rfl, rfl⟩
      go_wp2_with fail
      refine (toParcelS_any _ l1 _ hv1 hl1).mono ?_; rintro e w1 ⟨b1, rfl, hb1, hlt1, hr1, hm_1, bel1⟩
      have z1 := bel1.size
      have s1_1 := FrIn.row (cap := l1.length) hlt1 (Nat.le_refl _) hr1
      clear hr1
      have B1 := bel1
      clear bel1
      go_wp2_with fail
      refine (toParcelS_any _ l2 _ (hv2.below B1) hl2).mono ?_; rintro e w2 ⟨b2, rfl, hb2, hlt2, hr2, hm_2, bel2⟩
      have z2 := bel2.size
      have s1_2 := s1_1.below bel2
      clear s1_1
      have s2_2 := FrIn.row (cap := l2.length) hlt2 (Nat.le_refl _) hr2
      clear hr2
      have B2 := B1.trans (bel2.mono B1.size)
      clear B1
      clear bel2
      go_wp2_with fail
      refine (join1_out _ wa0 _ _ _ _ l1 l2 _ s1_2 s2_2 hs2).mono ?_; rintro e w3 ⟨adw, capw, rfl, hcw, how_3, hblkw, bel3⟩
      clear s1_2
      clear s2_2
      have z3 := bel3.size
      have B3 := B2.trans (bel3.mono B2.size)
      clear B2
      clear bel3
      generalize hxs : joinX a0 l1 l2 = xs at *
      generalize hok : validF a0 (l1 ++ l2) = ok at *
      have Hxs := Lib.hid hxs; clear hxs
      have Hok := Lib.hid hok; clear hok
      go_wp2_with fail
      refine (toParcelS_any _ l1 _ (hv1.below B3) hl1).mono ?_; rintro e w4 ⟨b4, rfl, hb4, hlt4, hr4, hm_4, bel4⟩
      have z4 := bel4.size
      have how_4 := how_3.below bel4
      clear how_3
      have x1_4 := FrIn.row (cap := l1.length) hlt4 (Nat.le_refl _) hr4
      have hat4 := hr4
      clear hr4
      have B4 := B3.trans (bel4.mono B3.size)
      clear B3
      clear bel4
      have ox1_4 : OwnFr w4 (some ⟨b4, 0, none⟩) l1 := fun _ => ⟨b4, rfl, hlt4, hat4, hm_4⟩
      go_wp2_with fail
      refine (toParcelS_any _ l2 _ (hv2.below B4) hl2).mono ?_; rintro e w5 ⟨b5, rfl, hb5, hlt5, hr5, hm_5, bel5⟩
      have z5 := bel5.size
      have how_5 := how_4.below bel5
      clear how_4
      have x1_5 := x1_4.below bel5
      clear x1_4
      have ox1_5 := ox1_4.below bel5
      clear ox1_4
      have x2_5 := FrIn.row (cap := l2.length) hlt5 (Nat.le_refl _) hr5
      have hat5 := hr5
      clear hr5
      have B5 := B4.trans (bel5.mono B4.size)
      clear B4
      clear bel5
      have ox2_5 : OwnFr w5 (some ⟨b5, 0, none⟩) l2 := fun _ => ⟨b5, rfl, hlt5, hat5, hm_5⟩
      go_wp2_with fail
      refine (join2_out _ _ _ _ _ l1 l2 _ x1_5 x2_5 hs2).mono ?_; rintro e w6 ⟨adg, capg, he, hcg, hog_6, hblkg, bel6⟩
      rw [Hxs.out, Hok.out] at he
      rw [Hxs.out] at hcg hog_6
      subst he
      have z6 := bel6.size
      have how_6 := how_5.below bel6
      clear how_5
      have x1_6 := x1_5.below bel6
      clear x1_5
      have ox1_6 := ox1_5.below bel6
      clear ox1_5
      have x2_6 := x2_5.below bel6
      clear x2_5
      have ox2_6 := ox2_5.below bel6
      clear ox2_5
      have B6 := B5.trans (bel6.mono B5.size)
      clear B5
      clear bel6
      have dw1 := Lib.hid (show ∀ i, inBlk adw i → ¬ inBlk (some ⟨b4, 0, none⟩) i from fun i hi h => by obtain ⟨o, ho⟩ := h; cases ho; have := hblkw _ hi; omega)
      have dg1 := Lib.hid (show ∀ i, inBlk adg i → ¬ inBlk (some ⟨b4, 0, none⟩) i from fun i hi h => by obtain ⟨o, ho⟩ := h; cases ho; have := hblkg _ hi; omega)
      have dx21 := Lib.hid (show ∀ i, inBlk (some ⟨b5, 0, none⟩) i → ¬ inBlk (some ⟨b4, 0, none⟩) i from fun i hi h => by obtain ⟨o, ho⟩ := h; cases ho; obtain ⟨o, ho⟩ := hi; cases ho; omega)
      have lo1 := Lib.hid (show ∀ i, inBlk (some ⟨b4, 0, none⟩) i → w.heap.size ≤ i from fun i h => by obtain ⟨o, ho⟩ := h; cases ho; omega)
      have dw2 := Lib.hid (show ∀ i, inBlk adw i → ¬ inBlk (some ⟨b5, 0, none⟩) i from fun i hi h => by obtain ⟨o, ho⟩ := h; cases ho; have := hblkw _ hi; omega)
      have dg2 := Lib.hid (show ∀ i, inBlk adg i → ¬ inBlk (some ⟨b5, 0, none⟩) i from fun i hi h => by obtain ⟨o, ho⟩ := h; cases ho; have := hblkg _ hi; omega)
      have dx12 := Lib.hid (show ∀ i, inBlk (some ⟨b4, 0, none⟩) i → ¬ inBlk (some ⟨b5, 0, none⟩) i from fun i hi h => by obtain ⟨o, ho⟩ := h; cases ho; obtain ⟨o, ho⟩ := hi; cases ho; omega)
      have lo2 := Lib.hid (show ∀ i, inBlk (some ⟨b5, 0, none⟩) i → w.heap.size ≤ i from fun i h => by obtain ⟨o, ho⟩ := h; cases ho; omega)
      have dwg := Lib.hid (show ∀ i, inBlk adw i → ¬ inBlk adg i from fun i hi h => by have := hblkw _ hi; have := hblkg _ h; omega)
      have log := Lib.hid (show ∀ i, inBlk adg i → w.heap.size ≤ i from fun i h => by have := hblkg _ h; omega)
      clear hblkw hblkg z1 z2 z3 z4 z5 z6 hb4 hlt4 hb5 hlt5
      go_wp2_with fail
      refine (eqParcelS_any _ _ xs xs _ (hog_6.ins hcg) (how_6.ins hcw) Hlb.out).mono ?_; rintro e w7 ⟨⟨x7, rfl, hx7⟩, bel7⟩
      obtain rfl : x7 = true := hx7.2 rfl
      clear hx7
      have how_7 := how_6.below bel7
      clear how_6
      have x1_7 := x1_6.below bel7
      clear x1_6
      have ox1_7 := ox1_6.below bel7
      clear ox1_6
      have x2_7 := x2_6.below bel7
      clear x2_6
      have ox2_7 := ox2_6.below bel7
      clear ox2_6
      have hog_7 := hog_6.below bel7
      clear hog_6
      have B7 := B6.trans (bel7.mono B6.size)
      clear B6
      clear bel7
      go_wp2_with fail
      refine (toParcelS_any _ l1 _ (hv1.below B7) hl1).mono ?_; rintro e w8 ⟨b8, rfl, hb8, hlt8, hr8, hm_8, bel8⟩
      have z8 := bel8.size
      have how_8 := how_7.below bel8
      clear how_7
      have x1_8 := x1_7.below bel8
      clear x1_7
      have ox1_8 := ox1_7.below bel8
      clear ox1_7
      have x2_8 := x2_7.below bel8
      clear x2_7
      have ox2_8 := ox2_7.below bel8
      clear ox2_7
      have hog_8 := hog_7.below bel8
      clear hog_7
      have y1_8 := FrIn.row (cap := l1.length) hlt8 (Nat.le_refl _) hr8
      clear hr8
      have B8 := B7.trans (bel8.mono B7.size)
      clear B7
      clear bel8
      go_wp2_with fail
      refine (eqParcelS_any _ _ l1 l1 _ x1_8 y1_8 hl1).mono ?_; rintro e w9 ⟨⟨x9, rfl, hx9⟩, bel9⟩
      obtain rfl : x9 = true := hx9.2 rfl
      clear hx9
      clear x1_8 y1_8
      have how_9 := how_8.below bel9
      clear how_8
      have ox1_9 := ox1_8.below bel9
      clear ox1_8
      have x2_9 := x2_8.below bel9
      clear x2_8
      have ox2_9 := ox2_8.below bel9
      clear ox2_8
      have hog_9 := hog_8.below bel9
      clear hog_8
      have B9 := B8.trans (bel9.mono B8.size)
      clear B8
      clear bel9
      go_wp2_with fail
      refine (toParcelS_any _ l2 _ (hv2.below B9) hl2).mono ?_; rintro e w10 ⟨b10, rfl, hb10, hlt10, hr10, hm_10, bel10⟩
      have z10 := bel10.size
      have how_10 := how_9.below bel10
      clear how_9
      have ox1_10 := ox1_9.below bel10
      clear ox1_9
      have x2_10 := x2_9.below bel10
      clear x2_9
      have ox2_10 := ox2_9.below bel10
      clear ox2_9
      have hog_10 := hog_9.below bel10
      clear hog_9
      have y2_10 := FrIn.row (cap := l2.length) hlt10 (Nat.le_refl _) hr10
      clear hr10
      have B10 := B9.trans (bel10.mono B9.size)
      clear B9
      clear bel10
      go_wp2_with fail
      refine (eqParcelS_any _ _ l2 l2 _ x2_10 y2_10 hl2).mono ?_; rintro e w11 ⟨⟨x11, rfl, hx11⟩, bel11⟩
      obtain rfl : x11 = true := hx11.2 rfl
      clear hx11
      clear x2_10 y2_10
      have how_11 := how_10.below bel11
      clear how_10
      have ox1_11 := ox1_10.below bel11
      clear ox1_10
      have ox2_11 := ox2_10.below bel11
      clear ox2_10
      have hog_11 := hog_10.below bel11
      clear hog_10
      have B11 := B10.trans (bel11.mono B10.size)
      clear B10
      clear bel11
      go_wp2_with fail
      refine (markParcelS_own _ _ l1 1 _ ox1_11 hl1 (by omega) (by omega)).mono ?_; rintro e w12 ⟨rfl, _, t12⟩
      clear ox1_11
      have B12 : Below w.heap.size w w12 := B11.trans (t12.below lo1.out B11.size)
      clear B11
      have hog_12 := hog_11.touch t12 (fun i hi => dg1.out i hi)
      clear hog_11
      have how_12 := how_11.touch t12 (fun i hi => dw1.out i hi)
      clear how_11
      have ox2_12 := ox2_11.touch t12 (fun i hi => dx21.out i hi)
      clear ox2_11
      clear t12
      go_wp2_with fail
      refine (markParcelS_own _ _ l2 _ _ ox2_12 hl2 (by omega) (by omega)).mono ?_; rintro e w13 ⟨rfl, _, t13⟩
      clear ox2_12
      have B13 : Below w.heap.size w w13 := B12.trans (t13.below lo2.out B12.size)
      clear B12
      have hog_13 := hog_12.touch t13 (fun i hi => dg2.out i hi)
      clear hog_12
      have how_13 := how_12.touch t13 (fun i hi => dw2.out i hi)
      clear how_12
      clear t13
      go_wp2_with fail
      refine (eqParcelS_any _ _ xs xs _ (hog_13.ins hcg) (how_13.ins hcw) Hlb.out).mono ?_; rintro e w14 ⟨⟨x14, rfl, hx14⟩, bel14⟩
      obtain rfl : x14 = true := hx14.2 rfl
      clear hx14
      have how_14 := how_13.below bel14
      clear how_13
      have hog_14 := hog_13.below bel14
      clear hog_13
      have B14 := B13.trans (bel14.mono B13.size)
      clear B13
      clear bel14
      go_wp2_with fail
      refine (markParcelS_own adg capg xs 1 _ hog_14 Hlb.out (by omega) (by omega)).mono ?_; rintro e w15 ⟨rfl, hog_15, t15⟩
      clear hog_14
      have B15 : Below w.heap.size w w15 := B14.trans (t15.below log.out B14.size)
      clear B14
      have how_15 := how_14.touch t15 (fun i hi => dwg.out i hi)
      clear how_14 t15
      go_wp2_with fail
      refine (heldParcelS_any adg capg xs.length 1 _ hog_15 Hlb.out (by omega) (by omega)).mono ?_; rintro e w' ⟨rfl, rfl⟩
      go_wp2_with fail
      refine (toParcelS_any _ l1 _ (hv1.below B15) hl1).mono ?_; rintro e w16 ⟨b16, rfl, hb16, hlt16, hr16, hm_16, bel16⟩
      have z16 := bel16.size
      have how_16 := how_15.below bel16
      clear how_15
      have hog_16 := hog_15.below bel16
      clear hog_15
      have u1_16 := FrIn.row (cap := l1.length) hlt16 (Nat.le_refl _) hr16
      clear hr16
      have B16 := B15.trans (bel16.mono B15.size)
      clear B15
      clear bel16
      go_wp2_with fail
      refine (toParcelS_any _ l2 _ (hv2.below B16) hl2).mono ?_; rintro e w17 ⟨b17, rfl, hb17, hlt17, hr17, hm_17, bel17⟩
      have z17 := bel17.size
      have how_17 := how_16.below bel17
      clear how_16
      have hog_17 := hog_16.below bel17
      clear hog_16
      have u1_17 := u1_16.below bel17
      clear u1_16
      have u2_17 := FrIn.row (cap := l2.length) hlt17 (Nat.le_refl _) hr17
      clear hr17
      have B17 := B16.trans (bel17.mono B16.size)
      clear B16
      clear bel17
      go_wp2_with fail
      refine (join2_out _ _ _ _ _ l1 l2 _ u1_17 u2_17 hs2).mono ?_; rintro e w18 ⟨adh, caph, he, hch, hoh, hblkh, bel18⟩
      rw [Hxs.out, Hok.out] at he
      rw [Hxs.out] at hch hoh
      subst he
      clear u1_17
      clear u2_17
      have how_18 := how_17.below bel18
      clear how_17
      have hog_18 := hog_17.below bel18
      clear hog_17
      have B18 := B17.trans (bel18.mono B17.size)
      clear B17
      clear bel18 hblkh
      go_wp2_with fail
      refine (eqParcelS_any _ _ xs xs _ (hoh.ins hch) (how_18.ins hcw) Hlb.out).mono ?_; rintro e w19 ⟨⟨x19, rfl, hx19⟩, bel19⟩
      obtain rfl : x19 = true := hx19.2 rfl
      clear hx19
      clear hoh how_18
      have hog_19 := hog_18.below bel19
      clear hog_18
      have B19 := B18.trans (bel19.mono B18.size)
      clear B18
      clear bel19
      go_wp2_with fail
      refine (heldParcelS_any adg capg xs.length 1 _ hog_19 Hlb.out (by omega) (by omega)).mono ?_; rintro e w' ⟨rfl, rfl⟩
      go_wp2
      go_ret
      exact ⟨rfl, B19⟩
    · go_enter Try.func14, Try.ntmps14
      go_wp2_with fail
      refine (szParcelS_yes _ l1 _ hv1 hl1).mono ?_; rintro e w' ⟨rfl, rfl⟩
      go_wp2_with fail
      refine (szParcelS_no2 _ l2 l1.length _ hv2 hl1 hm2 hs2).mono ?_; rintro e w' ⟨rfl, rfl⟩
      go_wp2
      go_ret
      exact ⟨rfl, Below.refl _ _⟩
  · go_enter Try.func14, Try.ntmps14
    go_wp2_with fail
    refine (szParcelS_no _ l1 _ hv1 hm1 hl1).mono ?_; rintro e w' ⟨rfl, rfl⟩
    go_wp2
    go_ret
    exact ⟨rfl, Below.refl _ _⟩

set_option maxRecDepth 100000 in
theorem lifted (os : Os) (started : os.Started) (H : Type) (enc : TypeId × Value → H) :
    ReturnsInHanded {} Try.checked os 14 .any (Rows.fnExactBillJoinSpec.pre6 enc Try.prog Try.f14 Rows.fnExactBillJoinRow.domain false) (Rows.fnExactBillJoinSpec.post enc Try.prog Try.f14 false true false false) := by
  refine returnsInHanded_of_change (C := Try.checked) own started (by kernel_rfl) Try.func14
    (ChangeSpec.witness6 (enc := enc) (C := Try.checked) false ⟨#[], #[.int .i64 0, .slice none 0 0, .slice none 0 0], []⟩ 8 (by kernel_rfl) (by kernel_rfl) (by kernel_rfl) (by kernel_rfl)) ?_
  intro W base args ds gs before hval0 hW hcnd _
  have hval : ∀ (j : Nat) t v, Try.f14.params[j]? = some t → args[j]? = some v → Value.okWide Try.prog W .any base t v := hval0
  have hW' := hW
  obtain ⟨p, q, hA0, hV, rfl, hfz, hnd⟩ := hW
  have hA : DataW.TrodAll enc Try.prog W 0 (fun _ => true) true Try.f14.params.toList args.toList ds p := hA0
  rw [Try.params14] at hA hval
  obtain ⟨v0, vs0, d0, ds0, p0, q0, hargs, rfl, rfl, h0, r0⟩ := trodAll_cons hA
  obtain ⟨v1, vs1, d1, ds1, p1, q1, rfl, rfl, rfl, h1, r1⟩ := trodAll_cons r0
  obtain ⟨v2, vs2, d2, ds2, p2, q2, rfl, rfl, rfl, h2, r2⟩ := trodAll_cons r1
  obtain ⟨rfl, rfl, rfl⟩ := trodAll_nil r2
  obtain rfl : args = #[v0, v1, v2] := by cases args; simp_all
  obtain ⟨rfl, rfl⟩ := trodVars_none hV
  obtain ⟨x0, rfl, rfl, rfl, w0⟩ := open_int Try.underlying3 (hval 0 3 v0 rfl rfl) h0
  obtain ⟨a1, len1, cap1, rfl⟩ := okWide_slice Try.underlying22 (hval 1 22 v1 rfl rfl)
  have k1 := h1
  have lt1 : ∀ x ∈ p1, x.block < W.heap.size := by obtain ⟨m, hm⟩ := k1; exact DataW.trod_lt m _ _ _ hm
  obtain ⟨z1, hv1, hw1, _, hm1⟩ := open_Fr h1
  obtain ⟨a2, len2, cap2, rfl⟩ := okWide_slice Try.underlying22 (hval 2 22 v2 rfl rfl)
  have k2 := h2
  have lt2 : ∀ x ∈ p2, x.block < W.heap.size := by obtain ⟨m, hm⟩ := k2; exact DataW.trod_lt m _ _ _ hm
  obtain ⟨z2, hv2, hw2, _, hm2⟩ := open_Fr h2
  clear hA0 hval0
  refine (walk x0 _ z1 _ z2 W (wfI w0) hv1 hw1 hm1 hv2 hw2 hm2).mono fun e W' ⟨he, bel⟩ => ?_
  subst he
  exact ⟨_, rfl, _, _, _, [], _, [], hW', trodAll_mk1 (shut_bool Try.underlying4 _), (trodAll_cons_mk (shut_int Try.underlying3 w0) (trodAll_cons_mk (Below.trod laidOut (by kernel_rfl) (of_decide_eq_true (by kernel_rfl)) k1 bel lt1) (trodAll_cons_mk (Below.trod laidOut (by kernel_rfl) (of_decide_eq_true (by kernel_rfl)) k2 bel lt2) trodAll_mk0))), rfl, bel.frame _, fun h => by cases h⟩

theorem closed : joinedFacts Try.prog 14 Try.f14 Rows.fnExactBillJoinSpec Rows.fnExactBillJoinRow = true := by
  delta joinedFacts
  refine and_t (and_t (and_t (and_t (and_t (and_t (and_t ?_ mayE) (liftE rfl)) (makeE rfl)) ?_) ?_) ?_) ?_
  all_goals kernel_rfl
theorem over : Rows.fnExactBillJoinRow.holds Try.pinned (OpenSpec.ofChange Rows.fnExactBillJoinSpec) :=
  OpenClaim.holds_of_wide 14 Try.f14 rfl rfl rfl rfl rfl rfl rfl ⟨rfl, rfl, rfl, rfl, rfl⟩ rfl rfl rfl rfl rfl (by kernel_rfl) Try.func14 closed
    (of_decide_eq_true (by kernel_rfl)) (by unfold Func.isWrapper; first | (rw [if_pos (by decide +kernel)]; kernel_rfl) | (rw [if_neg (by decide +kernel)]; exact ⟨rfl, rfl⟩))
    (fun os started H enc _ => lifted os started H enc)

theorem proved : Rows.FnExactBillJoinSaid := over
#print axioms proved
end Go.Proofs.Ytmdcpigobfhckaa.lawFnExactBillJoin
