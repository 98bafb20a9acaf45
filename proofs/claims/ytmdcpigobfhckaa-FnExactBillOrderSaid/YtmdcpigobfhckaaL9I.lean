/- The law FnExactBillOrder holds at every input. No condition. -/
import Derived.Test.YtmdcpigobfhckaaOJ
import Derived.Test.YtmdcpigobfhckaaFOM
import Derived.Test.YtmdcpigobfhckaaFOR
import Derived.Test.YtmdcpigobfhckaaFB
import Derived.Test.YtmdcpigobfhckaaFC
import Derived.Test.YtmdcpigobfhckaaFD
namespace Go.Proofs.Ytmdcpigobfhckaa.lawFnExactBillOrder
open Go.ChangeShapes Go.WideShapes Go.ChangeAt Go.RowKit
set_option linter.unusedVariables false

set_option maxRecDepth 100000 in
set_option maxHeartbeats 2000000 in
theorem walk (a0 : Int) (v1 : Value) (l1 : List Fr) (w : World) (wa0 : W64 a0) (hv1 : FrIn w v1 l1) (hw1 : FrWf l1) (hm1 : l1.length ≤ maxLen) :
    Calls Try.prog 11 #[.int .i64 a0, v1] w fun e w' => e = .returned (.bool true) ∧ Below w.heap.size w w' := by
  have W1 := Lib.hid hw1; clear hw1
  by_cases hl1 : l1.length ≤ 1048576
  · have Hlb : Hid ((orderX a0 l1).length ≤ 1048576) := Lib.hid (orderX_short a0 l1)
    go_enter Try.func11, Try.ntmps11
    go_wp2_with fail
    refine (szParcelS_yes _ l1 _ hv1 hl1).mono ?_; rintro e w' ⟨rfl, rfl⟩
    go_wp2_with fail
    refine (toParcelS_any _ l1 _ hv1 hl1).mono ?_; rintro e w1 ⟨b1, rfl, hb1, hlt1, hr1, hm_1, bel1⟩
    have z1 := bel1.size
    have s1_1 := FrIn.row (cap := l1.length) hlt1 (Nat.le_refl _) hr1
    clear hr1
    have B1 := bel1
    clear bel1
    go_wp2_with fail
    refine (order1_out a0 _ l1 _ wa0 s1_1 hl1).mono ?_; rintro e w2 ⟨adw, capw, rfl, hcw, how_2, hblkw, bel2⟩
    clear s1_1
    have z2 := bel2.size
    have B2 := B1.trans (bel2.mono B1.size)
    clear B1
    clear bel2
    generalize hxs : orderX a0 l1 = xs at *
    generalize hok : validF a0 l1 = ok at *
    have Hxs := Lib.hid hxs; clear hxs
    have Hok := Lib.hid hok; clear hok
    go_wp2_with fail
    refine (toParcelS_any _ l1 _ (hv1.below B2) hl1).mono ?_; rintro e w3 ⟨b3, rfl, hb3, hlt3, hr3, hm_3, bel3⟩
    have z3 := bel3.size
    have how_3 := how_2.below bel3
    clear how_2
    have x1_3 := FrIn.row (cap := l1.length) hlt3 (Nat.le_refl _) hr3
    have hat3 := hr3
    clear hr3
    have B3 := B2.trans (bel3.mono B2.size)
    clear B2
    clear bel3
    have ox1_3 : OwnFr w3 (some ⟨b3, 0, none⟩) l1 := fun _ => ⟨b3, rfl, hlt3, hat3, hm_3⟩
    go_wp2_with fail
    refine (order2_any a0 _ _ l1 _ x1_3 hl1).mono ?_; rintro e w4 ⟨adg, capg, he, hcg, hog_4, hblkg, bel4⟩
    rw [Hxs.out, Hok.out] at he
    rw [Hxs.out] at hcg hog_4
    subst he
    have z4 := bel4.size
    have how_4 := how_3.below bel4
    clear how_3
    have x1_4 := x1_3.below bel4
    clear x1_3
    have ox1_4 := ox1_3.below bel4
    clear ox1_3
    have B4 := B3.trans (bel4.mono B3.size)
    clear B3
    clear bel4
    have dw1 := Lib.hid (show ∀ i, inBlk adw i → ¬ inBlk (some ⟨b3, 0, none⟩) i from fun i hi h => by obtain ⟨o, ho⟩ := h; cases ho; have := hblkw _ hi; omega)
    have dg1 := Lib.hid (show ∀ i, inBlk adg i → ¬ inBlk (some ⟨b3, 0, none⟩) i from fun i hi h => by obtain ⟨o, ho⟩ := h; cases ho; have := hblkg _ hi; omega)
    have lo1 := Lib.hid (show ∀ i, inBlk (some ⟨b3, 0, none⟩) i → w.heap.size ≤ i from fun i h => by obtain ⟨o, ho⟩ := h; cases ho; omega)
    have dwg := Lib.hid (show ∀ i, inBlk adw i → ¬ inBlk adg i from fun i hi h => by have := hblkw _ hi; have := hblkg _ h; omega)
    have log := Lib.hid (show ∀ i, inBlk adg i → w.heap.size ≤ i from fun i h => by have := hblkg _ h; omega)
    clear hblkw hblkg z1 z2 z3 z4 hb3 hlt3
    go_wp2_with fail
    refine (eqParcelS_any _ _ xs xs _ (hog_4.ins hcg) (how_4.ins hcw) Hlb.out).mono ?_; rintro e w5 ⟨⟨x5, rfl, hx5⟩, bel5⟩
    obtain rfl : x5 = true := hx5.2 rfl
    clear hx5
    have how_5 := how_4.below bel5
    clear how_4
    have x1_5 := x1_4.below bel5
    clear x1_4
    have ox1_5 := ox1_4.below bel5
    clear ox1_4
    have hog_5 := hog_4.below bel5
    clear hog_4
    have B5 := B4.trans (bel5.mono B4.size)
    clear B4
    clear bel5
    go_wp2_with fail
    refine (toParcelS_any _ l1 _ (hv1.below B5) hl1).mono ?_; rintro e w6 ⟨b6, rfl, hb6, hlt6, hr6, hm_6, bel6⟩
    have z6 := bel6.size
    have how_6 := how_5.below bel6
    clear how_5
    have x1_6 := x1_5.below bel6
    clear x1_5
    have ox1_6 := ox1_5.below bel6
    clear ox1_5
    have hog_6 := hog_5.below bel6
    clear hog_5
    have y1_6 := FrIn.row (cap := l1.length) hlt6 (Nat.le_refl _) hr6
    clear hr6
    have B6 := B5.trans (bel6.mono B5.size)
    clear B5
    clear bel6
    go_wp2_with fail
    refine (eqParcelS_any _ _ l1 l1 _ x1_6 y1_6 hl1).mono ?_; rintro e w7 ⟨⟨x7, rfl, hx7⟩, bel7⟩
    obtain rfl : x7 = true := hx7.2 rfl
    clear hx7
    clear x1_6 y1_6
    have how_7 := how_6.below bel7
    clear how_6
    have ox1_7 := ox1_6.below bel7
    clear ox1_6
    have hog_7 := hog_6.below bel7
    clear hog_6
    have B7 := B6.trans (bel7.mono B6.size)
    clear B6
    clear bel7
    go_wp2_with fail
    refine (markParcelS_own _ _ l1 1 _ ox1_7 hl1 (by omega) (by omega)).mono ?_; rintro e w8 ⟨rfl, _, t8⟩
    clear ox1_7
    have B8 : Below w.heap.size w w8 := B7.trans (t8.below lo1.out B7.size)
    clear B7
    have hog_8 := hog_7.touch t8 (fun i hi => dg1.out i hi)
    clear hog_7
    have how_8 := how_7.touch t8 (fun i hi => dw1.out i hi)
    clear how_7
    clear t8
    go_wp2_with fail
    refine (eqParcelS_any _ _ xs xs _ (hog_8.ins hcg) (how_8.ins hcw) Hlb.out).mono ?_; rintro e w9 ⟨⟨x9, rfl, hx9⟩, bel9⟩
    obtain rfl : x9 = true := hx9.2 rfl
    clear hx9
    have how_9 := how_8.below bel9
    clear how_8
    have hog_9 := hog_8.below bel9
    clear hog_8
    have B9 := B8.trans (bel9.mono B8.size)
    clear B8
    clear bel9
    go_wp2_with fail
    refine (markParcelS_own adg capg xs 1 _ hog_9 Hlb.out (by omega) (by omega)).mono ?_; rintro e w10 ⟨rfl, hog_10, t10⟩
    clear hog_9
    have B10 : Below w.heap.size w w10 := B9.trans (t10.below log.out B9.size)
    clear B9
    have how_10 := how_9.touch t10 (fun i hi => dwg.out i hi)
    clear how_9 t10
    go_wp2_with fail
    refine (heldParcelS_any adg capg xs.length 1 _ hog_10 Hlb.out (by omega) (by omega)).mono ?_; rintro e w' ⟨rfl, rfl⟩
    go_wp2_with fail
    refine (toParcelS_any _ l1 _ (hv1.below B10) hl1).mono ?_; rintro e w11 ⟨b11, rfl, hb11, hlt11, hr11, hm_11, bel11⟩
    have z11 := bel11.size
    have how_11 := how_10.below bel11
    clear how_10
    have hog_11 := hog_10.below bel11
    clear hog_10
    have u1_11 := FrIn.row (cap := l1.length) hlt11 (Nat.le_refl _) hr11
    clear hr11
    have B11 := B10.trans (bel11.mono B10.size)
    clear B10
    clear bel11
    go_wp2_with fail
    refine (order2_any a0 _ _ l1 _ u1_11 hl1).mono ?_; rintro e w12 ⟨adh, caph, he, hch, hoh, hblkh, bel12⟩
    rw [Hxs.out, Hok.out] at he
    rw [Hxs.out] at hch hoh
    subst he
    clear u1_11
    have how_12 := how_11.below bel12
    clear how_11
    have hog_12 := hog_11.below bel12
    clear hog_11
    have B12 := B11.trans (bel12.mono B11.size)
    clear B11
    clear bel12 hblkh
    go_wp2_with fail
    refine (eqParcelS_any _ _ xs xs _ (hoh.ins hch) (how_12.ins hcw) Hlb.out).mono ?_; rintro e w13 ⟨⟨x13, rfl, hx13⟩, bel13⟩
    obtain rfl : x13 = true := hx13.2 rfl
    clear hx13
    clear hoh how_12
    have hog_13 := hog_12.below bel13
    clear hog_12
    have B13 := B12.trans (bel13.mono B12.size)
    clear B12
    clear bel13
    go_wp2_with fail
    refine (heldParcelS_any adg capg xs.length 1 _ hog_13 Hlb.out (by omega) (by omega)).mono ?_; rintro e w' ⟨rfl, rfl⟩
    go_wp2
    go_ret
    exact ⟨rfl, B13⟩
  · go_enter Try.func11, Try.ntmps11
    go_wp2_with fail
    refine (szParcelS_no _ l1 _ hv1 hm1 hl1).mono ?_; rintro e w' ⟨rfl, rfl⟩
    go_wp2
    go_ret
    exact ⟨rfl, Below.refl _ _⟩

set_option maxRecDepth 100000 in
theorem lifted (os : Os) (started : os.Started) (H : Type) (enc : TypeId × Value → H) :
    ReturnsInHanded {} Try.checked os 11 .any (Rows.fnExactBillOrderSpec.pre6 enc Try.prog Try.f11 Rows.fnExactBillOrderRow.domain false) (Rows.fnExactBillOrderSpec.post enc Try.prog Try.f11 false true false false) := by
  refine returnsInHanded_of_change (C := Try.checked) own started (by kernel_rfl) Try.func11
    (ChangeSpec.witness6 (enc := enc) (C := Try.checked) false ⟨#[], #[.int .i64 0, .slice none 0 0], []⟩ 8 (by kernel_rfl) (by kernel_rfl) (by kernel_rfl) (by kernel_rfl)) ?_
  intro W base args ds gs before hval0 hW hcnd _
  have hval : ∀ (j : Nat) t v, Try.f11.params[j]? = some t → args[j]? = some v → Value.okWide Try.prog W .any base t v := hval0
  have hW' := hW
  obtain ⟨p, q, hA0, hV, rfl, hfz, hnd⟩ := hW
  have hA : DataW.TrodAll enc Try.prog W 0 (fun _ => true) true Try.f11.params.toList args.toList ds p := hA0
  rw [Try.params11] at hA hval
  obtain ⟨v0, vs0, d0, ds0, p0, q0, hargs, rfl, rfl, h0, r0⟩ := trodAll_cons hA
  obtain ⟨v1, vs1, d1, ds1, p1, q1, rfl, rfl, rfl, h1, r1⟩ := trodAll_cons r0
  obtain ⟨rfl, rfl, rfl⟩ := trodAll_nil r1
  obtain rfl : args = #[v0, v1] := by cases args; simp_all
  obtain ⟨rfl, rfl⟩ := trodVars_none hV
  obtain ⟨x0, rfl, rfl, rfl, w0⟩ := open_int Try.underlying3 (hval 0 3 v0 rfl rfl) h0
  obtain ⟨a1, len1, cap1, rfl⟩ := okWide_slice Try.underlying22 (hval 1 22 v1 rfl rfl)
  have k1 := h1
  have lt1 : ∀ x ∈ p1, x.block < W.heap.size := by obtain ⟨m, hm⟩ := k1; exact DataW.trod_lt m _ _ _ hm
  obtain ⟨z1, hv1, hw1, _, hm1⟩ := open_Fr h1
  clear hA0 hval0
  refine (walk x0 _ z1 W (wfI w0) hv1 hw1 hm1).mono fun e W' ⟨he, bel⟩ => ?_
  subst he
  exact ⟨_, rfl, _, _, _, [], _, [], hW', trodAll_mk1 (shut_bool Try.underlying4 _), (trodAll_cons_mk (shut_int Try.underlying3 w0) (trodAll_cons_mk (Below.trod laidOut (by kernel_rfl) (of_decide_eq_true (by kernel_rfl)) k1 bel lt1) trodAll_mk0)), rfl, bel.frame _, fun h => by cases h⟩

theorem closed : joinedFacts Try.prog 11 Try.f11 Rows.fnExactBillOrderSpec Rows.fnExactBillOrderRow = true := by
  delta joinedFacts
  refine and_t (and_t (and_t (and_t (and_t (and_t (and_t ?_ mayE) (liftE rfl)) (makeE rfl)) ?_) ?_) ?_) ?_
  all_goals kernel_rfl
theorem over : Rows.fnExactBillOrderRow.holds Try.pinned (OpenSpec.ofChange Rows.fnExactBillOrderSpec) :=
  OpenClaim.holds_of_wide 11 Try.f11 rfl rfl rfl rfl rfl rfl rfl ⟨rfl, rfl, rfl, rfl, rfl⟩ rfl rfl rfl rfl rfl (by kernel_rfl) Try.func11 closed
    (of_decide_eq_true (by kernel_rfl)) (by unfold Func.isWrapper; first | (rw [if_pos (by decide +kernel)]; kernel_rfl) | (rw [if_neg (by decide +kernel)]; exact ⟨rfl, rfl⟩))
    (fun os started H enc _ => lifted os started H enc)

theorem proved : Rows.FnExactBillOrderSaid := over
#print axioms proved
end Go.Proofs.Ytmdcpigobfhckaa.lawFnExactBillOrder
