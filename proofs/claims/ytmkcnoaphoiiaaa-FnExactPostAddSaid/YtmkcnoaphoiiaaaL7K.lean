/- The law FnExactPostAdd holds at every input. No condition. -/
import Derived.Test.YtmkcnoaphoiiaaaOJ
import Derived.Test.YtmkcnoaphoiiaaaJG
import Derived.Test.YtmkcnoaphoiiaaaJH
import Derived.Test.YtmkcnoaphoiiaaaJI
import Derived.Test.YtmkcnoaphoiiaaaJO
namespace Go.Proofs.Ytmkcnoaphoiiaaa.lawFnExactPostAdd
open Go.ChangeShapes Go.WideShapes Go.ChangeAt Go.RowKit
set_option linter.unusedVariables false

set_option maxRecDepth 100000 in
set_option maxHeartbeats 2000000 in
theorem walk (a0 : Int) (v1 : Value) (l1 : List (List Tz)) (v2 : Value) (l2 : List Tz) (w : World) (wa0 : W64 a0) (hv1 : NtIn w v1 l1) (hm1 : l1.length ≤ maxLen) (hn1 : ∀ i, i < l1.length → (coach l1 i).length ≤ maxLen) (hv2 : TzIn w v2 l2) (hm2 : l2.length ≤ maxLen) :
    Calls Try.prog 13 #[.int .i64 a0, v1, v2] w fun e w' => e = .returned (.bool true) ∧ Below w.heap.size w w' := by
  by_cases hl1 : totN l1 ≤ 1048576
  · have E1 : szNt 1048576 l1 = 1048576 - (totN l1 : Int) := by unfold szNt; rw [if_neg (by omega)]
    have ht1 : totTo l1 l1.length ≤ 1048576 := by unfold totN at hl1; omega
    have hk1 : l1.length ≤ 1048576 := by unfold totN at hl1; omega
    by_cases hs2 : totN l1 + l2.length ≤ 1048576
    · have hl2 : l2.length ≤ 1048576 := by omega
      have E2 : szI (1048576 - (totN l1 : Int)) l2.length = 1048576 - (totN l1 : Int) - (l2.length : Int) := by unfold szI; rw [if_neg (by omega)]
      have Hlb := Lib.hid (show totN (adX a0 l1 l2) ≤ 1048576 from adX_tot)
      go_enter Try.func13, Try.ntmps13
      go_wp2_with fail
      refine (szStopSS_gen _ l1 _ _ hv1 (by decide) (by decide) hm1 hn1).mono ?_; rintro e w' ⟨rfl, rfl⟩
      rw [E1]
      clear E1
      go_wp2_with fail
      refine (szStopS_gen _ l2 _ _ hv2 (by omega) (by omega) hm2).mono ?_; rintro e w' ⟨rfl, rfl⟩
      rw [E2]
      clear E2
      go_wp2_with fail
      refine (toStopSS_any _ l1 _ hv1 hl1).mono ?_; rintro e w1 ⟨b1, ds1, cs1, rfl, own1, bel1, nn1⟩
      have lo1 := own1.lo
      have z1 := bel1.size
      have B1 := bel1
      clear bel1
      go_wp2_with fail
      refine (toStopS_any _ l2 _ (hv2.below B1) hl2).mono ?_; rintro e w2 ⟨b2, rfl, hb2, hlt2, hat2, hrm2, bel2⟩
      have own2 : OwnTz w2 (some ⟨b2, 0, none⟩) l2 := fun _ => ⟨b2, rfl, hlt2, hat2, hrm2⟩
      clear hat2 hrm2
      have z2 := bel2.size
      have s1_2 := own1.below bel2
      clear own1
      have B2 := B1.trans (bel2.mono B1.size)
      clear B1
      clear bel2
      go_wp2_with fail
      refine (postAdd1_any a0 _ _ _ _ _ _ l1 _ _ l2 _ s1_2 nn1 own2 hs2).mono ?_; rintro e w3 ⟨bw, capw, dsw, csw, rfl, hcw, how_3, bel3⟩
      have low := how_3.lo
      clear s1_2
      clear own2
      have z3 := bel3.size
      have B3 := B2.trans (bel3.mono B2.size)
      clear B2
      clear bel3
      generalize hxs : adX a0 l1 l2 = xs at *
      generalize hok : adOk a0 l1 l2 = ok at *
      have Hxs := Lib.hid hxs; clear hxs
      have Hok := Lib.hid hok; clear hok
      go_wp2_with fail
      refine (toStopSS_any _ l1 _ (hv1.below B3) hl1).mono ?_; rintro e w4 ⟨b4, ds4, cs4, rfl, own4, bel4, nn4⟩
      have lo4 := own4.lo
      have z4 := bel4.size
      have how_4 := how_3.below bel4
      clear how_3
      have B4 := B3.trans (bel4.mono B3.size)
      clear B3
      clear bel4
      go_wp2_with fail
      refine (toStopS_any _ l2 _ (hv2.below B4) hl2).mono ?_; rintro e w5 ⟨b5, rfl, hb5, hlt5, hat5, hrm5, bel5⟩
      have own5 : OwnTz w5 (some ⟨b5, 0, none⟩) l2 := fun _ => ⟨b5, rfl, hlt5, hat5, hrm5⟩
      clear hat5 hrm5
      have z5 := bel5.size
      have how_5 := how_4.below bel5
      clear how_4
      have x1_5 := own4.below bel5
      clear own4
      have B5 := B4.trans (bel5.mono B4.size)
      clear B4
      clear bel5
      go_wp2_with fail
      refine (postAdd2_any a0 _ _ _ _ _ _ l1 _ _ l2 _ x1_5 nn4 own5 hs2).mono ?_; rintro e w6 ⟨bg, capg, dsg, csg, he, hcg, hog_6, bel6⟩
      have log := hog_6.lo
      rw [Hxs.out, Hok.out] at he
      rw [Hxs.out] at hcg hog_6
      subst he
      have z6 := bel6.size
      have how_6 := how_5.below bel6
      clear how_5
      have x1_6 := x1_5.below bel6
      clear x1_5
      have x2_6 := own5.below bel6
      clear own5
      have B6 := B5.trans (bel6.mono B5.size)
      clear B5
      clear bel6
      have Dw1 := Lib.hid (show ∀ p, w2.heap.size ≤ p → p < w3.heap.size → ¬ inStops w3.heap.size w4.heap.size b4 p from fun p h1 h2 hp => by have := hp.1; have := hp.2.1; omega)
      have Dg1 := Lib.hid (show ∀ p, w5.heap.size ≤ p → p < w6.heap.size → ¬ inStops w3.heap.size w4.heap.size b4 p from fun p h1 h2 hp => by have := hp.1; have := hp.2.1; omega)
      have Lo1 := Lib.hid (show ∀ p, inStops w3.heap.size w4.heap.size b4 p → w.heap.size ≤ p from fun p hp => by have := hp.1; have := hp.2.1; omega)
      have Dx21 := Lib.hid (show ∀ p, inBlk (some ⟨b5, 0, none⟩) p → ¬ inStops w3.heap.size w4.heap.size b4 p from fun p hq hp => by obtain ⟨o, ho⟩ := hq; cases ho; have := hp.1; have := hp.2.1; omega)
      have Dw2 := Lib.hid (show ∀ p, w2.heap.size ≤ p → p < w3.heap.size → ¬ inBlk (some ⟨b5, 0, none⟩) p from fun p h1 h2 hp => by obtain ⟨o, ho⟩ := hp; cases ho; omega)
      have Dg2 := Lib.hid (show ∀ p, w5.heap.size ≤ p → p < w6.heap.size → ¬ inBlk (some ⟨b5, 0, none⟩) p from fun p h1 h2 hp => by obtain ⟨o, ho⟩ := hp; cases ho; omega)
      have Lo2 := Lib.hid (show ∀ p, inBlk (some ⟨b5, 0, none⟩) p → w.heap.size ≤ p from fun p hp => by obtain ⟨o, ho⟩ := hp; cases ho; omega)
      have Dwg := Lib.hid (show ∀ p, w2.heap.size ≤ p → p < w3.heap.size → ¬ inStops w5.heap.size w6.heap.size bg p from fun p h1 h2 hp => by have := hp.1; have := hp.2.1; omega)
      have Log := Lib.hid (show ∀ p, inStops w5.heap.size w6.heap.size bg p → w.heap.size ≤ p from fun p hp => by have := hp.1; have := hp.2.1; omega)
      clear z1 z2 z3 z4 z5 z6
      go_wp2_with fail
      refine (eqStopSS_any _ _ xs xs _ (hog_6.ins hcg) (how_6.ins hcw) Hlb.out).mono ?_; rintro e w7 ⟨⟨x7, rfl, hx7⟩, bel7⟩
      obtain rfl : x7 = true := hx7.2 rfl
      clear hx7
      have how_7 := how_6.below bel7
      clear how_6
      have x1_7 := x1_6.below bel7
      clear x1_6
      have x2_7 := x2_6.below bel7
      clear x2_6
      have hog_7 := hog_6.below bel7
      clear hog_6
      have B7 := B6.trans (bel7.mono B6.size)
      clear B6
      clear bel7
      go_wp2_with fail
      refine (toStopSS_any _ l1 _ (hv1.below B7) hl1).mono ?_; rintro e w8 ⟨b8, ds8, cs8, rfl, own8, bel8, nn8⟩
      have lo8 := own8.lo
      have z8 := bel8.size
      have how_8 := how_7.below bel8
      clear how_7
      have x1_8 := x1_7.below bel8
      clear x1_7
      have x2_8 := x2_7.below bel8
      clear x2_7
      have hog_8 := hog_7.below bel8
      clear hog_7
      have B8 := B7.trans (bel8.mono B7.size)
      clear B7
      clear bel8
      go_wp2_with fail
      refine (eqStopSS_any _ _ l1 l1 _ (x1_8.ins (Nat.le_refl _)) (own8.ins (Nat.le_refl _)) hl1).mono ?_; rintro e w9 ⟨⟨x9, rfl, hx9⟩, bel9⟩
      obtain rfl : x9 = true := hx9.2 rfl
      clear hx9
      clear own8
      have how_9 := how_8.below bel9
      clear how_8
      have x1_9 := x1_8.below bel9
      clear x1_8
      have x2_9 := x2_8.below bel9
      clear x2_8
      have hog_9 := hog_8.below bel9
      clear hog_8
      have B9 := B8.trans (bel9.mono B8.size)
      clear B8
      clear bel9
      go_wp2_with fail
      refine (toStopS_any _ l2 _ (hv2.below B9) hl2).mono ?_; rintro e w10 ⟨b10, rfl, hb10, hlt10, hat10, hrm10, bel10⟩
      have own10 : OwnTz w10 (some ⟨b10, 0, none⟩) l2 := fun _ => ⟨b10, rfl, hlt10, hat10, hrm10⟩
      clear hat10 hrm10
      have z10 := bel10.size
      have how_10 := how_9.below bel10
      clear how_9
      have x1_10 := x1_9.below bel10
      clear x1_9
      have x2_10 := x2_9.below bel10
      clear x2_9
      have hog_10 := hog_9.below bel10
      clear hog_9
      have B10 := B9.trans (bel10.mono B9.size)
      clear B9
      clear bel10
      go_wp2_with fail
      refine (eqStopS_any _ _ l2 l2 _ (x2_10.ins (Nat.le_refl _)) (own10.ins (Nat.le_refl _)) hl2).mono ?_; rintro e w11 ⟨⟨x11, rfl, hx11⟩, bel11⟩
      obtain rfl : x11 = true := hx11.2 rfl
      clear hx11
      clear own10
      have how_11 := how_10.below bel11
      clear how_10
      have x1_11 := x1_10.below bel11
      clear x1_10
      have x2_11 := x2_10.below bel11
      clear x2_10
      have hog_11 := hog_10.below bel11
      clear hog_10
      have B11 := B10.trans (bel11.mono B10.size)
      clear B10
      clear bel11
      go_wp2_with fail
      refine (markStopSS_own w3.heap.size w4.heap.size b4 _ ds4 cs4 l1 1 _ x1_11 hl1 (by omega) (by omega)).mono ?_; rintro e w12 ⟨rfl, _, t12⟩
      clear x1_11
      have B12 : Below w.heap.size w w12 := B11.trans (t12.below Lo1.out B11.size)
      clear B11
      have hog_12 := hog_11.touch t12 Dg1.out
      clear hog_11
      have how_12 := how_11.touch t12 Dw1.out
      clear how_11
      have x2_12 := x2_11.touch t12 Dx21.out
      clear x2_11
      clear t12
      go_wp2_with fail
      refine (markStopS_own _ _ l2 _ _ x2_12 hl2 (by omega) (by omega)).mono ?_; rintro e w13 ⟨rfl, _, t13⟩
      clear x2_12
      have B13 : Below w.heap.size w w13 := B12.trans (t13.below Lo2.out B12.size)
      clear B12
      have hog_13 := hog_12.touch t13 Dg2.out
      clear hog_12
      have how_13 := how_12.touch t13 Dw2.out
      clear how_12
      clear t13
      go_wp2_with fail
      refine (eqStopSS_any _ _ xs xs _ (hog_13.ins hcg) (how_13.ins hcw) Hlb.out).mono ?_; rintro e w14 ⟨⟨x14, rfl, hx14⟩, bel14⟩
      obtain rfl : x14 = true := hx14.2 rfl
      clear hx14
      have how_14 := how_13.below bel14
      clear how_13
      have hog_14 := hog_13.below bel14
      clear hog_13
      have B14 := B13.trans (bel14.mono B13.size)
      clear B13
      clear bel14
      have htx : totTo xs xs.length ≤ 1048576 := by have := Hlb.out; unfold totN at this; omega
      go_wp2_with fail
      refine (markStopSS_own w5.heap.size w6.heap.size bg capg dsg csg xs 1 _ hog_14 Hlb.out (by omega) (by omega)).mono ?_; rintro e w15 ⟨rfl, hog_15, t15⟩
      clear hog_14
      have B15 : Below w.heap.size w w15 := B14.trans (t15.below Log.out B14.size)
      clear B14
      have how_15 := how_14.touch t15 Dwg.out
      clear how_14 t15
      go_wp2_with fail
      refine (heldStopSS_any w5.heap.size w6.heap.size bg capg dsg csg xs 1 _ hog_15 Hlb.out (by omega) (by omega)).mono ?_; rintro e w' ⟨rfl, rfl⟩
      go_wp2_with fail
      refine (toStopSS_any _ l1 _ (hv1.below B15) hl1).mono ?_; rintro e w16 ⟨b16, ds16, cs16, rfl, own16, bel16, nn16⟩
      have lo16 := own16.lo
      have z16 := bel16.size
      have how_16 := how_15.below bel16
      clear how_15
      have hog_16 := hog_15.below bel16
      clear hog_15
      have B16 := B15.trans (bel16.mono B15.size)
      clear B15
      clear bel16
      go_wp2_with fail
      refine (toStopS_any _ l2 _ (hv2.below B16) hl2).mono ?_; rintro e w17 ⟨b17, rfl, hb17, hlt17, hat17, hrm17, bel17⟩
      have own17 : OwnTz w17 (some ⟨b17, 0, none⟩) l2 := fun _ => ⟨b17, rfl, hlt17, hat17, hrm17⟩
      clear hat17 hrm17
      have z17 := bel17.size
      have how_17 := how_16.below bel17
      clear how_16
      have hog_17 := hog_16.below bel17
      clear hog_16
      have u1_17 := own16.below bel17
      clear own16
      have B17 := B16.trans (bel17.mono B16.size)
      clear B16
      clear bel17
      go_wp2_with fail
      refine (postAdd2_any a0 _ _ _ _ _ _ l1 _ _ l2 _ u1_17 nn16 own17 hs2).mono ?_; rintro e w18 ⟨bh, caph, dsh, csh, he, hch, hoh_18, bel18⟩
      have loh := hoh_18.lo
      rw [Hxs.out, Hok.out] at he
      rw [Hxs.out] at hch hoh_18
      subst he
      clear u1_17
      clear own17
      have how_18 := how_17.below bel18
      clear how_17
      have hog_18 := hog_17.below bel18
      clear hog_17
      have B18 := B17.trans (bel18.mono B17.size)
      clear B17
      clear bel18
      go_wp2_with fail
      refine (eqStopSS_any _ _ xs xs _ (hoh_18.ins hch) (how_18.ins hcw) Hlb.out).mono ?_; rintro e w19 ⟨⟨x19, rfl, hx19⟩, bel19⟩
      obtain rfl : x19 = true := hx19.2 rfl
      clear hx19
      clear hoh_18
      clear how_18
      have hog_19 := hog_18.below bel19
      clear hog_18
      have B19 := B18.trans (bel19.mono B18.size)
      clear B18
      clear bel19
      go_wp2_with fail
      refine (heldStopSS_any w5.heap.size w6.heap.size bg capg dsg csg xs 1 _ hog_19 Hlb.out (by omega) (by omega)).mono ?_; rintro e w' ⟨rfl, rfl⟩
      go_wp2
      go_ret
      exact ⟨rfl, B19⟩
    · go_enter Try.func13, Try.ntmps13
      go_wp2_with fail
      refine (szStopSS_gen _ l1 _ _ hv1 (by decide) (by decide) hm1 hn1).mono ?_; rintro e w' ⟨rfl, rfl⟩
      rw [E1]
      clear E1
      go_wp2_with fail
      refine (szStopS_gen _ l2 _ _ hv2 (by omega) (by omega) hm2).mono ?_; rintro e w' ⟨rfl, rfl⟩
      have E2 : szI (1048576 - (totN l1 : Int)) l2.length = -1 := by unfold szI; rw [if_pos (by omega)]
      rw [E2]
      clear E2
      go_wp2
      go_ret
      exact ⟨rfl, Below.refl _ _⟩
  · have E1 : szNt 1048576 l1 = -1 := by unfold szNt; rw [if_pos (by omega)]
    go_enter Try.func13, Try.ntmps13
    go_wp2_with fail
    refine (szStopSS_gen _ l1 _ _ hv1 (by decide) (by decide) hm1 hn1).mono ?_; rintro e w' ⟨rfl, rfl⟩
    rw [E1]
    clear E1
    go_wp2
    go_ret
    exact ⟨rfl, Below.refl _ _⟩

set_option maxRecDepth 100000 in
theorem lifted (os : Os) (started : os.Started) (H : Type) (enc : TypeId × Value → H) :
    ReturnsInHanded {} Try.checked os 13 .any (Rows.fnExactPostAddSpec.pre6 enc Try.prog Try.f13 Rows.fnExactPostAddRow.domain false) (Rows.fnExactPostAddSpec.post enc Try.prog Try.f13 false true false false) := by
  refine returnsInHanded_of_change (C := Try.checked) own started (by kernel_rfl) Try.func13
    (ChangeSpec.witness6 (enc := enc) (C := Try.checked) false ⟨#[], #[.int .i64 0, .slice none 0 0, .slice none 0 0], []⟩ 8 (by kernel_rfl) (by kernel_rfl) (by kernel_rfl) (by kernel_rfl)) ?_
  intro W base args ds gs before hval0 hW hcnd _
  have hval : ∀ (j : Nat) t v, Try.f13.params[j]? = some t → args[j]? = some v → Value.okWide Try.prog W .any base t v := hval0
  have hW' := hW
  obtain ⟨p, q, hA0, hV, rfl, hfz, hnd⟩ := hW
  have hA : DataW.TrodAll enc Try.prog W 0 (fun _ => true) true Try.f13.params.toList args.toList ds p := hA0
  rw [Try.params13] at hA hval
  obtain ⟨v0, vs0, d0, ds0, p0, q0, hargs, rfl, rfl, h0, r0⟩ := trodAll_cons hA
  obtain ⟨v1, vs1, d1, ds1, p1, q1, rfl, rfl, rfl, h1, r1⟩ := trodAll_cons r0
  obtain ⟨v2, vs2, d2, ds2, p2, q2, rfl, rfl, rfl, h2, r2⟩ := trodAll_cons r1
  obtain ⟨rfl, rfl, rfl⟩ := trodAll_nil r2
  obtain rfl : args = #[v0, v1, v2] := by cases args; simp_all
  obtain ⟨rfl, rfl⟩ := trodVars_none hV
  obtain ⟨x0, rfl, rfl, rfl, w0⟩ := open_int Try.underlying3 (hval 0 3 v0 rfl rfl) h0
  obtain ⟨a1, len1, cap1, rfl⟩ := okWide_slice Try.underlying22 (hval 1 22 v1 rfl rfl)
  have k1 := h1
  have lt1 : ∀ x ∈ p1, x.block < W.heap.size := by obtain ⟨m, hm⟩ := k1; exact DataW.trod_lt m _ _ _ hm
  obtain ⟨z1, hv1, hm1, hn1⟩ := open_Nt h1
  obtain ⟨a2, len2, cap2, rfl⟩ := okWide_slice Try.underlying54 (hval 2 54 v2 rfl rfl)
  have k2 := h2
  have lt2 : ∀ x ∈ p2, x.block < W.heap.size := by obtain ⟨m, hm⟩ := k2; exact DataW.trod_lt m _ _ _ hm
  obtain ⟨z2, hv2, _, _, hm2⟩ := open_Tz h2
  clear hA0 hval0
  refine (walk x0 _ z1 _ z2 W (wfI w0) hv1 hm1 hn1 hv2 hm2).mono fun e W' ⟨he, bel⟩ => ?_
  subst he
  exact ⟨_, rfl, _, _, _, [], _, [], hW', trodAll_mk1 (shut_bool Try.underlying4 _), (trodAll_cons_mk (shut_int Try.underlying3 w0) (trodAll_cons_mk (Below.trod laidOut (by kernel_rfl) (of_decide_eq_true (by kernel_rfl)) k1 bel lt1) (trodAll_cons_mk (Below.trod laidOut (by kernel_rfl) (of_decide_eq_true (by kernel_rfl)) k2 bel lt2) trodAll_mk0))), rfl, bel.frame _, fun h => by cases h⟩

theorem closed : joinedFacts Try.prog 13 Try.f13 Rows.fnExactPostAddSpec Rows.fnExactPostAddRow = true := by
  delta joinedFacts
  refine and_t (and_t (and_t (and_t (and_t (and_t (and_t ?_ mayE) (liftE rfl)) (makeE rfl)) ?_) ?_) ?_) ?_
  all_goals kernel_rfl
theorem over : Rows.fnExactPostAddRow.holds Try.pinned (OpenSpec.ofChange Rows.fnExactPostAddSpec) :=
  OpenClaim.holds_of_wide 13 Try.f13 rfl rfl rfl rfl rfl rfl rfl ⟨rfl, rfl, rfl, rfl, rfl⟩ rfl rfl rfl rfl rfl (by kernel_rfl) Try.func13 closed
    (of_decide_eq_true (by kernel_rfl)) (by unfold Func.isWrapper; first | (rw [if_pos (by decide +kernel)]; kernel_rfl) | (rw [if_neg (by decide +kernel)]; exact ⟨rfl, rfl⟩))
    (fun os started H enc _ => lifted os started H enc)

theorem proved : Rows.FnExactPostAddSaid := over
#print axioms proved
end Go.Proofs.Ytmkcnoaphoiiaaa.lawFnExactPostAdd
