/- The law FnExactPostTable holds at every input. No condition. -/
import Derived.Test.YtmkcnoaphoiiaaaOJ
import Derived.Test.YtmkcnoaphoiiaaaJG
import Derived.Test.YtmkcnoaphoiiaaaJH
import Derived.Test.YtmkcnoaphoiiaaaJI
import Derived.Test.YtmkcnoaphoiiaaaM5
import Derived.Test.YtmkcnoaphoiiaaaJS
import Derived.Test.YtmkcnoaphoiiaaaIC
namespace Go.Proofs.Ytmkcnoaphoiiaaa.lawFnExactPostTable
open Go.ChangeShapes Go.WideShapes Go.ChangeAt Go.RowKit
set_option linter.unusedVariables false

set_option maxRecDepth 100000 in
set_option maxHeartbeats 2000000 in
theorem walk (a0 : Int) (v1 : Value) (l1 : List (List Tz)) (a2 : Int) (a3 : Int) (a4 : Int) (w : World) (wa0 : W64 a0) (hv1 : NtIn w v1 l1) (hm1 : l1.length ≤ maxLen) (hn1 : ∀ i, i < l1.length → (coach l1 i).length ≤ maxLen) (wa2 : W64 a2) (wa3 : W64 a3) (wa4 : W64 a4) :
    Calls Try.prog 6 #[.int .i64 a0, v1, .int .i64 a2, .int .i64 a3, .int .i64 a4] w fun e w' => e = .returned (.bool true) ∧ Below w.heap.size w w' := by
  by_cases hl1 : totN l1 ≤ 1048576
  · have E1 : szNt 1048576 l1 = 1048576 - (totN l1 : Int) := by unfold szNt; rw [if_neg (by omega)]
    have ht1 : totTo l1 l1.length ≤ 1048576 := by unfold totN at hl1; omega
    have hk1 : l1.length ≤ 1048576 := by unfold totN at hl1; omega
    have Hlb := Lib.hid (show (ptX a0 l1 a2 a3 a4).length ≤ 1048576 from (Nat.le_trans ptX_len (by decide)))
    go_enter Try.func6, Try.ntmps6
    go_wp2_with fail
    refine (szStopSS_gen _ l1 _ _ hv1 (by decide) (by decide) hm1 hn1).mono ?_; rintro e w' ⟨rfl, rfl⟩
    rw [E1]
    clear E1
    go_wp2_with fail
    refine (toStopSS_any _ l1 _ hv1 hl1).mono ?_; rintro e w1 ⟨b1, ds1, cs1, rfl, own1, bel1, nn1⟩
    have lo1 := own1.lo
    have z1 := bel1.size
    have B1 := bel1
    clear bel1
    go_wp2_with fail
    refine (postTable1_any a0 _ l1 a2 a3 a4 _ (own1.ins (Nat.le_refl _)) (Nat.le_succ_of_le hl1) wa0).mono ?_; rintro e w2 ⟨adw, capw, rfl, hcw, how_2, hblkw, bel2⟩
    clear own1
    have z2 := bel2.size
    have B2 := B1.trans (bel2.mono B1.size)
    clear B1
    clear bel2
    generalize hxs : ptX a0 l1 a2 a3 a4 = xs at *
    generalize hok : okT7 a0 l1 a2 a3 a4 = ok at *
    have Hxs := Lib.hid hxs; clear hxs
    have Hok := Lib.hid hok; clear hok
    go_wp2_with fail
    refine (toStopSS_any _ l1 _ (hv1.below B2) hl1).mono ?_; rintro e w3 ⟨b3, ds3, cs3, rfl, own3, bel3, nn3⟩
    have lo3 := own3.lo
    have z3 := bel3.size
    have how_3 := how_2.below bel3
    clear how_2
    have B3 := B2.trans (bel3.mono B2.size)
    clear B2
    clear bel3
    go_wp2_with fail
    refine (postTable2_any a0 _ l1 a2 a3 a4 _ (own3.ins (Nat.le_refl _)) (Nat.le_succ_of_le hl1)).mono ?_; rintro e w4 ⟨adg, capg, he, hcg, hog_4, hblkg, bel4⟩
    rw [Hxs.out, Hok.out] at he
    rw [Hxs.out] at hcg hog_4
    subst he
    have z4 := bel4.size
    have how_4 := how_3.below bel4
    clear how_3
    have x1_4 := own3.below bel4
    clear own3
    have B4 := B3.trans (bel4.mono B3.size)
    clear B3
    clear bel4
    have Dw1 := Lib.hid (show ∀ p, inBlk adw p → ¬ inStops w2.heap.size w3.heap.size b3 p from fun p hq hp => by have := hblkw _ hq; have := hp.1; have := hp.2.1; omega)
    have Dg1 := Lib.hid (show ∀ p, inBlk adg p → ¬ inStops w2.heap.size w3.heap.size b3 p from fun p hq hp => by have := hblkg _ hq; have := hp.1; have := hp.2.1; omega)
    have Lo1 := Lib.hid (show ∀ p, inStops w2.heap.size w3.heap.size b3 p → w.heap.size ≤ p from fun p hp => by have := hp.1; have := hp.2.1; omega)
    have Dwg := Lib.hid (show ∀ p, inBlk adw p → ¬ inBlk adg p from fun p hq hp => by have := hblkw _ hq; have := hblkg _ hp; omega)
    have Log := Lib.hid (show ∀ p, inBlk adg p → w.heap.size ≤ p from fun p hp => by have := hblkg _ hp; omega)
    clear z1 z2 z3 z4
    go_wp2_with fail
    refine (eqIntS_any _ _ xs xs _ (hog_4.ints hcg) (how_4.ints hcw) Hlb.out).mono ?_; rintro e w5 ⟨⟨x5, rfl, hx5⟩, bel5⟩
    obtain rfl : x5 = true := hx5.2 rfl
    clear hx5
    have how_5 := how_4.below bel5
    clear how_4
    have x1_5 := x1_4.below bel5
    clear x1_4
    have hog_5 := hog_4.below bel5
    clear hog_4
    have B5 := B4.trans (bel5.mono B4.size)
    clear B4
    clear bel5
    go_wp2_with fail
    refine (toStopSS_any _ l1 _ (hv1.below B5) hl1).mono ?_; rintro e w6 ⟨b6, ds6, cs6, rfl, own6, bel6, nn6⟩
    have lo6 := own6.lo
    have z6 := bel6.size
    have how_6 := how_5.below bel6
    clear how_5
    have x1_6 := x1_5.below bel6
    clear x1_5
    have hog_6 := hog_5.below bel6
    clear hog_5
    have B6 := B5.trans (bel6.mono B5.size)
    clear B5
    clear bel6
    go_wp2_with fail
    refine (eqStopSS_any _ _ l1 l1 _ (x1_6.ins (Nat.le_refl _)) (own6.ins (Nat.le_refl _)) hl1).mono ?_; rintro e w7 ⟨⟨x7, rfl, hx7⟩, bel7⟩
    obtain rfl : x7 = true := hx7.2 rfl
    clear hx7
    clear own6
    have how_7 := how_6.below bel7
    clear how_6
    have x1_7 := x1_6.below bel7
    clear x1_6
    have hog_7 := hog_6.below bel7
    clear hog_6
    have B7 := B6.trans (bel7.mono B6.size)
    clear B6
    clear bel7
    go_wp2_with fail
    refine (markStopSS_own w2.heap.size w3.heap.size b3 _ ds3 cs3 l1 1 _ x1_7 hl1 (by omega) (by omega)).mono ?_; rintro e w8 ⟨rfl, _, t8⟩
    clear x1_7
    have B8 : Below w.heap.size w w8 := B7.trans (t8.below Lo1.out B7.size)
    clear B7
    have hog_8 := hog_7.touch t8 Dg1.out
    clear hog_7
    have how_8 := how_7.touch t8 Dw1.out
    clear how_7
    clear t8
    go_wp2_with fail
    refine (eqIntS_any _ _ xs xs _ (hog_8.ints hcg) (how_8.ints hcw) Hlb.out).mono ?_; rintro e w9 ⟨⟨x9, rfl, hx9⟩, bel9⟩
    obtain rfl : x9 = true := hx9.2 rfl
    clear hx9
    have how_9 := how_8.below bel9
    clear how_8
    have hog_9 := hog_8.below bel9
    clear hog_8
    have B9 := B8.trans (bel9.mono B8.size)
    clear B8
    clear bel9
    go_wp2_with fail
    refine (markIntS_any adg capg xs 1 _ hog_9 Hlb.out (by omega) (by omega)).mono ?_; rintro e w10 ⟨rfl, hog_10, t10⟩
    clear hog_9
    have B10 : Below w.heap.size w w10 := B9.trans (t10.below Log.out B9.size)
    clear B9
    have how_10 := how_9.touch t10 Dwg.out
    clear how_9 t10
    go_wp2_with fail
    refine (heldIntS_any adg capg xs.length 1 _ hog_10 Hlb.out (by omega) (by omega)).mono ?_; rintro e w' ⟨rfl, rfl⟩
    go_wp2_with fail
    refine (toStopSS_any _ l1 _ (hv1.below B10) hl1).mono ?_; rintro e w11 ⟨b11, ds11, cs11, rfl, own11, bel11, nn11⟩
    have lo11 := own11.lo
    have z11 := bel11.size
    have how_11 := how_10.below bel11
    clear how_10
    have hog_11 := hog_10.below bel11
    clear hog_10
    have B11 := B10.trans (bel11.mono B10.size)
    clear B10
    clear bel11
    go_wp2_with fail
    refine (postTable2_any a0 _ l1 a2 a3 a4 _ (own11.ins (Nat.le_refl _)) (Nat.le_succ_of_le hl1)).mono ?_; rintro e w12 ⟨adh, caph, he, hch, hoh_12, hblkh, bel12⟩
    rw [Hxs.out, Hok.out] at he
    rw [Hxs.out] at hch hoh_12
    subst he
    clear own11
    have how_12 := how_11.below bel12
    clear how_11
    have hog_12 := hog_11.below bel12
    clear hog_11
    have B12 := B11.trans (bel12.mono B11.size)
    clear B11
    clear bel12
    go_wp2_with fail
    refine (eqIntS_any _ _ xs xs _ (hoh_12.ints hch) (how_12.ints hcw) Hlb.out).mono ?_; rintro e w13 ⟨⟨x13, rfl, hx13⟩, bel13⟩
    obtain rfl : x13 = true := hx13.2 rfl
    clear hx13
    clear hoh_12
    clear how_12
    have hog_13 := hog_12.below bel13
    clear hog_12
    have B13 := B12.trans (bel13.mono B12.size)
    clear B12
    clear bel13
    go_wp2_with fail
    refine (heldIntS_any adg capg xs.length 1 _ hog_13 Hlb.out (by omega) (by omega)).mono ?_; rintro e w' ⟨rfl, rfl⟩
    go_wp2
    go_ret
    exact ⟨rfl, B13⟩
  · have E1 : szNt 1048576 l1 = -1 := by unfold szNt; rw [if_pos (by omega)]
    go_enter Try.func6, Try.ntmps6
    go_wp2_with fail
    refine (szStopSS_gen _ l1 _ _ hv1 (by decide) (by decide) hm1 hn1).mono ?_; rintro e w' ⟨rfl, rfl⟩
    rw [E1]
    clear E1
    go_wp2
    go_ret
    exact ⟨rfl, Below.refl _ _⟩

set_option maxRecDepth 100000 in
theorem lifted (os : Os) (started : os.Started) (H : Type) (enc : TypeId × Value → H) :
    ReturnsInHanded {} Try.checked os 6 .any (Rows.fnExactPostTableSpec.pre6 enc Try.prog Try.f6 Rows.fnExactPostTableRow.domain false) (Rows.fnExactPostTableSpec.post enc Try.prog Try.f6 false true false false) := by
  refine returnsInHanded_of_change (C := Try.checked) own started (by kernel_rfl) Try.func6
    (ChangeSpec.witness6 (enc := enc) (C := Try.checked) false ⟨#[], #[.int .i64 0, .slice none 0 0, .int .i64 0, .int .i64 0, .int .i64 0], []⟩ 8 (by kernel_rfl) (by kernel_rfl) (by kernel_rfl) (by kernel_rfl)) ?_
  intro W base args ds gs before hval0 hW hcnd _
  have hval : ∀ (j : Nat) t v, Try.f6.params[j]? = some t → args[j]? = some v → Value.okWide Try.prog W .any base t v := hval0
  have hW' := hW
  obtain ⟨p, q, hA0, hV, rfl, hfz, hnd⟩ := hW
  have hA : DataW.TrodAll enc Try.prog W 0 (fun _ => true) true Try.f6.params.toList args.toList ds p := hA0
  rw [Try.params6] at hA hval
  obtain ⟨v0, vs0, d0, ds0, p0, q0, hargs, rfl, rfl, h0, r0⟩ := trodAll_cons hA
  obtain ⟨v1, vs1, d1, ds1, p1, q1, rfl, rfl, rfl, h1, r1⟩ := trodAll_cons r0
  obtain ⟨v2, vs2, d2, ds2, p2, q2, rfl, rfl, rfl, h2, r2⟩ := trodAll_cons r1
  obtain ⟨v3, vs3, d3, ds3, p3, q3, rfl, rfl, rfl, h3, r3⟩ := trodAll_cons r2
  obtain ⟨v4, vs4, d4, ds4, p4, q4, rfl, rfl, rfl, h4, r4⟩ := trodAll_cons r3
  obtain ⟨rfl, rfl, rfl⟩ := trodAll_nil r4
  obtain rfl : args = #[v0, v1, v2, v3, v4] := by cases args; simp_all
  obtain ⟨rfl, rfl⟩ := trodVars_none hV
  obtain ⟨x0, rfl, rfl, rfl, w0⟩ := open_int Try.underlying3 (hval 0 3 v0 rfl rfl) h0
  obtain ⟨a1, len1, cap1, rfl⟩ := okWide_slice Try.underlying22 (hval 1 22 v1 rfl rfl)
  have k1 := h1
  have lt1 : ∀ x ∈ p1, x.block < W.heap.size := by obtain ⟨m, hm⟩ := k1; exact DataW.trod_lt m _ _ _ hm
  obtain ⟨z1, hv1, hm1, hn1⟩ := open_Nt h1
  obtain ⟨x2, rfl, rfl, rfl, w2⟩ := open_int Try.underlying3 (hval 2 3 v2 rfl rfl) h2
  obtain ⟨x3, rfl, rfl, rfl, w3⟩ := open_int Try.underlying3 (hval 3 3 v3 rfl rfl) h3
  obtain ⟨x4, rfl, rfl, rfl, w4⟩ := open_int Try.underlying3 (hval 4 3 v4 rfl rfl) h4
  clear hA0 hval0
  refine (walk x0 _ z1 x2 x3 x4 W (wfI w0) hv1 hm1 hn1 (wfI w2) (wfI w3) (wfI w4)).mono fun e W' ⟨he, bel⟩ => ?_
  subst he
  exact ⟨_, rfl, _, _, _, [], _, [], hW', trodAll_mk1 (shut_bool Try.underlying4 _), (trodAll_cons_mk (shut_int Try.underlying3 w0) (trodAll_cons_mk (Below.trod laidOut (by kernel_rfl) (of_decide_eq_true (by kernel_rfl)) k1 bel lt1) (trodAll_cons_mk (shut_int Try.underlying3 w2) (trodAll_cons_mk (shut_int Try.underlying3 w3) (trodAll_cons_mk (shut_int Try.underlying3 w4) trodAll_mk0))))), rfl, bel.frame _, fun h => by cases h⟩

theorem closed : joinedFacts Try.prog 6 Try.f6 Rows.fnExactPostTableSpec Rows.fnExactPostTableRow = true := by
  delta joinedFacts
  refine and_t (and_t (and_t (and_t (and_t (and_t (and_t ?_ mayE) (liftE rfl)) (makeE rfl)) ?_) ?_) ?_) ?_
  all_goals kernel_rfl
theorem over : Rows.fnExactPostTableRow.holds Try.pinned (OpenSpec.ofChange Rows.fnExactPostTableSpec) :=
  OpenClaim.holds_of_wide 6 Try.f6 rfl rfl rfl rfl rfl rfl rfl ⟨rfl, rfl, rfl, rfl, rfl⟩ rfl rfl rfl rfl rfl (by kernel_rfl) Try.func6 closed
    (of_decide_eq_true (by kernel_rfl)) (by unfold Func.isWrapper; first | (rw [if_pos (by decide +kernel)]; kernel_rfl) | (rw [if_neg (by decide +kernel)]; exact ⟨rfl, rfl⟩))
    (fun os started H enc _ => lifted os started H enc)

theorem proved : Rows.FnExactPostTableSaid := over
#print axioms proved
end Go.Proofs.Ytmkcnoaphoiiaaa.lawFnExactPostTable
