/- The law FnExactStopsMeet holds at every input. No condition. -/
import Derived.Test.YthhceihmbgfpkaaSJ
import Derived.Test.YthhceihmbgfpkaaBO
namespace Go.Proofs.Ythhceihmbgfpkaa.lawFnExactStopsMeet
open Go.ChangeShapes Go.WideShapes Go.ChangeAt Go.RowKit
set_option linter.unusedVariables false

set_option maxHeartbeats 400000 in
theorem sz_yes (v : Value) (l : List Rd) (left : Int) (w : World) (hv : RoadsIn w v l) (h0 : (l.length : Int) ≤ left) (h1 : left ≤ 1048576) :
    Calls Try.prog 21 #[v, .int .i64 left] w fun e w' => e = .returned (.int .i64 (left - (l.length : Int))) ∧ w = w' := by
  obtain ⟨a, cap, rfl, ha⟩ := hv
  have Ha := Lib.hid ha; clear ha
  have hn : decide (left - (l.length : Int) < 0) = false := by simp only [decide_eq_false_iff_not]; omega
  go_enter Try.func21, Try.ntmps21
  go_wp2
  go_ret
  exact ⟨rfl, rfl⟩

set_option maxHeartbeats 400000 in
theorem sz_no (v : Value) (l : List Rd) (left : Int) (w : World) (hv : RoadsIn w v l) (hm : l.length ≤ maxLen) (h0 : left < (l.length : Int)) (h1 : left ≤ 1048576) (h2 : 0 ≤ left) :
    Calls Try.prog 21 #[v, .int .i64 left] w fun e w' => e = .returned (.int .i64 (-1)) ∧ w = w' := by
  obtain ⟨a, cap, rfl, ha⟩ := hv
  unfold maxLen at hm
  have Ha := Lib.hid ha; clear ha
  have hn : decide (left - (l.length : Int) < 0) = true := by simp only [decide_eq_true_eq]; omega
  go_enter Try.func21, Try.ntmps21
  go_wp2
  go_ret
  exact ⟨rfl, rfl⟩

set_option maxRecDepth 100000 in
set_option maxHeartbeats 1000000 in
theorem walk (n : Int) (va : Value) (a : List Rd) (vb : Value) (b : List Rd) (w : World) (_wn : W64 n) (hva : RoadsIn w va a) (_hwa : RdWf a) (hma : a.length ≤ maxLen) (hvb : RoadsIn w vb b) (_hwb : RdWf b) (hmb : b.length ≤ maxLen) :
    Calls Try.prog 14 #[.int .i64 n, va, vb] w fun e w' => e = .returned (.bool true) ∧ Below w.heap.size w w' := by
  by_cases hla : (a.length : Int) ≤ 1048576
  · by_cases hlb : (b.length : Int) ≤ 1048576 - (a.length : Int)
    · have ha9 : a.length ≤ 1048576 := by omega
      have hb9 : b.length ≤ 1048576 := by omega
      have ha0 : (0 : Int) ≤ (a.length : Int) := Int.natCast_nonneg _
      have Hma := Lib.hid hma; clear hma
      have Hmb := Lib.hid hmb; clear hmb
      have hd1 : decide ((1048576 : Int) - (a.length : Int) < 0) = false := by simp only [decide_eq_false_iff_not]; omega
      have hd2 : decide ((1048576 : Int) - (a.length : Int) - (b.length : Int) < 0) = false := by simp only [decide_eq_false_iff_not]; omega
      go_enter Try.func14, Try.ntmps14
      go_wp2_with fail
      refine (sz_yes _ a 1048576 _ hva hla (by omega)).mono ?_; rintro e w' ⟨rfl, rfl⟩
      go_wp2_with fail
      refine (sz_yes _ b _ _ hvb hlb (by omega)).mono ?_; rintro e w' ⟨rfl, rfl⟩
      go_wp2_with fail
      refine (toStopS_any _ a _ hva ha9).mono ?_; rintro e w1 ⟨b1, rfl, hb1, hl1, hr1, hm1, bel1⟩
      have B1 := bel1
      have x1 := RoadsIn.row (cap := a.length) hl1 hr1
      clear hr1 hm1
      go_wp2_with fail
      refine (toStopS_any _ b _ (hvb.below B1) hb9).mono ?_; rintro e w2 ⟨b2, rfl, hb2, hl2, hr2, hm2, bel2⟩
      have B2 := B1.trans (bel2.mono B1.size)
      have y1 := RoadsIn.row (cap := b.length) hl2 hr2
      have x1' := x1.below bel2
      clear hr2 hm2 x1 bel2 bel1
      go_wp2_with fail
      refine (show Calls _ _ _ _ (Gives (.tuple #[.int .i64 ((meetOf n a b).getD 0), .bool (meetOf n a b).isSome]) _) from (by rw [← meetV_eq]; exact meet1_any n _ _ a b _ x1' y1 ha9 hb9)).mono ?_; rintro e w3 ⟨rfl, bel3⟩
      have B3 := B2.trans (bel3.mono B2.size)
      clear x1' y1 bel3 B1 B2
      generalize hmt : (meetOf n a b).getD 0 = mt at *
      generalize hmb : (meetOf n a b).isSome = mb at *
      have Hmt := Lib.hid hmt; clear hmt
      have Hmb2 := Lib.hid hmb; clear hmb
      go_wp2_with fail
      refine (toStopS_any _ a _ (hva.below B3) ha9).mono ?_; rintro e w4 ⟨b4, rfl, hb4, hl4, hr4, hm4, bel4⟩
      have B4 := B3.trans (bel4.mono B3.size)
      have x4 := RoadsIn.row (cap := a.length) hl4 hr4
      clear hr4 hm4 bel4 B3
      go_wp2_with fail
      refine (toStopS_any _ b _ (hvb.below B4) hb9).mono ?_; rintro e w5 ⟨b5, rfl, hb5, hl5, hr5, hm5, bel5⟩
      have B5 := B4.trans (bel5.mono B4.size)
      have y5 := RoadsIn.row (cap := b.length) hl5 hr5
      have x5 := x4.below bel5
      clear hr5 hm5 bel5 B4 x4
      go_wp2_with fail
      refine (show Calls _ _ _ _ (Gives (.tuple #[.int .i64 mt, .bool mb]) _) from (by rw [← Hmt.out, ← Hmb2.out, ← meetV_eq]; exact meet2_any n _ _ a b _ x5 y5 ha9 hb9)).mono ?_; rintro e w6 ⟨rfl, bel6⟩
      have B6 := B5.trans (bel6.mono B5.size)
      have x6 := x5.below bel6
      have y6 := y5.below bel6
      clear x5 y5 bel6 B5
      go_wp2_with fail
      refine (toStopS_any _ a _ (hva.below B6) ha9).mono ?_; rintro e w7 ⟨b7, rfl, hb7, hl7, hr7, hm7, bel7⟩
      have B7 := B6.trans (bel7.mono B6.size)
      have x7 := x6.below bel7
      have y7 := y6.below bel7
      have z7 := RoadsIn.row (cap := a.length) hl7 hr7
      clear hr7 hm7 bel7 B6 x6 y6
      go_wp2_with fail
      refine (eqStopS_any _ _ a a _ x7 z7 ha9).mono ?_; rintro e w8 ⟨⟨x, rfl, hx⟩, bel8⟩
      obtain rfl : x = true := hx.2 rfl
      have B8 := B7.trans (bel8.mono B7.size)
      have y8 := y7.below bel8
      clear hx x7 y7 z7 bel8 B7
      go_wp2_with fail
      refine (toStopS_any _ b _ (hvb.below B8) hb9).mono ?_; rintro e w9 ⟨b9, rfl, hb9', hl9, hr9, hm9, bel9⟩
      have B9 := B8.trans (bel9.mono B8.size)
      have y9 := y8.below bel9
      have z9 := RoadsIn.row (cap := b.length) hl9 hr9
      clear hr9 hm9 bel9 B8 y8
      go_wp2_with fail
      refine (eqStopS_any _ _ b b _ y9 z9 hb9).mono ?_; rintro e w10 ⟨⟨x, rfl, hx⟩, bel10⟩
      obtain rfl : x = true := hx.2 rfl
      have B10 := B9.trans (bel10.mono B9.size)
      clear hx y9 z9 bel10 B9
      go_wp2
      go_ret
      exact ⟨rfl, B10⟩
    · have ha0 : (0 : Int) ≤ (a.length : Int) := Int.natCast_nonneg _
      have Hma := Lib.hid hma; clear hma
      have Hmb := Lib.hid hmb; clear hmb
      have hd1 : decide ((1048576 : Int) - (a.length : Int) < 0) = false := by simp only [decide_eq_false_iff_not]; omega
      go_enter Try.func14, Try.ntmps14
      go_wp2_with fail
      refine (sz_yes _ a 1048576 _ hva hla (by omega)).mono ?_; rintro e w' ⟨rfl, rfl⟩
      go_wp2_with fail
      refine (sz_no _ b _ _ hvb Hmb.out (by omega) (by omega) (by omega)).mono ?_; rintro e w' ⟨rfl, rfl⟩
      go_wp2
      go_ret
      exact ⟨rfl, Below.refl _ _⟩
  · have Hma := Lib.hid hma; clear hma
    have Hmb := Lib.hid hmb; clear hmb
    go_enter Try.func14, Try.ntmps14
    go_wp2_with fail
    refine (sz_no _ a 1048576 _ hva Hma.out (by omega) (by omega) (by omega)).mono ?_; rintro e w' ⟨rfl, rfl⟩
    go_wp2
    go_ret
    exact ⟨rfl, Below.refl _ _⟩

set_option maxRecDepth 100000 in
theorem lifted (os : Os) (started : os.Started) (H : Type) (enc : TypeId × Value → H) :
    ReturnsInHanded {} Try.checked os 14 .any (Rows.fnExactStopsMeetSpec.pre6 enc Try.prog Try.f14 Rows.fnExactStopsMeetRow.domain false) (Rows.fnExactStopsMeetSpec.post enc Try.prog Try.f14 false true false false) := by
  refine returnsInHanded_of_change (C := Try.checked) own started (by kernel_rfl) Try.func14
    (ChangeSpec.witness6 (enc := enc) (C := Try.checked) false ⟨#[], #[.int .i64 0, .slice none 0 0, .slice none 0 0], []⟩ 8 (by kernel_rfl) (by kernel_rfl) (by kernel_rfl) (by kernel_rfl)) ?_
  intro W base args ds gs before hval0 hW hcnd _
  have hval : ∀ (j : Nat) t v, Try.f14.params[j]? = some t → args[j]? = some v → Value.okWide Try.prog W .any base t v := hval0
  have hW' := hW
  obtain ⟨p, q, hA0, hV, rfl, hfz, hnd⟩ := hW
  have hA : DataW.TrodAll enc Try.prog W 0 (fun _ => true) true Try.f14.params.toList args.toList ds p := hA0
  rw [Try.params14] at hA hval
  obtain ⟨v0, vs0, d0, ds0, p0, q0, hargs, rfl, rfl, h0, r0⟩ := trodAll_cons hA
  obtain ⟨v1, vs1, d1, ds1, p1, q1, rfl, rfl, rfl, h1, r1⟩ := trodAll_cons r0
  obtain ⟨v2, vs2, d2, ds2, p2, q2, rfl, rfl, rfl, h2, r2⟩ := trodAll_cons r1
  obtain ⟨rfl, rfl, rfl⟩ := trodAll_nil r2
  obtain rfl : args = #[v0, v1, v2] := by cases args; simp_all
  obtain ⟨rfl, rfl⟩ := trodVars_none hV
  obtain ⟨x0, rfl, rfl, rfl, w0⟩ := open_int Try.underlying3 (hval 0 3 v0 rfl rfl) h0
  obtain ⟨a1, len1, cap1, rfl⟩ := okWide_slice Try.underlying28 (hval 1 28 v1 rfl rfl)
  have k1 := h1
  have lt1 : ∀ x ∈ p1, x.block < W.heap.size := by obtain ⟨m, hm⟩ := k1; exact DataW.trod_lt m _ _ _ hm
  obtain ⟨z1, hv1, hw1, _, hm1⟩ := open_stops h1
  obtain ⟨a2, len2, cap2, rfl⟩ := okWide_slice Try.underlying28 (hval 2 28 v2 rfl rfl)
  have k2 := h2
  have lt2 : ∀ x ∈ p2, x.block < W.heap.size := by obtain ⟨m, hm⟩ := k2; exact DataW.trod_lt m _ _ _ hm
  obtain ⟨z2, hv2, hw2, _, hm2⟩ := open_stops h2
  clear hA0 hval0
  refine (walk x0 _ z1 _ z2 W (wfI w0) hv1 hw1 hm1 hv2 hw2 hm2).mono fun e W' ⟨he, bel⟩ => ?_
  subst he
  exact ⟨_, rfl, _, _, _, [], _, [], hW', trodAll_mk1 (shut_bool Try.underlying4 _), (trodAll_cons_mk (shut_int Try.underlying3 w0) (trodAll_cons_mk (Below.trod laidOut (by kernel_rfl) (of_decide_eq_true (by kernel_rfl)) k1 bel lt1) (trodAll_cons_mk (Below.trod laidOut (by kernel_rfl) (of_decide_eq_true (by kernel_rfl)) k2 bel lt2) trodAll_mk0))), rfl, bel.frame _, fun h => by cases h⟩

theorem over : Rows.fnExactStopsMeetRow.holds Try.pinned (OpenSpec.ofChange Rows.fnExactStopsMeetSpec) :=
  OpenClaim.holds_of_wide 14 Try.f14 rfl rfl rfl rfl rfl rfl rfl ⟨rfl, rfl, rfl, rfl, rfl⟩ rfl rfl rfl rfl rfl (by kernel_rfl) Try.func14 (by kernel_rfl)
    (of_decide_eq_true (by kernel_rfl)) (by unfold Func.isWrapper; first | (rw [if_pos (by decide +kernel)]; kernel_rfl) | (rw [if_neg (by decide +kernel)]; exact ⟨rfl, rfl⟩))
    (fun os started H enc _ => lifted os started H enc)

theorem proved : Rows.FnExactStopsMeetSaid := over
#print axioms proved
end Go.Proofs.Ythhceihmbgfpkaa.lawFnExactStopsMeet
