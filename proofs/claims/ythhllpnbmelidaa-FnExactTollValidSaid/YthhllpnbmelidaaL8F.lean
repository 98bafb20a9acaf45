/- The law FnExactTollValid holds at every input. No condition. -/
import Derived.Test.YthhllpnbmelidaaOJ
import Derived.Test.YthhllpnbmelidaaGP
import Derived.Test.YthhllpnbmelidaaGV
import Derived.Test.YthhllpnbmelidaaGB
import Derived.Test.YthhllpnbmelidaaGC
import Derived.Test.YthhllpnbmelidaaIC
namespace Go.Proofs.Ythhllpnbmelidaa.lawFnExactTollValid
open Go.ChangeShapes Go.WideShapes Go.ChangeAt Go.RowKit
set_option linter.unusedVariables false

set_option maxRecDepth 100000 in
set_option maxHeartbeats 2000000 in
theorem walk (v0 : Value) (l0 : List Gt) (a1 : Int) (a2 : Int) (a3 : Int) (v4 : Value) (l4 : List Int) (w : World) (hv0 : GtIn w v0 l0) (hw0 : GtWf l0) (hm0 : l0.length ≤ maxLen) (wa1 : W64 a1) (wa2 : W64 a2) (wa3 : W64 a3) (hv4 : IntsIn w v4 l4) (hw4 : IntWf l4) (hm4 : l4.length ≤ maxLen) :
    Calls Try.prog 8 #[v0, .int .i64 a1, .int .i64 a2, .int .i64 a3, v4] w fun e w' => e = .returned (.bool true) ∧ Below w.heap.size w w' := by
  have Hv4 := Lib.hid hv4
  obtain ⟨ad4, cp4, rfl, hcp4, hu4⟩ := hv4
  clear hcp4 hu4
  have W0 := Lib.hid hw0; clear hw0
  have W4 := Lib.hid hw4; clear hw4
  by_cases hl4 : l4.length ≤ 1048576
  · by_cases hl0 : l0.length ≤ 1048576
    · go_enter Try.func8, Try.ntmps8
      go_wp2_with fail
      refine (szGateS_yes _ l0 _ hv0 hl0).mono ?_; rintro e w' ⟨rfl, rfl⟩
      go_wp2_with fail
      refine (toGateS_any _ l0 _ hv0 hl0).mono ?_; rintro e w1 ⟨b1, rfl, hb1, hlt1, hr1, hm_1, bel1⟩
      have z1 := bel1.size
      have s0_1 := GtIn.row (cap := l0.length) hlt1 (Nat.le_refl _) hr1
      clear hr1
      have B1 := bel1
      clear bel1
      go_wp2_with fail
      refine (toIntS_any _ l4 _ (Hv4.out.below B1) hl4).mono ?_; rintro e w2 ⟨b2, rfl, hb2, hlt2, hr2, hm_2, bel2⟩
      have z2 := bel2.size
      have s0_2 := s0_1.below bel2
      clear s0_1
      have s4_2 := IntsIn.row (cap := l4.length) hlt2 (Nat.le_refl _) hr2
      clear hr2
      have B2 := B1.trans (bel2.mono B1.size)
      clear B1
      clear bel2
      go_wp2_with fail
      refine (tv1_any _ l0 a1 a2 a3 _ l4 _ s0_2 s4_2 hl0 hl4).mono ?_; rintro e w3 ⟨rfl, bel3⟩
      clear s0_2
      clear s4_2
      have z3 := bel3.size
      have B3 := B2.trans (bel3.mono B2.size)
      clear B2
      clear bel3
      go_wp2_with fail
      refine (toGateS_any _ l0 _ (hv0.below B3) hl0).mono ?_; rintro e w4 ⟨b4, rfl, hb4, hlt4, hr4, hm_4, bel4⟩
      have z4 := bel4.size
      have x0_4 := GtIn.row (cap := l0.length) hlt4 (Nat.le_refl _) hr4
      clear hr4
      have B4 := B3.trans (bel4.mono B3.size)
      clear B3
      clear bel4
      go_wp2_with fail
      refine (toIntS_any _ l4 _ (Hv4.out.below B4) hl4).mono ?_; rintro e w5 ⟨b5, rfl, hb5, hlt5, hr5, hm_5, bel5⟩
      have z5 := bel5.size
      have x0_5 := x0_4.below bel5
      clear x0_4
      have x4_5 := IntsIn.row (cap := l4.length) hlt5 (Nat.le_refl _) hr5
      clear hr5
      have B5 := B4.trans (bel5.mono B4.size)
      clear B4
      clear bel5
      go_wp2_with fail
      refine (tv2_any _ l0 a1 a2 a3 _ l4 _ x0_5 x4_5 hl0 hl4).mono ?_; rintro e w6 ⟨rfl, bel6⟩
      have z6 := bel6.size
      have x0_6 := x0_5.below bel6
      clear x0_5
      have x4_6 := x4_5.below bel6
      clear x4_5
      have B6 := B5.trans (bel6.mono B5.size)
      clear B5
      clear bel6
      go_wp2_with fail
      refine (toGateS_any _ l0 _ (hv0.below B6) hl0).mono ?_; rintro e w7 ⟨b7, rfl, hb7, hlt7, hr7, hm_7, bel7⟩
      have z7 := bel7.size
      have x0_7 := x0_6.below bel7
      clear x0_6
      have x4_7 := x4_6.below bel7
      clear x4_6
      have y0_7 := GtIn.row (cap := l0.length) hlt7 (Nat.le_refl _) hr7
      clear hr7
      have B7 := B6.trans (bel7.mono B6.size)
      clear B6
      clear bel7
      go_wp2_with fail
      refine (eqGateS_any _ _ l0 l0 _ x0_7 y0_7 hl0).mono ?_; rintro e w8 ⟨⟨x8, rfl, hx8⟩, bel8⟩
      obtain rfl : x8 = true := hx8.2 rfl
      clear hx8
      clear x0_7 y0_7
      have x4_8 := x4_7.below bel8
      clear x4_7
      have B8 := B7.trans (bel8.mono B7.size)
      clear B7
      clear bel8
      go_wp2_with fail
      refine (toIntS_any _ l4 _ (Hv4.out.below B8) hl4).mono ?_; rintro e w9 ⟨b9, rfl, hb9, hlt9, hr9, hm_9, bel9⟩
      have z9 := bel9.size
      have x4_9 := x4_8.below bel9
      clear x4_8
      have y4_9 := IntsIn.row (cap := l4.length) hlt9 (Nat.le_refl _) hr9
      clear hr9
      have B9 := B8.trans (bel9.mono B8.size)
      clear B8
      clear bel9
      go_wp2_with fail
      refine (eqIntS_any _ _ l4 l4 _ x4_9 y4_9 hl4).mono ?_; rintro e w10 ⟨⟨x10, rfl, hx10⟩, bel10⟩
      obtain rfl : x10 = true := hx10.2 rfl
      clear hx10
      clear x4_9 y4_9
      have B10 := B9.trans (bel10.mono B9.size)
      clear B9
      clear bel10
      go_wp2
      go_ret
      exact ⟨rfl, B10⟩
    · go_enter Try.func8, Try.ntmps8
      go_wp2_with fail
      refine (szGateS_no _ l0 _ hv0 hm0 hl0).mono ?_; rintro e w' ⟨rfl, rfl⟩
      go_wp2
      go_ret
      exact ⟨rfl, Below.refl _ _⟩
  · have hl' : (1048576 : Int) < (l4.length : Int) := by omega
    go_enter Try.func8, Try.ntmps8
    go_wp2
    go_ret
    exact ⟨rfl, Below.refl _ _⟩

set_option maxRecDepth 100000 in
theorem lifted (os : Os) (started : os.Started) (H : Type) (enc : TypeId × Value → H) :
    ReturnsInHanded {} Try.checked os 8 .any (Rows.fnExactTollValidSpec.pre6 enc Try.prog Try.f8 Rows.fnExactTollValidRow.domain false) (Rows.fnExactTollValidSpec.post enc Try.prog Try.f8 false true false false) := by
  refine returnsInHanded_of_change (C := Try.checked) own started (by kernel_rfl) Try.func8
    (ChangeSpec.witness6 (enc := enc) (C := Try.checked) false ⟨#[], #[.slice none 0 0, .int .i64 0, .int .i64 0, .int .i64 0, .slice none 0 0], []⟩ 8 (by kernel_rfl) (by kernel_rfl) (by kernel_rfl) (by kernel_rfl)) ?_
  intro W base args ds gs before hval0 hW hcnd _
  have hval : ∀ (j : Nat) t v, Try.f8.params[j]? = some t → args[j]? = some v → Value.okWide Try.prog W .any base t v := hval0
  have hW' := hW
  obtain ⟨p, q, hA0, hV, rfl, hfz, hnd⟩ := hW
  have hA : DataW.TrodAll enc Try.prog W 0 (fun _ => true) true Try.f8.params.toList args.toList ds p := hA0
  rw [Try.params8] at hA hval
  obtain ⟨v0, vs0, d0, ds0, p0, q0, hargs, rfl, rfl, h0, r0⟩ := trodAll_cons hA
  obtain ⟨v1, vs1, d1, ds1, p1, q1, rfl, rfl, rfl, h1, r1⟩ := trodAll_cons r0
  obtain ⟨v2, vs2, d2, ds2, p2, q2, rfl, rfl, rfl, h2, r2⟩ := trodAll_cons r1
  obtain ⟨v3, vs3, d3, ds3, p3, q3, rfl, rfl, rfl, h3, r3⟩ := trodAll_cons r2
  obtain ⟨v4, vs4, d4, ds4, p4, q4, rfl, rfl, rfl, h4, r4⟩ := trodAll_cons r3
  obtain ⟨rfl, rfl, rfl⟩ := trodAll_nil r4
  obtain rfl : args = #[v0, v1, v2, v3, v4] := by cases args; simp_all
  obtain ⟨rfl, rfl⟩ := trodVars_none hV
  obtain ⟨a0, len0, cap0, rfl⟩ := okWide_slice Try.underlying22 (hval 0 22 v0 rfl rfl)
  have k0 := h0
  have lt0 : ∀ x ∈ p0, x.block < W.heap.size := by obtain ⟨m, hm⟩ := k0; exact DataW.trod_lt m _ _ _ hm
  obtain ⟨z0, hv0, hw0, _, hm0⟩ := open_Gt h0
  obtain ⟨x1, rfl, rfl, rfl, w1⟩ := open_int Try.underlying3 (hval 1 3 v1 rfl rfl) h1
  obtain ⟨x2, rfl, rfl, rfl, w2⟩ := open_int Try.underlying3 (hval 2 3 v2 rfl rfl) h2
  obtain ⟨x3, rfl, rfl, rfl, w3⟩ := open_int Try.underlying3 (hval 3 3 v3 rfl rfl) h3
  obtain ⟨a4, len4, cap4, rfl⟩ := okWide_slice Try.underlying39 (hval 4 39 v4 rfl rfl)
  have k4 := h4
  have lt4 : ∀ x ∈ p4, x.block < W.heap.size := by obtain ⟨m, hm⟩ := k4; exact DataW.trod_lt m _ _ _ hm
  obtain ⟨z4, hv4, hw4, _, hm4⟩ := open_intS h4 rfl
  clear hA0 hval0
  refine (walk _ z0 x1 x2 x3 _ z4 W hv0 hw0 hm0 (wfI w1) (wfI w2) (wfI w3) hv4 hw4 hm4).mono fun e W' ⟨he, bel⟩ => ?_
  subst he
  exact ⟨_, rfl, _, _, _, [], _, [], hW', trodAll_mk1 (shut_bool Try.underlying4 _), (trodAll_cons_mk (Below.trod laidOut (by kernel_rfl) (of_decide_eq_true (by kernel_rfl)) k0 bel lt0) (trodAll_cons_mk (shut_int Try.underlying3 w1) (trodAll_cons_mk (shut_int Try.underlying3 w2) (trodAll_cons_mk (shut_int Try.underlying3 w3) (trodAll_cons_mk (Below.trod laidOut (by kernel_rfl) (of_decide_eq_true (by kernel_rfl)) k4 bel lt4) trodAll_mk0))))), rfl, bel.frame _, fun h => by cases h⟩

theorem closed : joinedFacts Try.prog 8 Try.f8 Rows.fnExactTollValidSpec Rows.fnExactTollValidRow = true := by
  delta joinedFacts
  refine and_t (and_t (and_t (and_t (and_t (and_t (and_t ?_ mayE) (liftE rfl)) (makeE rfl)) ?_) ?_) ?_) ?_
  all_goals kernel_rfl
theorem over : Rows.fnExactTollValidRow.holds Try.pinned (OpenSpec.ofChange Rows.fnExactTollValidSpec) :=
  OpenClaim.holds_of_wide 8 Try.f8 rfl rfl rfl rfl rfl rfl rfl ⟨rfl, rfl, rfl, rfl, rfl⟩ rfl rfl rfl rfl rfl (by kernel_rfl) Try.func8 closed
    (of_decide_eq_true (by kernel_rfl)) (by unfold Func.isWrapper; first | (rw [if_pos (by decide +kernel)]; kernel_rfl) | (rw [if_neg (by decide +kernel)]; exact ⟨rfl, rfl⟩))
    (fun os started H enc _ => lifted os started H enc)

theorem proved : Rows.FnExactTollValidSaid := over
#print axioms proved
end Go.Proofs.Ythhllpnbmelidaa.lawFnExactTollValid
