/- The law FnExactGatesValid holds at every input. No condition. -/
import Derived.Test.YthhllpnbmelidaaOJ
import Derived.Test.YthhllpnbmelidaaGJ
import Derived.Test.YthhllpnbmelidaaGM
import Derived.Test.YthhllpnbmelidaaGB
import Derived.Test.YthhllpnbmelidaaGC
namespace Go.Proofs.Ythhllpnbmelidaa.lawFnExactGatesValid
open Go.ChangeShapes Go.WideShapes Go.ChangeAt Go.RowKit
set_option linter.unusedVariables false

set_option maxRecDepth 100000 in
set_option maxHeartbeats 2000000 in
theorem walk (v0 : Value) (l0 : List Gt) (w : World) (hv0 : GtIn w v0 l0) (hw0 : GtWf l0) (hm0 : l0.length ≤ maxLen) :
    Calls Try.prog 3 #[v0] w fun e w' => e = .returned (.bool true) ∧ Below w.heap.size w w' := by
  have W0 := Lib.hid hw0; clear hw0
  by_cases hl0 : l0.length ≤ 1048576
  · go_enter Try.func3, Try.ntmps3
    go_wp2_with fail
    refine (szGateS_yes _ l0 _ hv0 hl0).mono ?_; rintro e w' ⟨rfl, rfl⟩
    go_wp2_with fail
    refine (toGateS_any _ l0 _ hv0 hl0).mono ?_; rintro e w1 ⟨b1, rfl, hb1, hlt1, hr1, hm_1, bel1⟩
    have z1 := bel1.size
    have s0_1 := GtIn.row (cap := l0.length) hlt1 (Nat.le_refl _) hr1
    clear hr1
    have B1 := bel1
    clear bel1
    go_wp2_with fail
    refine (gv1_any _ l0 _ s0_1 (by omega)).mono ?_; rintro e w2 ⟨rfl, bel2⟩
    clear s0_1
    have z2 := bel2.size
    have B2 := B1.trans (bel2.mono B1.size)
    clear B1
    clear bel2
    go_wp2_with fail
    refine (toGateS_any _ l0 _ (hv0.below B2) hl0).mono ?_; rintro e w3 ⟨b3, rfl, hb3, hlt3, hr3, hm_3, bel3⟩
    have z3 := bel3.size
    have x0_3 := GtIn.row (cap := l0.length) hlt3 (Nat.le_refl _) hr3
    clear hr3
    have B3 := B2.trans (bel3.mono B2.size)
    clear B2
    clear bel3
    go_wp2_with fail
    refine (gv2_any _ l0 _ x0_3 (by omega)).mono ?_; rintro e w4 ⟨rfl, bel4⟩
    have z4 := bel4.size
    have x0_4 := x0_3.below bel4
    clear x0_3
    have B4 := B3.trans (bel4.mono B3.size)
    clear B3
    clear bel4
    go_wp2_with fail
    refine (toGateS_any _ l0 _ (hv0.below B4) hl0).mono ?_; rintro e w5 ⟨b5, rfl, hb5, hlt5, hr5, hm_5, bel5⟩
    have z5 := bel5.size
    have x0_5 := x0_4.below bel5
    clear x0_4
    have y0_5 := GtIn.row (cap := l0.length) hlt5 (Nat.le_refl _) hr5
    clear hr5
    have B5 := B4.trans (bel5.mono B4.size)
    clear B4
    clear bel5
    go_wp2_with fail
    refine (eqGateS_any _ _ l0 l0 _ x0_5 y0_5 hl0).mono ?_; rintro e w6 ⟨⟨x6, rfl, hx6⟩, bel6⟩
    obtain rfl : x6 = true := hx6.2 rfl
    clear hx6
    clear x0_5 y0_5
    have B6 := B5.trans (bel6.mono B5.size)
    clear B5
    clear bel6
    go_wp2
    go_ret
    exact ⟨rfl, B6⟩
  · go_enter Try.func3, Try.ntmps3
    go_wp2_with fail
    refine (szGateS_no _ l0 _ hv0 hm0 hl0).mono ?_; rintro e w' ⟨rfl, rfl⟩
    go_wp2
    go_ret
    exact ⟨rfl, Below.refl _ _⟩

set_option maxRecDepth 100000 in
theorem lifted (os : Os) (started : os.Started) (H : Type) (enc : TypeId × Value → H) :
    ReturnsInHanded {} Try.checked os 3 .any (Rows.fnExactGatesValidSpec.pre6 enc Try.prog Try.f3 Rows.fnExactGatesValidRow.domain false) (Rows.fnExactGatesValidSpec.post enc Try.prog Try.f3 false true false false) := by
  refine returnsInHanded_of_change (C := Try.checked) own started (by kernel_rfl) Try.func3
    (ChangeSpec.witness6 (enc := enc) (C := Try.checked) false ⟨#[], #[.slice none 0 0], []⟩ 8 (by kernel_rfl) (by kernel_rfl) (by kernel_rfl) (by kernel_rfl)) ?_
  intro W base args ds gs before hval0 hW hcnd _
  have hval : ∀ (j : Nat) t v, Try.f3.params[j]? = some t → args[j]? = some v → Value.okWide Try.prog W .any base t v := hval0
  have hW' := hW
  obtain ⟨p, q, hA0, hV, rfl, hfz, hnd⟩ := hW
  have hA : DataW.TrodAll enc Try.prog W 0 (fun _ => true) true Try.f3.params.toList args.toList ds p := hA0
  rw [Try.params3] at hA hval
  obtain ⟨v0, vs0, d0, ds0, p0, q0, hargs, rfl, rfl, h0, r0⟩ := trodAll_cons hA
  obtain ⟨rfl, rfl, rfl⟩ := trodAll_nil r0
  obtain rfl : args = #[v0] := by cases args; simp_all
  obtain ⟨rfl, rfl⟩ := trodVars_none hV
  obtain ⟨a0, len0, cap0, rfl⟩ := okWide_slice Try.underlying22 (hval 0 22 v0 rfl rfl)
  have k0 := h0
  have lt0 : ∀ x ∈ p0, x.block < W.heap.size := by obtain ⟨m, hm⟩ := k0; exact DataW.trod_lt m _ _ _ hm
  obtain ⟨z0, hv0, hw0, _, hm0⟩ := open_Gt h0
  clear hA0 hval0
  refine (walk _ z0 W hv0 hw0 hm0).mono fun e W' ⟨he, bel⟩ => ?_
  subst he
  exact ⟨_, rfl, _, _, _, [], _, [], hW', trodAll_mk1 (shut_bool Try.underlying4 _), (trodAll_cons_mk (Below.trod laidOut (by kernel_rfl) (of_decide_eq_true (by kernel_rfl)) k0 bel lt0) trodAll_mk0), rfl, bel.frame _, fun h => by cases h⟩

theorem closed : joinedFacts Try.prog 3 Try.f3 Rows.fnExactGatesValidSpec Rows.fnExactGatesValidRow = true := by
  delta joinedFacts
  refine and_t (and_t (and_t (and_t (and_t (and_t (and_t ?_ mayE) (liftE rfl)) (makeE rfl)) ?_) ?_) ?_) ?_
  all_goals kernel_rfl
theorem over : Rows.fnExactGatesValidRow.holds Try.pinned (OpenSpec.ofChange Rows.fnExactGatesValidSpec) :=
  OpenClaim.holds_of_wide 3 Try.f3 rfl rfl rfl rfl rfl rfl rfl ⟨rfl, rfl, rfl, rfl, rfl⟩ rfl rfl rfl rfl rfl (by kernel_rfl) Try.func3 closed
    (of_decide_eq_true (by kernel_rfl)) (by unfold Func.isWrapper; first | (rw [if_pos (by decide +kernel)]; kernel_rfl) | (rw [if_neg (by decide +kernel)]; exact ⟨rfl, rfl⟩))
    (fun os started H enc _ => lifted os started H enc)

theorem proved : Rows.FnExactGatesValidSaid := over
#print axioms proved
end Go.Proofs.Ythhllpnbmelidaa.lawFnExactGatesValid
