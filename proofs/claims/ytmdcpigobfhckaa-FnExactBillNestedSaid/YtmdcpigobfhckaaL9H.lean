/- The law FnExactBillNested holds at every input. No condition. -/
import Derived.Test.YtmdcpigobfhckaaOJ
import Derived.Test.YtmdcpigobfhckaaFZ
import Derived.Test.YtmdcpigobfhckaaFX
import Derived.Test.YtmdcpigobfhckaaFB
import Derived.Test.YtmdcpigobfhckaaFC
namespace Go.Proofs.Ytmdcpigobfhckaa.lawFnExactBillNested
open Go.ChangeShapes Go.WideShapes Go.ChangeAt Go.RowKit
set_option linter.unusedVariables false

set_option maxRecDepth 100000 in
set_option maxHeartbeats 2000000 in
theorem walk (a0 : Int) (v1 : Value) (l1 : List Fr) (w : World) (wa0 : W64 a0) (hv1 : FrIn w v1 l1) (hw1 : FrWf l1) (hm1 : l1.length ≤ maxLen) :
    Calls Try.prog 10 #[.int .i64 a0, v1] w fun e w' => e = .returned (.bool true) ∧ Below w.heap.size w w' := by
  have W1 := Lib.hid hw1; clear hw1
  by_cases hl1 : l1.length ≤ 1048576
  · go_enter Try.func10, Try.ntmps10
    go_wp2_with fail
    refine (szParcelS_yes _ l1 _ hv1 hl1).mono ?_; rintro e w' ⟨rfl, rfl⟩
    go_wp2_with fail
    refine (toParcelS_any _ l1 _ hv1 hl1).mono ?_; rintro e w1 ⟨b1, rfl, hb1, hlt1, hr1, hm_1, bel1⟩
    have z1 := bel1.size
    have s1_1 := FrIn.row (cap := l1.length) hlt1 (Nat.le_refl _) hr1
    clear hr1
    have B1 := bel1
    clear bel1
    go_wp2_with fail
    refine (nested1_any a0 _ l1 _ wa0 s1_1 hl1).mono ?_; rintro e w2 ⟨rfl, bel2⟩
    clear s1_1
    have z2 := bel2.size
    have B2 := B1.trans (bel2.mono B1.size)
    clear B1
    clear bel2
    go_wp2_with fail
    refine (toParcelS_any _ l1 _ (hv1.below B2) hl1).mono ?_; rintro e w3 ⟨b3, rfl, hb3, hlt3, hr3, hm_3, bel3⟩
    have z3 := bel3.size
    have x1_3 := FrIn.row (cap := l1.length) hlt3 (Nat.le_refl _) hr3
    clear hr3
    have B3 := B2.trans (bel3.mono B2.size)
    clear B2
    clear bel3
    go_wp2_with fail
    refine (nested2_any a0 _ l1 _ x1_3 (by omega)).mono ?_; rintro e w4 ⟨rfl, bel4⟩
    have z4 := bel4.size
    have x1_4 := x1_3.below bel4
    clear x1_3
    have B4 := B3.trans (bel4.mono B3.size)
    clear B3
    clear bel4
    go_wp2_with fail
    refine (toParcelS_any _ l1 _ (hv1.below B4) hl1).mono ?_; rintro e w5 ⟨b5, rfl, hb5, hlt5, hr5, hm_5, bel5⟩
    have z5 := bel5.size
    have x1_5 := x1_4.below bel5
    clear x1_4
    have y1_5 := FrIn.row (cap := l1.length) hlt5 (Nat.le_refl _) hr5
    clear hr5
    have B5 := B4.trans (bel5.mono B4.size)
    clear B4
    clear bel5
    go_wp2_with fail
    refine (eqParcelS_any _ _ l1 l1 _ x1_5 y1_5 hl1).mono ?_; rintro e w6 ⟨⟨x6, rfl, hx6⟩, bel6⟩
    obtain rfl : x6 = true := hx6.2 rfl
    clear hx6
    clear x1_5 y1_5
    have B6 := B5.trans (bel6.mono B5.size)
    clear B5
    clear bel6
    go_wp2
    go_ret
    exact ⟨rfl, B6⟩
  · go_enter Try.func10, Try.ntmps10
    go_wp2_with fail
    refine (szParcelS_no _ l1 _ hv1 hm1 hl1).mono ?_; rintro e w' ⟨rfl, rfl⟩
    go_wp2
    go_ret
    exact ⟨rfl, Below.refl _ _⟩

set_option maxRecDepth 100000 in
theorem lifted (os : Os) (started : os.Started) (H : Type) (enc : TypeId × Value → H) :
    ReturnsInHanded {} Try.checked os 10 .any (Rows.fnExactBillNestedSpec.pre6 enc Try.prog Try.f10 Rows.fnExactBillNestedRow.domain false) (Rows.fnExactBillNestedSpec.post enc Try.prog Try.f10 false true false false) := by
  refine returnsInHanded_of_change (C := Try.checked) own started (by kernel_rfl) Try.func10
    (ChangeSpec.witness6 (enc := enc) (C := Try.checked) false ⟨#[], #[.int .i64 0, .slice none 0 0], []⟩ 8 (by kernel_rfl) (by kernel_rfl) (by kernel_rfl) (by kernel_rfl)) ?_
  intro W base args ds gs before hval0 hW hcnd _
  have hval : ∀ (j : Nat) t v, Try.f10.params[j]? = some t → args[j]? = some v → Value.okWide Try.prog W .any base t v := hval0
  have hW' := hW
  obtain ⟨p, q, hA0, hV, rfl, hfz, hnd⟩ := hW
  have hA : DataW.TrodAll enc Try.prog W 0 (fun _ => true) true Try.f10.params.toList args.toList ds p := hA0
  rw [Try.params10] at hA hval
  obtain ⟨v0, vs0, d0, ds0, p0, q0, hargs, rfl, rfl, h0, r0⟩ := trodAll_cons hA
  obtain ⟨v1, vs1, d1, ds1, p1, q1, rfl, rfl, rfl, h1, r1⟩ := trodAll_cons r0
  obtain ⟨rfl, rfl, rfl⟩ := trodAll_nil r1
  obtain rfl : args = #[v0, v1] := by cases args; simp_all
  obtain ⟨rfl, rfl⟩ := trodVars_none hV
  obtain ⟨x0, rfl, rfl, rfl, w0⟩ := open_int Try.underlying3 (hval 0 3 v0 rfl rfl) h0
  obtain ⟨a1, len1, cap1, rfl⟩ := okWide_slice Try.underlying22 (hval 1 22 v1 rfl rfl)
  have k1 := h1
  have lt1 : ∀ x ∈ p1, x.block < W.heap.size := by obtain ⟨m, hm⟩ := k1; exact DataW.trod_lt m _ _ _ hm
  obtain ⟨z1, hv1, hw1, _, hm1⟩ := open_Fr h1
  clear hA0 hval0
  refine (walk x0 _ z1 W (wfI w0) hv1 hw1 hm1).mono fun e W' ⟨he, bel⟩ => ?_
  subst he
  exact ⟨_, rfl, _, _, _, [], _, [], hW', trodAll_mk1 (shut_bool Try.underlying4 _), (trodAll_cons_mk (shut_int Try.underlying3 w0) (trodAll_cons_mk (Below.trod laidOut (by kernel_rfl) (of_decide_eq_true (by kernel_rfl)) k1 bel lt1) trodAll_mk0)), rfl, bel.frame _, fun h => by cases h⟩

theorem closed : joinedFacts Try.prog 10 Try.f10 Rows.fnExactBillNestedSpec Rows.fnExactBillNestedRow = true := by
  delta joinedFacts
  refine and_t (and_t (and_t (and_t (and_t (and_t (and_t ?_ mayE) (liftE rfl)) (makeE rfl)) ?_) ?_) ?_) ?_
  all_goals kernel_rfl
theorem over : Rows.fnExactBillNestedRow.holds Try.pinned (OpenSpec.ofChange Rows.fnExactBillNestedSpec) :=
  OpenClaim.holds_of_wide 10 Try.f10 rfl rfl rfl rfl rfl rfl rfl ⟨rfl, rfl, rfl, rfl, rfl⟩ rfl rfl rfl rfl rfl (by kernel_rfl) Try.func10 closed
    (of_decide_eq_true (by kernel_rfl)) (by unfold Func.isWrapper; first | (rw [if_pos (by decide +kernel)]; kernel_rfl) | (rw [if_neg (by decide +kernel)]; exact ⟨rfl, rfl⟩))
    (fun os started H enc _ => lifted os started H enc)

theorem proved : Rows.FnExactBillNestedSaid := over
#print axioms proved
end Go.Proofs.Ytmdcpigobfhckaa.lawFnExactBillNested
