/- The law FnExactLateBlame holds at every input. No condition. -/
import Derived.Test.YtmphpbjmpokjjaaOJ
import Derived.Test.YtmphpbjmpokjjaaY5
import Derived.Test.YtmphpbjmpokjjaaKD
import Derived.Test.YtmphpbjmpokjjaaZR
import Derived.Test.YtmphpbjmpokjjaaZB
import Derived.Test.YtmphpbjmpokjjaaZC
import Derived.Test.YtmphpbjmpokjjaaIC
namespace Go.Proofs.Ytmphpbjmpokjjaa.lawFnExactLateBlame
open Go.ChangeShapes Go.WideShapes Go.ChangeAt Go.RowKit
set_option linter.unusedVariables false

set_option maxRecDepth 100000 in
set_option maxHeartbeats 2000000 in
theorem walk (a0 : Int) (v1 : Value) (l1 : List Tz) (a2 : Int) (a3 : Int) (v4 : Value) (l4 : List Int) (a5 : Int) (w : World) (wa0 : W64 a0) (hv1 : TzIn w v1 l1) (hw1 : TzWf l1) (hm1 : l1.length ≤ maxLen) (wa2 : W64 a2) (wa3 : W64 a3) (hv4 : IntsIn w v4 l4) (hw4 : IntWf l4) (hm4 : l4.length ≤ maxLen) (wa5 : W64 a5) :
    Calls Try.prog 8 #[.int .i64 a0, v1, .int .i64 a2, .int .i64 a3, v4, .int .i64 a5] w fun e w' => e = .returned (.bool true) ∧ Below w.heap.size w w' := by
  have Hv4 := Lib.hid hv4
  obtain ⟨ad4, cp4, rfl, hcp4, hu4⟩ := hv4
  clear hcp4 hu4
  have W1 := Lib.hid hw1; clear hw1
  have W4 := Lib.hid hw4; clear hw4
  by_cases hl4 : l4.length ≤ 1048576
  · by_cases hl1 : l1.length ≤ 1048576
    · go_enter Try.func8, Try.ntmps8
      go_wp2_with fail
      refine (szStopS_yes _ l1 _ hv1 hl1).mono ?_; rintro e w' ⟨rfl, rfl⟩
      go_wp2_with fail
      refine (toStopS_any _ l1 _ hv1 hl1).mono ?_; rintro e w1 ⟨b1, rfl, hb1, hlt1, hr1, hm_1, bel1⟩
      have z1 := bel1.size
      have s1_1 := TzIn.row (cap := l1.length) hlt1 (Nat.le_refl _) hr1
      clear hr1
      have B1 := bel1
      clear bel1
      go_wp2_with fail
      refine (toIntS_any _ l4 _ (Hv4.out.below B1) hl4).mono ?_; rintro e w2 ⟨b2, rfl, hb2, hlt2, hr2, hm_2, bel2⟩
      have z2 := bel2.size
      have s1_2 := s1_1.below bel2
      clear s1_1
      have s4_2 := IntsIn.row (cap := l4.length) hlt2 (Nat.le_refl _) hr2
      clear hr2
      have B2 := B1.trans (bel2.mono B1.size)
      clear B1
      clear bel2
      go_wp2_with fail
      refine (blame1_any a0 _ l1 a2 a3 _ l4 a5 _ (TzIn.roads s1_2) hl1 s4_2 hl4).mono ?_; rintro e w3 ⟨rfl, bel3⟩
      clear s1_2
      clear s4_2
      have z3 := bel3.size
      have B3 := B2.trans (bel3.mono B2.size)
      clear B2
      clear bel3
      go_wp2_with fail
      refine (toStopS_any _ l1 _ (hv1.below B3) hl1).mono ?_; rintro e w4 ⟨b4, rfl, hb4, hlt4, hr4, hm_4, bel4⟩
      have z4 := bel4.size
      have x1_4 := TzIn.row (cap := l1.length) hlt4 (Nat.le_refl _) hr4
      clear hr4
      have B4 := B3.trans (bel4.mono B3.size)
      clear B3
      clear bel4
      go_wp2_with fail
      refine (toIntS_any _ l4 _ (Hv4.out.below B4) hl4).mono ?_; rintro e w5 ⟨b5, rfl, hb5, hlt5, hr5, hm_5, bel5⟩
      have z5 := bel5.size
      have x1_5 := x1_4.below bel5
      clear x1_4
      have x4_5 := IntsIn.row (cap := l4.length) hlt5 (Nat.le_refl _) hr5
      clear hr5
      have B5 := B4.trans (bel5.mono B4.size)
      clear B4
      clear bel5
      go_wp2_with fail
      refine (blame2_any a0 _ l1 a2 a3 _ l4 a5 _ (TzIn.roads x1_5) hl1 x4_5 hl4).mono ?_; rintro e w6 ⟨rfl, bel6⟩
      have z6 := bel6.size
      have x1_6 := x1_5.below bel6
      clear x1_5
      have x4_6 := x4_5.below bel6
      clear x4_5
      have B6 := B5.trans (bel6.mono B5.size)
      clear B5
      clear bel6
      go_wp2_with fail
      refine (toStopS_any _ l1 _ (hv1.below B6) hl1).mono ?_; rintro e w7 ⟨b7, rfl, hb7, hlt7, hr7, hm_7, bel7⟩
      have z7 := bel7.size
      have x1_7 := x1_6.below bel7
      clear x1_6
      have x4_7 := x4_6.below bel7
      clear x4_6
      have y1_7 := TzIn.row (cap := l1.length) hlt7 (Nat.le_refl _) hr7
      clear hr7
      have B7 := B6.trans (bel7.mono B6.size)
      clear B6
      clear bel7
      go_wp2_with fail
      refine (eqStopS_any _ _ l1 l1 _ x1_7 y1_7 hl1).mono ?_; rintro e w8 ⟨⟨x8, rfl, hx8⟩, bel8⟩
      obtain rfl : x8 = true := hx8.2 rfl
      clear hx8
      clear x1_7 y1_7
      have x4_8 := x4_7.below bel8
      clear x4_7
      have B8 := B7.trans (bel8.mono B7.size)
      clear B7
      clear bel8
      go_wp2_with fail
      refine (toIntS_any _ l4 _ (Hv4.out.below B8) hl4).mono ?_; rintro e w9 ⟨b9, rfl, hb9, hlt9, hr9, hm_9, bel9⟩
      have z9 := bel9.size
      have x4_9 := x4_8.below bel9
      clear x4_8
      have y4_9 := IntsIn.row (cap := l4.length) hlt9 (Nat.le_refl _) hr9
      clear hr9
      have B9 := B8.trans (bel9.mono B8.size)
      clear B8
      clear bel9
      go_wp2_with fail
      refine (eqIntS_any _ _ l4 l4 _ x4_9 y4_9 hl4).mono ?_; rintro e w10 ⟨⟨x10, rfl, hx10⟩, bel10⟩
      obtain rfl : x10 = true := hx10.2 rfl
      clear hx10
      clear x4_9 y4_9
      have B10 := B9.trans (bel10.mono B9.size)
      clear B9
      clear bel10
      go_wp2
      go_ret
      exact ⟨rfl, B10⟩
    · go_enter Try.func8, Try.ntmps8
      go_wp2_with fail
      refine (szStopS_no _ l1 _ hv1 hm1 hl1).mono ?_; rintro e w' ⟨rfl, rfl⟩
      go_wp2
      go_ret
      exact ⟨rfl, Below.refl _ _⟩
  · have hl' : (1048576 : Int) < (l4.length : Int) := by omega
    go_enter Try.func8, Try.ntmps8
    go_wp2
    go_ret
    exact ⟨rfl, Below.refl _ _⟩

set_option maxRecDepth 100000 in
theorem lifted (os : Os) (started : os.Started) (H : Type) (enc : TypeId × Value → H) :
    ReturnsInHanded {} Try.checked os 8 .any (Rows.fnExactLateBlameSpec.pre6 enc Try.prog Try.f8 Rows.fnExactLateBlameRow.domain false) (Rows.fnExactLateBlameSpec.post enc Try.prog Try.f8 false true false false) := by
  refine returnsInHanded_of_change (C := Try.checked) own started (by kernel_rfl) Try.func8
    (ChangeSpec.witness6 (enc := enc) (C := Try.checked) false ⟨#[], #[.int .i64 0, .slice none 0 0, .int .i64 0, .int .i64 0, .slice none 0 0, .int .i64 0], []⟩ 8 (by kernel_rfl) (by kernel_rfl) (by kernel_rfl) (by kernel_rfl)) ?_
  intro W base args ds gs before hval0 hW hcnd _
  have hval : ∀ (j : Nat) t v, Try.f8.params[j]? = some t → args[j]? = some v → Value.okWide Try.prog W .any base t v := hval0
  have hW' := hW
  obtain ⟨p, q, hA0, hV, rfl, hfz, hnd⟩ := hW
  have hA : DataW.TrodAll enc Try.prog W 0 (fun _ => true) true Try.f8.params.toList args.toList ds p := hA0
  rw [Try.params8] at hA hval
  obtain ⟨v0, vs0, d0, ds0, p0, q0, hargs, rfl, rfl, h0, r0⟩ := trodAll_cons hA
  obtain ⟨v1, vs1, d1, ds1, p1, q1, rfl, rfl, rfl, h1, r1⟩ := trodAll_cons r0
  obtain ⟨v2, vs2, d2, ds2, p2, q2, rfl, rfl, rfl, h2, r2⟩ := trodAll_cons r1
  obtain ⟨v3, vs3, d3, ds3, p3, q3, rfl, rfl, rfl, h3, r3⟩ := trodAll_cons r2
  obtain ⟨v4, vs4, d4, ds4, p4, q4, rfl, rfl, rfl, h4, r4⟩ := trodAll_cons r3
  obtain ⟨v5, vs5, d5, ds5, p5, q5, rfl, rfl, rfl, h5, r5⟩ := trodAll_cons r4
  obtain ⟨rfl, rfl, rfl⟩ := trodAll_nil r5
  obtain rfl : args = #[v0, v1, v2, v3, v4, v5] := by cases args; simp_all
  obtain ⟨rfl, rfl⟩ := trodVars_none hV
  obtain ⟨x0, rfl, rfl, rfl, w0⟩ := open_int Try.underlying3 (hval 0 3 v0 rfl rfl) h0
  obtain ⟨a1, len1, cap1, rfl⟩ := okWide_slice Try.underlying22 (hval 1 22 v1 rfl rfl)
  have k1 := h1
  have lt1 : ∀ x ∈ p1, x.block < W.heap.size := by obtain ⟨m, hm⟩ := k1; exact DataW.trod_lt m _ _ _ hm
  obtain ⟨z1, hv1, hw1, _, hm1⟩ := open_Tz h1
  obtain ⟨x2, rfl, rfl, rfl, w2⟩ := open_int Try.underlying3 (hval 2 3 v2 rfl rfl) h2
  obtain ⟨x3, rfl, rfl, rfl, w3⟩ := open_int Try.underlying3 (hval 3 3 v3 rfl rfl) h3
  obtain ⟨a4, len4, cap4, rfl⟩ := okWide_slice Try.underlying23 (hval 4 23 v4 rfl rfl)
  have k4 := h4
  have lt4 : ∀ x ∈ p4, x.block < W.heap.size := by obtain ⟨m, hm⟩ := k4; exact DataW.trod_lt m _ _ _ hm
  obtain ⟨z4, hv4, hw4, _, hm4⟩ := open_intS h4 rfl
  obtain ⟨x5, rfl, rfl, rfl, w5⟩ := open_int Try.underlying3 (hval 5 3 v5 rfl rfl) h5
  clear hA0 hval0
  refine (walk x0 _ z1 x2 x3 _ z4 x5 W (wfI w0) hv1 hw1 hm1 (wfI w2) (wfI w3) hv4 hw4 hm4 (wfI w5)).mono fun e W' ⟨he, bel⟩ => ?_
  subst he
  exact ⟨_, rfl, _, _, _, [], _, [], hW', trodAll_mk1 (shut_bool Try.underlying4 _), (trodAll_cons_mk (shut_int Try.underlying3 w0) (trodAll_cons_mk (Below.trod laidOut (by kernel_rfl) (of_decide_eq_true (by kernel_rfl)) k1 bel lt1) (trodAll_cons_mk (shut_int Try.underlying3 w2) (trodAll_cons_mk (shut_int Try.underlying3 w3) (trodAll_cons_mk (Below.trod laidOut (by kernel_rfl) (of_decide_eq_true (by kernel_rfl)) k4 bel lt4) (trodAll_cons_mk (shut_int Try.underlying3 w5) trodAll_mk0)))))), rfl, bel.frame _, fun h => by cases h⟩

theorem closed : joinedFacts Try.prog 8 Try.f8 Rows.fnExactLateBlameSpec Rows.fnExactLateBlameRow = true := by
  delta joinedFacts
  refine and_t (and_t (and_t (and_t (and_t (and_t (and_t ?_ mayE) (liftE rfl)) (makeE rfl)) ?_) ?_) ?_) ?_
  all_goals kernel_rfl
theorem over : Rows.fnExactLateBlameRow.holds Try.pinned (OpenSpec.ofChange Rows.fnExactLateBlameSpec) :=
  OpenClaim.holds_of_wide 8 Try.f8 rfl rfl rfl rfl rfl rfl rfl ⟨rfl, rfl, rfl, rfl, rfl⟩ rfl rfl rfl rfl rfl (by kernel_rfl) Try.func8 closed
    (of_decide_eq_true (by kernel_rfl)) (by unfold Func.isWrapper; first | (rw [if_pos (by decide +kernel)]; kernel_rfl) | (rw [if_neg (by decide +kernel)]; exact ⟨rfl, rfl⟩))
    (fun os started H enc _ => lifted os started H enc)

theorem proved : Rows.FnExactLateBlameSaid := over
#print axioms proved
end Go.Proofs.Ytmphpbjmpokjjaa.lawFnExactLateBlame
