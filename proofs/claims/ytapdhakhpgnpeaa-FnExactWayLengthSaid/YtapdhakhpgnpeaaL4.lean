/- The law FnExactWayLength holds at every input: the program's function answers as its model and leaves its arguments alone. No condition. -/
import Derived.Test.YtapdhakhpgnpeaaW1
import Derived.Test.YtapdhakhpgnpeaaW7
import Derived.Test.YtapdhakhpgnpeaaP
namespace Go.Proofs.Ytapdhakhpgnpeaa.lawExactWayLength
open Go.ChangeShapes Go.WideShapes Go.ChangeAt Go.RowKit
set_option linter.unusedVariables false

set_option maxHeartbeats 400000 in
theorem walk (n : Int) (v : Value) (l : List Rd) (u : Value) (way : List Int) (w : World) (hv : RoadsIn w v l) (hw : RdWf l) (hm : l.length ≤ maxLen) (wn : W64 n) (hu : IntsIn w u way) (hum : way.length ≤ maxLen) (huw : IntWf way) :
    Calls Try.prog 7 #[.int .i64 n, v, u] w fun e w' => e = .returned (.bool true) ∧ Below w.heap.size w w' := by
  by_cases hul : way.length ≤ 1048576
  · by_cases hl : l.length ≤ 1048576
    · have Hw := Lib.hid hw; clear hw
      have Huw := Lib.hid huw; clear huw
      have hu0 := hu
      obtain ⟨au, cu, hueq, _, _⟩ := hu
      subst hueq
      go_enter Try.func7, Try.ntmps7
      go_wp2_with fail
      refine (szRoadS_yes _ l _ hv hl).mono ?_; rintro e w' ⟨rfl, rfl⟩
      go_wp2_with fail
      refine (toRoadS_any _ l _ hv hl).mono ?_; rintro e w1 ⟨b1, rfl, hb1, hl1, hr1, hm1, bel1⟩
      have hv1 := hv.below bel1
      have hu1 := hu0.below bel1
      have hx1 := RoadsIn.row (cap := l.length) hl1 hr1
      clear hr1 hm1
      go_wp2_with fail
      refine (toIntS_any _ way _ hu1 hul).mono ?_; rintro e w2 ⟨b2, rfl, hb2, hl2, hr2, hm2, bel2⟩
      have hv2 := hv1.below bel2
      have hu2 := hu1.below bel2
      have hx2 := hx1.below bel2
      have hy2 := IntsIn.row (cap := way.length) hl2 (Nat.le_refl _) hr2
      clear hr2 hm2 hx1
      go_wp2_with fail
      refine (specWay_any _ _ l _ way _ hx2 hl hy2 hul).mono ?_; rintro e w3 ⟨rfl, bel3⟩
      have hv3 := hv2.below bel3
      have hu3 := hu2.below bel3
      clear hx2 hy2
      go_wp2_with fail
      refine (toRoadS_any _ l _ hv3 hl).mono ?_; rintro e w4 ⟨b3, rfl, hb3, hl3, hr3, hm3, bel4⟩
      have hv4 := hv3.below bel4
      have hu4 := hu3.below bel4
      have hx4 := RoadsIn.row (cap := l.length) hl3 hr3
      clear hr3 hm3
      go_wp2_with fail
      refine (toIntS_any _ way _ hu4 hul).mono ?_; rintro e w5 ⟨b4, rfl, hb4, hl4, hr4, hm4, bel5⟩
      have hv5 := hv4.below bel5
      have hu5 := hu4.below bel5
      have hx5 := hx4.below bel5
      have hy5 := IntsIn.row (cap := way.length) hl4 (Nat.le_refl _) hr4
      clear hr4 hm4 hx4
      go_wp2_with fail
      refine (way2_any _ _ l _ way _ hx5 hl Hw.out hy5 hul Huw.out).mono ?_; rintro e w6 ⟨rfl, bel6⟩
      have hv6 := hv5.below bel6
      have hu6 := hu5.below bel6
      have hx6 := hx5.below bel6
      have hy6 := hy5.below bel6
      clear hx5 hy5
      go_wp2_with fail
      refine (toRoadS_any _ l _ hv6 hl).mono ?_; rintro e w7 ⟨b5, rfl, hb5, hl5, hr5, hm5, bel7⟩
      have hu7 := hu6.below bel7
      have hx7 := hx6.below bel7
      have hy7 := hy6.below bel7
      have hz7 := RoadsIn.row (cap := l.length) hl5 hr5
      clear hr5 hm5 hx6 hy6
      go_wp2_with fail
      refine (eqRoadS_any _ _ l l _ hx7 hz7 hl).mono ?_; rintro e w8 ⟨⟨x, rfl, hx⟩, bel8⟩
      obtain rfl : x = true := hx.2 rfl
      have hu8 := hu7.below bel8
      have hy8 := hy7.below bel8
      clear hx7 hz7 hy7 hx
      go_wp2_with fail
      refine (toIntS_any _ way _ hu8 hul).mono ?_; rintro e w9 ⟨b6, rfl, hb6, hl6, hr6, hm6, bel9⟩
      have hy9 := hy8.below bel9
      have hz9 := IntsIn.row (cap := way.length) hl6 (Nat.le_refl _) hr6
      clear hr6 hm6 hy8
      go_wp2_with fail
      refine (eqIntS_any _ _ way way _ hy9 hz9 hul).mono ?_; rintro e w10 ⟨⟨y, rfl, hy⟩, bel10⟩
      obtain rfl : y = true := hy.2 rfl
      go_wp2
      go_ret
      refine ⟨rfl, ?_⟩
      have q1 := bel1.size
      have q2 := bel2.size
      have q3 := bel3.size
      have q4 := bel4.size
      have q5 := bel5.size
      have q6 := bel6.size
      have q7 := bel7.size
      have q8 := bel8.size
      have q9 := bel9.size
      exact ((((((((bel1.trans (bel2.mono (by omega))).trans (bel3.mono (by omega))).trans (bel4.mono (by omega))).trans (bel5.mono (by omega))).trans (bel6.mono (by omega))).trans (bel7.mono (by omega))).trans (bel8.mono (by omega))).trans (bel9.mono (by omega))).trans (bel10.mono (by omega))
    · obtain ⟨au, cu, rfl, _, _⟩ := hu
      go_enter Try.func7, Try.ntmps7
      go_wp2_with fail
      refine (szRoadS_no _ l _ hv hm hl).mono ?_; rintro e w' ⟨rfl, rfl⟩
      go_wp2
      go_ret
      exact ⟨rfl, Below.refl _ _⟩
  · obtain ⟨au, cu, rfl, _, _⟩ := hu
    go_enter Try.func7, Try.ntmps7
    go_wp2
    go_ret
    exact ⟨rfl, Below.refl _ _⟩

set_option maxRecDepth 100000 in
theorem lifted (os : Os) (started : os.Started) (H : Type) (enc : TypeId × Value → H) :
    ReturnsInHanded {} Try.checked os 7 .any (Rows.fnExactWayLengthSpec.pre6 enc Try.prog Try.f7 Rows.fnExactWayLengthRow.domain false) (Rows.fnExactWayLengthSpec.post enc Try.prog Try.f7 false true false false) := by
  refine returnsInHanded_of_change (C := Try.checked) own started (by kernel_rfl) Try.func7
    (ChangeSpec.witness6 (enc := enc) (C := Try.checked) false ⟨#[], #[.int .i64 0, .slice none 0 0, .slice none 0 0], []⟩ 8 (by kernel_rfl) (by kernel_rfl) (by kernel_rfl) (by kernel_rfl)) ?_
  intro W base args ds gs before hval0 hW hcnd _
  have hval : ∀ (j : Nat) t v, Try.f7.params[j]? = some t → args[j]? = some v → Value.okWide Try.prog W .any base t v := hval0
  have hW' := hW
  obtain ⟨p, q, hA0, hV, rfl, hfz, hnd⟩ := hW
  have hA : DataW.TrodAll enc Try.prog W 0 (fun _ => true) true Try.f7.params.toList args.toList ds p := hA0
  rw [Try.params7] at hA hval
  obtain ⟨v0, vs0, d0, ds0, p0, q0, hargs, rfl, rfl, h0, r0⟩ := trodAll_cons hA
  obtain ⟨v1, vs1, d1, ds1, p1, q1, rfl, rfl, rfl, h1, r1⟩ := trodAll_cons r0
  obtain ⟨v2, vs2, d2, ds2, p2, q2, rfl, rfl, rfl, h2, r2⟩ := trodAll_cons r1
  obtain ⟨rfl, rfl, rfl⟩ := trodAll_nil r2
  obtain rfl : args = #[v0, v1, v2] := by cases args; simp_all
  obtain ⟨rfl, rfl⟩ := trodVars_none hV
  obtain ⟨x0, rfl, rfl, rfl, w0⟩ := open_int Try.underlying3 (hval 0 3 v0 rfl rfl) h0
  obtain ⟨a1, len1, cap1, rfl⟩ := okWide_slice Try.underlying22 (hval 1 22 v1 rfl rfl)
  have k1 := h1
  have lt1 : ∀ x ∈ p1, x.block < W.heap.size := by obtain ⟨m, hm⟩ := k1; exact DataW.trod_lt m _ _ _ hm
  obtain ⟨z1, hv1, hw1, _, hm1⟩ := open_roads h1
  obtain ⟨a2, len2, cap2, rfl⟩ := okWide_slice Try.underlying40 (hval 2 40 v2 rfl rfl)
  have k2 := h2
  have lt2 : ∀ x ∈ p2, x.block < W.heap.size := by obtain ⟨m, hm⟩ := k2; exact DataW.trod_lt m _ _ _ hm
  obtain ⟨z2, hv2, hw2, _, hm2⟩ := open_intS h2 rfl
  clear hA0 hval0
  refine (walk x0 _ z1 _ z2 W hv1 hw1 hm1 (wfI w0) hv2 hm2 hw2).mono fun e W' ⟨he, bel⟩ => ?_
  subst he
  exact ⟨_, rfl, _, _, _, [], _, [], hW', trodAll_mk1 (shut_bool Try.underlying4 _), (trodAll_cons_mk (shut_int Try.underlying3 w0) (trodAll_cons_mk (Below.trod laidOut (by kernel_rfl) (of_decide_eq_true (by kernel_rfl)) k1 bel lt1) (trodAll_cons_mk (Below.trod laidOut (by kernel_rfl) (of_decide_eq_true (by kernel_rfl)) k2 bel lt2) trodAll_mk0))), rfl, bel.frame _, fun h => by cases h⟩

theorem over : Rows.fnExactWayLengthRow.holds Try.pinned (OpenSpec.ofChange Rows.fnExactWayLengthSpec) :=
  OpenClaim.holds_of_wide 7 Try.f7 rfl rfl rfl rfl rfl rfl rfl ⟨rfl, rfl, rfl, rfl, rfl⟩ rfl rfl rfl rfl rfl (by kernel_rfl) Try.func7 (by kernel_rfl)
    (of_decide_eq_true (by kernel_rfl)) (by unfold Func.isWrapper; first | (rw [if_pos (by decide +kernel)]; kernel_rfl) | (rw [if_neg (by decide +kernel)]; exact ⟨rfl, rfl⟩))
    (fun os started H enc _ => lifted os started H enc)

theorem proved : Rows.FnExactWayLengthSaid := over
#print axioms proved
end Go.Proofs.Ytapdhakhpgnpeaa.lawExactWayLength
