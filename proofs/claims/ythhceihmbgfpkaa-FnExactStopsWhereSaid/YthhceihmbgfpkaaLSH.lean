/- The law FnExactStopsWhere holds at every input. No condition. -/
import Derived.Test.YthhceihmbgfpkaaSH
import Derived.Test.YthhceihmbgfpkaaBO
namespace Go.Proofs.Ythhceihmbgfpkaa.lawFnExactStopsWhere
open Go.ChangeShapes Go.WideShapes Go.ChangeAt Go.RowKit
set_option linter.unusedVariables false

set_option maxRecDepth 100000 in
set_option maxHeartbeats 400000 in
theorem walk (n : Int) (v : Value) (l : List Rd) (a0 : Int) (w : World) (wn : W64 n) (hv : RoadsIn w v l) (hw : RdWf l) (hm : l.length ≤ maxLen) (wa0 : W64 a0) :
    Calls Try.prog 13 #[.int .i64 n, v, .int .i64 a0] w fun e w' => e = .returned (.bool true) ∧ Below w.heap.size w w' := by
  by_cases hl : l.length ≤ 1048576
  · have Hw := Lib.hid hw; clear hw
    go_enter Try.func13, Try.ntmps13
    go_wp2_with fail
    refine (szStopS_yes _ l _ hv hl).mono ?_; rintro e w' ⟨rfl, rfl⟩
    go_wp2_with fail
    refine (toStopS_any _ l _ hv hl).mono ?_; rintro e w1 ⟨b1, rfl, hb1, hl1, hr1, hm1, bel1⟩
    have hv1 := hv.below bel1
    have hx1 := RoadsIn.row (cap := l.length) hl1 hr1
    go_wp2_with fail
    refine (show Calls _ _ _ _ (Gives (.tuple #[.int .i64 (whereK n l a0 : Int), .bool (whereT n l a0), .bool (whereOk n l a0)]) _) from where1_any n _ l a0 _ hx1 hl).mono ?_; rintro e w2 ⟨rfl, bel2⟩
    have hv2 := hv1.below bel2
    clear hx1 hr1 hm1
    go_wp2_with fail
    refine (toStopS_any _ l _ hv2 hl).mono ?_; rintro e w3 ⟨b2, rfl, hb2, hl2, hr2, hm2, bel3⟩
    have hv3 := hv2.below bel3
    have hx2 := RoadsIn.row (cap := l.length) hl2 hr2
    go_wp2_with fail
    refine (show Calls _ _ _ _ (Gives (.tuple #[.int .i64 (whereK n l a0 : Int), .bool (whereT n l a0), .bool (whereOk n l a0)]) _) from where2_any n _ l a0 _ hx2 hl).mono ?_; rintro e w4 ⟨rfl, bel4⟩
    have hv4 := hv3.below bel4
    have hx3 := hx2.below bel4
    clear hx2 hr2 hm2
    go_wp2_with fail
    refine (toStopS_any _ l _ hv4 hl).mono ?_; rintro e w5 ⟨b3, rfl, hb3, hl3, hr3, hm3, bel5⟩
    have hx4 := hx3.below bel5
    have hx5 := RoadsIn.row (cap := l.length) hl3 hr3
    clear hx3 hr3 hm3
    go_wp2_with fail
    refine (eqStopS_any _ _ l l _ hx4 hx5 hl).mono ?_; rintro e w6 ⟨⟨x, rfl, hx⟩, bel6⟩
    obtain rfl : x = true := hx.2 rfl
    go_wp2
    go_ret
    refine ⟨rfl, ?_⟩
    have q1 := bel1.size
    have q2 := bel2.size
    have q3 := bel3.size
    have q4 := bel4.size
    have q5 := bel5.size
    exact ((((bel1.trans (bel2.mono (by omega))).trans (bel3.mono (by omega))).trans (bel4.mono (by omega))).trans (bel5.mono (by omega))).trans (bel6.mono (by omega))
  · go_enter Try.func13, Try.ntmps13
    go_wp2_with fail
    refine (szStopS_no _ l _ hv hm hl).mono ?_; rintro e w' ⟨rfl, rfl⟩
    go_wp2
    go_ret
    exact ⟨rfl, Below.refl _ _⟩

set_option maxRecDepth 100000 in
theorem lifted (os : Os) (started : os.Started) (H : Type) (enc : TypeId × Value → H) :
    ReturnsInHanded {} Try.checked os 13 .any (Rows.fnExactStopsWhereSpec.pre6 enc Try.prog Try.f13 Rows.fnExactStopsWhereRow.domain false) (Rows.fnExactStopsWhereSpec.post enc Try.prog Try.f13 false true false false) := by
  refine returnsInHanded_of_change (C := Try.checked) own started (by kernel_rfl) Try.func13
    (ChangeSpec.witness6 (enc := enc) (C := Try.checked) false ⟨#[], #[.int .i64 0, .slice none 0 0, .int .i64 0], []⟩ 8 (by kernel_rfl) (by kernel_rfl) (by kernel_rfl) (by kernel_rfl)) ?_
  intro W base args ds gs before hval0 hW hcnd _
  have hval : ∀ (j : Nat) t v, Try.f13.params[j]? = some t → args[j]? = some v → Value.okWide Try.prog W .any base t v := hval0
  have hW' := hW
  obtain ⟨p, q, hA0, hV, rfl, hfz, hnd⟩ := hW
  have hA : DataW.TrodAll enc Try.prog W 0 (fun _ => true) true Try.f13.params.toList args.toList ds p := hA0
  rw [Try.params13] at hA hval
  obtain ⟨v0, vs0, d0, ds0, p0, q0, hargs, rfl, rfl, h0, r0⟩ := trodAll_cons hA
  obtain ⟨v1, vs1, d1, ds1, p1, q1, rfl, rfl, rfl, h1, r1⟩ := trodAll_cons r0
  obtain ⟨v2, vs2, d2, ds2, p2, q2, rfl, rfl, rfl, h2, r2⟩ := trodAll_cons r1
  obtain ⟨rfl, rfl, rfl⟩ := trodAll_nil r2
  obtain rfl : args = #[v0, v1, v2] := by cases args; simp_all
  obtain ⟨rfl, rfl⟩ := trodVars_none hV
  obtain ⟨x0, rfl, rfl, rfl, w0⟩ := open_int Try.underlying3 (hval 0 3 v0 rfl rfl) h0
  obtain ⟨a1, len1, cap1, rfl⟩ := okWide_slice Try.underlying28 (hval 1 28 v1 rfl rfl)
  have k1 := h1
  have lt1 : ∀ x ∈ p1, x.block < W.heap.size := by obtain ⟨m, hm⟩ := k1; exact DataW.trod_lt m _ _ _ hm
  obtain ⟨z1, hv1, hw1, _, hm1⟩ := open_stops h1
  obtain ⟨x2, rfl, rfl, rfl, w2⟩ := open_int Try.underlying3 (hval 2 3 v2 rfl rfl) h2
  clear hA0 hval0
  refine (walk x0 _ z1 x2 W (wfI w0) hv1 hw1 hm1 (wfI w2)).mono fun e W' ⟨he, bel⟩ => ?_
  subst he
  exact ⟨_, rfl, _, _, _, [], _, [], hW', trodAll_mk1 (shut_bool Try.underlying4 _), (trodAll_cons_mk (shut_int Try.underlying3 w0) (trodAll_cons_mk (Below.trod laidOut (by kernel_rfl) (of_decide_eq_true (by kernel_rfl)) k1 bel lt1) (trodAll_cons_mk (shut_int Try.underlying3 w2) trodAll_mk0))), rfl, bel.frame _, fun h => by cases h⟩

theorem over : Rows.fnExactStopsWhereRow.holds Try.pinned (OpenSpec.ofChange Rows.fnExactStopsWhereSpec) :=
  OpenClaim.holds_of_wide 13 Try.f13 rfl rfl rfl rfl rfl rfl rfl ⟨rfl, rfl, rfl, rfl, rfl⟩ rfl rfl rfl rfl rfl (by kernel_rfl) Try.func13 (by kernel_rfl)
    (of_decide_eq_true (by kernel_rfl)) (by unfold Func.isWrapper; first | (rw [if_pos (by decide +kernel)]; kernel_rfl) | (rw [if_neg (by decide +kernel)]; exact ⟨rfl, rfl⟩))
    (fun os started H enc _ => lifted os started H enc)

theorem proved : Rows.FnExactStopsWhereSaid := over
#print axioms proved
end Go.Proofs.Ythhceihmbgfpkaa.lawFnExactStopsWhere
