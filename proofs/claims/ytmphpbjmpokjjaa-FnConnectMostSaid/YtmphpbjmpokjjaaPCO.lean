/- The law FnConnectMost holds at every input. No condition. -/
import Derived.Test.YtmphpbjmpokjjaaOJ
import Derived.Test.YtmphpbjmpokjjaaDLD
import Derived.Test.YtmphpbjmpokjjaaKF
import Derived.Test.YtmphpbjmpokjjaaCNF
import Derived.Test.YtmphpbjmpokjjaaDO
namespace Go.Proofs.Ytmphpbjmpokjjaa.lawFnConnectMost
open Go.ChangeShapes Go.WideShapes Go.ChangeAt Go.RowKit
set_option linter.unusedVariables false

set_option maxRecDepth 100000 in
set_option maxHeartbeats 2000000 in
theorem walk (v : Value) (l : List Int) (w : World) (hv : BytesIn w v l) (hm : l.length ≤ maxLen) :
    Calls Try.prog 16 #[v] w fun e w' => e = .returned (.bool true) ∧ Below w.heap.size w w' := by
  have Hv := Lib.hid hv
  obtain ⟨av, cv, rfl, hcv, _, _⟩ := hv
  clear hcv
  by_cases hl : l.length ≤ 1048576
  · have hl' : ¬ (1048576 : Int) < (l.length : Int) := by omega
    go_enter Try.func16, Try.ntmps16
    go_wp2_with fail
    refine (drawConnectMost_any _ l _ Hv.out hl).mono ?_; rintro e w1 ⟨n, va, xs, vb, ys, town, change, most, rfl, hx1, hx8, hy1, hy8, ⟨c0, c1⟩, _, hb1⟩
    have HX1 := Lib.hid hx1
    have HY1 := Lib.hid hy1
    have HB1 := Lib.hid hb1
    have hx : xs.length ≤ 1048576 := by omega
    have hy : ys.length ≤ 1048576 := by omega
    have H2 := Lib.hid (fun w' (h : RoadsIn w' va xs) (h' : RoadsIn w' vb ys) => cmost2_any n va xs vb ys town change most w' h h' hx hy)
    have H1 := Lib.hid (fun w' (h : RoadsIn w' va xs) (h' : RoadsIn w' vb ys) => cmost1_any n va xs vb ys town change most w' h h' hx hy)
    have Hc := Lib.hid (fun w' (h : RoadsIn w' va xs) (h' : RoadsIn w' vb ys) => cmost2_any n va xs vb ys town (change + 1) most w' h h' hx hy)
    have Hd := Lib.hid (fun (t : Int) w' (h : RoadsIn w' va xs) (h' : RoadsIn w' vb ys) => made2_any n va xs vb ys town t change most w' h h' hx hy)
    have hbd := cm_bd n xs ys town change most
    clear hx1 hy1 hb1
    by_cases hok : 0 ≤ cmX n xs ys town change most
    · obtain ⟨⟨q0, q9⟩, f1, f2, f3⟩ := most_facts hok
      have Hd1 := Lib.hid (fun w' (h : RoadsIn w' va xs) (h' : RoadsIn w' vb ys) => Hd.out (cmX n xs ys town change most) w' h h')
      rw [f1] at Hd1
      have Hd2 := Lib.hid (fun (hne : cmX n xs ys town change most ≠ 300) w' (h : RoadsIn w' va xs) (h' : RoadsIn w' vb ys) => (show Calls Try.prog 43 #[.int .i64 n, va, vb, .int .i64 town, .int .i64 (cmX n xs ys town change most + 1), .int .i64 change, .int .i64 most] w' (Gives (.bool false) w') from f2 hne ▸ Hd.out (cmX n xs ys town change most + 1) w' h h'))
      have hcw : wrap64 (change + 1) = change + 1 := by unfold wrap64; omega
      have Hf3 := Lib.hid f3
      clear f1 f2 f3 Hd hok hbd
      generalize cmX n xs ys town (change + 1) most = cx at *
      generalize cmX n xs ys town change most = cm at *
      have hf3 := Hf3.out
      have hne2 : (cm != cm) = false := by simp
      have hnn : ¬ cm < 0 := by omega
      have hmw : wrap64 (cm + 1) = cm + 1 := by unfold wrap64; omega
      go_wp2_with fail
      refine (H2.out _ HX1.out HY1.out).mono ?_; rintro e w2 ⟨rfl, hb2⟩
      have HX2 := Lib.hid (HX1.out.below hb2)
      have HY2 := Lib.hid (HY1.out.below hb2)
      have HB2 := Lib.hid (HB1.out.trans (hb2.mono HB1.out.size))
      clear hb2
      go_wp2_with fail
      refine (H1.out _ HX2.out HY2.out).mono ?_; rintro e w3 ⟨rfl, hb3⟩
      have HX3 := Lib.hid (HX2.out.below hb3)
      have HY3 := Lib.hid (HY2.out.below hb3)
      have HB3 := Lib.hid (HB2.out.trans (hb3.mono HB2.out.size))
      clear hb3
      go_wp2_with fail
      refine (Hc.out _ HX3.out HY3.out).mono ?_; rintro e w4 ⟨rfl, hb4⟩
      have HX4 := Lib.hid (HX3.out.below hb4)
      have HY4 := Lib.hid (HY3.out.below hb4)
      have HB4 := Lib.hid (HB3.out.trans (hb4.mono HB3.out.size))
      clear hb4
      go_wp2_with fail
      refine (Hd1.out _ HX4.out HY4.out).mono ?_; rintro e w5 ⟨rfl, hb5⟩
      have HX5 := Lib.hid (HX4.out.below hb5)
      have HY5 := Lib.hid (HY4.out.below hb5)
      have HB5 := Lib.hid (HB4.out.trans (hb5.mono HB4.out.size))
      clear hb5
      by_cases q : cm = 300
      · subst q
        go_wp2
        go_ret
        exact ⟨by first | rfl | exact ret_bool (by simp; omega), HB5.out⟩
      · have q' : (cm == 300) = false := by simpa using q
        have Hd3 := Lib.hid (Hd2.out q)
        clear q Hd2
        go_wp2_with fail
        refine (Hd3.out _ HX5.out HY5.out).mono ?_; rintro e w6 ⟨rfl, hb6⟩
        have HX6 := Lib.hid (HX5.out.below hb6)
        have HY6 := Lib.hid (HY5.out.below hb6)
        have HB6 := Lib.hid (HB5.out.trans (hb6.mono HB5.out.size))
        clear hb6
        go_wp2
        go_ret
        exact ⟨by first | rfl | exact ret_bool (by simp; omega), HB6.out⟩
    · have hneg : cmX n xs ys town change most < 0 := by omega
      have e9 : cmX n xs ys town change most = -1 := by omega
      rw [e9] at H2 H1
      clear hok hneg e9 hbd Hc Hd
      go_wp2_with fail
      refine (H2.out _ HX1.out HY1.out).mono ?_; rintro e w2 ⟨rfl, hb2⟩
      have HX2 := Lib.hid (HX1.out.below hb2)
      have HY2 := Lib.hid (HY1.out.below hb2)
      have HB2 := Lib.hid (HB1.out.trans (hb2.mono HB1.out.size))
      clear hb2
      go_wp2_with fail
      refine (H1.out _ HX2.out HY2.out).mono ?_; rintro e w3 ⟨rfl, hb3⟩
      have HX3 := Lib.hid (HX2.out.below hb3)
      have HY3 := Lib.hid (HY2.out.below hb3)
      have HB3 := Lib.hid (HB2.out.trans (hb3.mono HB2.out.size))
      clear hb3
      go_wp2
      go_ret
      exact ⟨rfl, HB3.out⟩
  · have hl' : (1048576 : Int) < (l.length : Int) := by omega
    go_enter Try.func16, Try.ntmps16
    go_wp2
    go_ret
    exact ⟨rfl, Below.refl _ _⟩

set_option maxRecDepth 100000 in
theorem lifted (os : Os) (started : os.Started) (H : Type) (enc : TypeId × Value → H) :
    ReturnsInHanded {} Try.checked os 16 .any (Rows.fnConnectMostSpec.pre6 enc Try.prog Try.f16 Rows.fnConnectMostRow.domain false) (Rows.fnConnectMostSpec.post enc Try.prog Try.f16 false true false false) := by
  refine returnsInHanded_of_change (C := Try.checked) own started (by kernel_rfl) Try.func16
    (ChangeSpec.witness6 (enc := enc) (C := Try.checked) false ⟨#[], #[.slice none 0 0], []⟩ 8 (by kernel_rfl) (by kernel_rfl) (by kernel_rfl) (by kernel_rfl)) ?_
  intro W base args ds gs before hval0 hW hcnd _
  have hval : ∀ (j : Nat) t v, Try.f16.params[j]? = some t → args[j]? = some v → Value.okWide Try.prog W .any base t v := hval0
  have hW' := hW
  obtain ⟨p, q, hA0, hV, rfl, hfz, hnd⟩ := hW
  have hA : DataW.TrodAll enc Try.prog W 0 (fun _ => true) true Try.f16.params.toList args.toList ds p := hA0
  rw [Try.params16] at hA hval
  obtain ⟨v0, vs0, d0, ds0, p0, q0, hargs, rfl, rfl, h0, r0⟩ := trodAll_cons hA
  obtain ⟨rfl, rfl, rfl⟩ := trodAll_nil r0
  obtain rfl : args = #[v0] := by cases args; simp_all
  obtain ⟨rfl, rfl⟩ := trodVars_none hV
  obtain ⟨a0, len0, cap0, rfl⟩ := okWide_slice Try.underlying49 (hval 0 49 v0 rfl rfl)
  have k0 := h0
  have lt0 : ∀ x ∈ p0, x.block < W.heap.size := by obtain ⟨m, hm⟩ := k0; exact DataW.trod_lt m _ _ _ hm
  obtain ⟨z0, hv0, hm0⟩ := open_byteS h0 rfl
  clear hA0 hval0
  refine (walk _ z0 W hv0 hm0).mono fun e W' ⟨he, bel⟩ => ?_
  subst he
  exact ⟨_, rfl, _, _, _, [], _, [], hW', trodAll_mk1 (shut_bool Try.underlying4 _), (trodAll_cons_mk (Below.trod laidOut (by kernel_rfl) (of_decide_eq_true (by kernel_rfl)) k0 bel lt0) trodAll_mk0), rfl, bel.frame _, fun h => by cases h⟩

theorem closed : joinedFacts Try.prog 16 Try.f16 Rows.fnConnectMostSpec Rows.fnConnectMostRow = true := by
  delta joinedFacts
  refine and_t (and_t (and_t (and_t (and_t (and_t (and_t ?_ mayE) (liftE rfl)) (makeE rfl)) ?_) ?_) ?_) ?_
  all_goals kernel_rfl
theorem over : Rows.fnConnectMostRow.holds Try.pinned (OpenSpec.ofChange Rows.fnConnectMostSpec) :=
  OpenClaim.holds_of_wide 16 Try.f16 rfl rfl rfl rfl rfl rfl rfl ⟨rfl, rfl, rfl, rfl, rfl⟩ rfl rfl rfl rfl rfl (by kernel_rfl) Try.func16 closed
    (of_decide_eq_true (by kernel_rfl)) (by unfold Func.isWrapper; first | (rw [if_pos (by decide +kernel)]; kernel_rfl) | (rw [if_neg (by decide +kernel)]; exact ⟨rfl, rfl⟩))
    (fun os started H enc _ => lifted os started H enc)

theorem proved : Rows.FnConnectMostSaid := over
#print axioms proved
end Go.Proofs.Ytmphpbjmpokjjaa.lawFnConnectMost
