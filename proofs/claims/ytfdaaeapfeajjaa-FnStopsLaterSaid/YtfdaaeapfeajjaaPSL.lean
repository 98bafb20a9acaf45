/- The law FnStopsLater holds at every input. No condition. -/
import Derived.Test.YtfdaaeapfeajjaaDSL
import Derived.Test.YtfdaaeapfeajjaaSLF
import Derived.Test.YtfdaaeapfeajjaaSL
namespace Go.Proofs.Ytfdaaeapfeajjaa.lawFnStopsLater
open Go.ChangeShapes Go.WideShapes Go.ChangeAt Go.RowKit
set_option linter.unusedVariables false

set_option maxRecDepth 100000 in
set_option maxHeartbeats 2000000 in
theorem walk (v : Value) (l : List Int) (w : World) (hv : BytesIn w v l) (hm : l.length ≤ maxLen) :
    Calls Try.prog 3 #[v] w fun e w' => e = .returned (.bool true) ∧ Below w.heap.size w w' := by
  have Hv := Lib.hid hv
  obtain ⟨av, cv, rfl, hcv, _, _⟩ := hv
  clear hcv
  by_cases hl : l.length ≤ 1048576
  · have hl' : ¬ (1048576 : Int) < (l.length : Int) := by omega
    go_enter Try.func3, Try.ntmps3
    go_wp2_with fail
    refine (drawLater_any _ l _ Hv.out hl).mono ?_; rintro e w1 ⟨n, ad, cap, xs, t, rfl, hn2, hn6, hcap, h8, hown, wt, hb⟩
    have Hx1 := Lib.hid (hown.ins (cap := cap))
    have HB1 := Lib.hid hb
    have hx : xs.length ≤ 1048576 := by omega
    clear hown hb hcap
    have H2 := Lib.hid (fun u (ys : List Rd) w' (h : RoadsIn w' u ys) (hy : ys.length ≤ 1048576) => later2_any n u ys t w' h hy wt)
    have H1 := Lib.hid (fun w' (h : RoadsIn w' (.slice ad xs.length cap) xs) => later1_any n _ xs t w' h hx wt)
    have H2a := Lib.hid (fun w' (h : RoadsIn w' (.slice ad xs.length cap) xs) => H2.out _ xs w' h hx)
    cases hok : laterOk n xs t with
    | false =>
      have hno : laterL n xs t = [] := if_neg (by rw [hok]; simp)
      rw [hno, hok] at H2a H1
      clear hok hno H2
      go_wp2_with fail
      refine (H2a.out _ Hx1.out).mono ?_; rintro e w2 ⟨ad2, cap2, rfl, ho2, _, hb2⟩
      have Hx2 := Lib.hid (Hx1.out.below hb2)
      have HB2 := Lib.hid (HB1.out.trans (hb2.mono HB1.out.size))
      have HI2 := Lib.hid (ho2.ins (cap := cap2))
      clear hb2 ho2
      go_wp2_with fail
      refine (H1.out _ Hx2.out).mono ?_; rintro e w3 ⟨ad3, cap3, rfl, ho3, _, hb3⟩
      have HB3 := Lib.hid (HB2.out.trans (hb3.mono HB2.out.size))
      have HI3 := Lib.hid (HI2.out.below hb3)
      have HJ3 := Lib.hid (ho3.ins (cap := cap3))
      clear hb3 ho3
      go_wp2_with fail
      refine (sameStops_eq _ _ [] _ HI3.out HJ3.out (by simp)).mono ?_; rintro e w4 ⟨rfl, hb4⟩
      have HB4 := Lib.hid (HB3.out.trans (hb4.mono HB3.out.size))
      have HI4 := Lib.hid (HI3.out.below hb4)
      have HJ4 := Lib.hid (HJ3.out.below hb4)
      clear hb4
      go_wp2_with fail
      refine (sameStops_eq _ _ [] _ HI4.out HJ4.out (by simp)).mono ?_; rintro e w5 ⟨rfl, hb5⟩
      have HB5 := Lib.hid (HB4.out.trans (hb5.mono HB4.out.size))
      clear hb5
      go_wp2
      go_ret
      exact ⟨rfl, HB5.out⟩
    | true =>
      have hyes : laterL n xs t = laterW xs t := if_pos hok
      obtain ⟨hv1, hv2, ht, _⟩ := later_facts hok wt
      have hlen := laterW_len xs t
      obtain ⟨hbb1, hbb2⟩ := later_back hok wt
      have hrun := later_run hok wt
      have hwait := later_wait hok wt
      have wt2 : W64 (0 - t) := by unfold W64; omega
      have H2c := Lib.hid (fun u (ys : List Rd) w' (h : RoadsIn w' u ys) (hy : ys.length ≤ 1048576) => later2_any n u ys (0 - t) w' h hy wt2)
      obtain ⟨t2, ht2⟩ : ∃ t2, t2 = 0 - t := ⟨_, rfl⟩
      rw [← ht2] at hbb1 hbb2 H2c wt2
      have hneg1 : wrap64 (0 - t) = t2 := by unfold wrap64; omega
      have hneg2 : IntKind.i64.wrap (0 - t) = t2 := by rw [IntWalk.i64_in _ (by omega)]; omega
      have hneg3 : wrap64 (-t) = t2 := by unfold wrap64; omega
      have hneg4 : IntKind.i64.wrap (-t) = t2 := by rw [IntWalk.i64_in _ (by omega)]; omega
      have Ht2 := Lib.hid ht2
      clear ht2
      rw [hyes, hok] at H2a H1
      clear hok hyes hv1 hv2
      generalize laterW xs t = ys at *
      have hy : ys.length ≤ 1048576 := by omega
      have H2b := Lib.hid (fun u w' (h : RoadsIn w' u ys) => H2c.out u ys w' h hy)
      rw [hbb1, hbb2] at H2b
      have HRy := Lib.hid (fun u w' (h : RoadsIn w' u ys) => run2_any n u ys w' h hy)
      have HRx := Lib.hid (fun w' (h : RoadsIn w' (.slice ad xs.length cap) xs) => run2_any n _ xs w' h hx)
      have HWy := Lib.hid (fun u w' (h : RoadsIn w' u ys) => wait2_any n u ys w' h hy)
      have HWx := Lib.hid (fun w' (h : RoadsIn w' (.slice ad xs.length cap) xs) => wait2_any n _ xs w' h hx)
      rw [hrun] at HRy
      rw [hwait] at HWy
      clear H2 H2c hbb1 hbb2 hrun hwait wt2
      have Hlen := Lib.hid hlen
      clear hlen
      generalize runV n xs = rv at *
      generalize waitV n xs = wv at *
      have hqr : (rv == rv) = true := by simp
      have hqw : (wv == wv) = true := by simp
      go_wp2_with fail
      refine (H2a.out _ Hx1.out).mono ?_; rintro e w2 ⟨ad2, cap2, rfl, ho2, _, hb2⟩
      have Hx2 := Lib.hid (Hx1.out.below hb2)
      have HB2 := Lib.hid (HB1.out.trans (hb2.mono HB1.out.size))
      have HI2 := Lib.hid (ho2.ins (cap := cap2))
      clear hb2 ho2
      go_wp2_with fail
      refine (H1.out _ Hx2.out).mono ?_; rintro e w3 ⟨ad3, cap3, rfl, ho3, _, hb3⟩
      have HB3 := Lib.hid (HB2.out.trans (hb3.mono HB2.out.size))
      have Hx3 := Lib.hid (Hx2.out.below hb3)
      have HI3 := Lib.hid (HI2.out.below hb3)
      have HJ3 := Lib.hid (ho3.ins (cap := cap3))
      clear hb3 ho3
      go_wp2_with fail
      refine (sameStops_eq _ _ ys _ HI3.out HJ3.out hy).mono ?_; rintro e w4 ⟨rfl, hb4⟩
      have HB4 := Lib.hid (HB3.out.trans (hb4.mono HB3.out.size))
      have Hx4 := Lib.hid (Hx3.out.below hb4)
      have HI4 := Lib.hid (HI3.out.below hb4)
      clear hb4 Hx1 Hx2 Hx3 HI2 HI3 HJ3 H1 H2a
      go_wp2_with fail
      refine (H2b.out _ _ HI4.out).mono ?_; rintro e w5 ⟨ad5, cap5, rfl, ho5, _, hb5⟩
      have HB5 := Lib.hid (HB4.out.trans (hb5.mono HB4.out.size))
      have Hx5 := Lib.hid (Hx4.out.below hb5)
      have HI5 := Lib.hid (HI4.out.below hb5)
      have HJ5 := Lib.hid (ho5.ins (cap := cap5))
      clear hb5 ho5 H2b Hx4 HI4
      go_wp2_with fail
      refine (sameStops_eq _ _ xs _ HJ5.out Hx5.out hx).mono ?_; rintro e w7 ⟨rfl, hb7⟩
      have HB7 := Lib.hid (HB5.out.trans (hb7.mono HB5.out.size))
      have Hx7 := Lib.hid (Hx5.out.below hb7)
      have HI7 := Lib.hid (HI5.out.below hb7)
      clear hb7 HB5 Hx5 HI5 HJ5
      go_wp2_with fail
      refine (HRy.out _ _ HI7.out).mono ?_; rintro e w8 ⟨rfl, hb8⟩
      have HB8 := Lib.hid (HB7.out.trans (hb8.mono HB7.out.size))
      have Hx8 := Lib.hid (Hx7.out.below hb8)
      have HI8 := Lib.hid (HI7.out.below hb8)
      clear hb8 HB7 Hx7 HI7
      go_wp2_with fail
      refine (HRx.out _ Hx8.out).mono ?_; rintro e w9 ⟨rfl, hb9⟩
      have HB9 := Lib.hid (HB8.out.trans (hb9.mono HB8.out.size))
      have Hx9 := Lib.hid (Hx8.out.below hb9)
      have HI9 := Lib.hid (HI8.out.below hb9)
      clear hb9 HB8 Hx8 HI8
      go_wp2_with fail
      refine (HWy.out _ _ HI9.out).mono ?_; rintro e w10 ⟨rfl, hb10⟩
      have HB10 := Lib.hid (HB9.out.trans (hb10.mono HB9.out.size))
      have Hx10 := Lib.hid (Hx9.out.below hb10)
      clear hb10 HB9 Hx9 HI9
      go_wp2_with fail
      refine (HWx.out _ Hx10.out).mono ?_; rintro e w11 ⟨rfl, hb11⟩
      have HB11 := Lib.hid (HB10.out.trans (hb11.mono HB10.out.size))
      clear hb11 HB10 Hx10
      go_wp2
      go_ret
      exact ⟨ret_bool (by first | rfl | (simp; done)), HB11.out⟩
  · have hl' : (1048576 : Int) < (l.length : Int) := by omega
    go_enter Try.func3, Try.ntmps3
    go_wp2
    go_ret
    exact ⟨rfl, Below.refl _ _⟩

set_option maxRecDepth 100000 in
theorem lifted (os : Os) (started : os.Started) (H : Type) (enc : TypeId × Value → H) :
    ReturnsInHanded {} Try.checked os 3 .any (Rows.fnStopsLaterSpec.pre6 enc Try.prog Try.f3 Rows.fnStopsLaterRow.domain false) (Rows.fnStopsLaterSpec.post enc Try.prog Try.f3 false true false false) := by
  refine returnsInHanded_of_change (C := Try.checked) own started (by kernel_rfl) Try.func3
    (ChangeSpec.witness6 (enc := enc) (C := Try.checked) false ⟨#[], #[.slice none 0 0], []⟩ 8 (by kernel_rfl) (by kernel_rfl) (by kernel_rfl) (by kernel_rfl)) ?_
  intro W base args ds gs before hval0 hW hcnd _
  have hval : ∀ (j : Nat) t v, Try.f3.params[j]? = some t → args[j]? = some v → Value.okWide Try.prog W .any base t v := hval0
  have hW' := hW
  obtain ⟨p, q, hA0, hV, rfl, hfz, hnd⟩ := hW
  have hA : DataW.TrodAll enc Try.prog W 0 (fun _ => true) true Try.f3.params.toList args.toList ds p := hA0
  rw [Try.params3] at hA hval
  obtain ⟨v0, vs0, d0, ds0, p0, q0, hargs, rfl, rfl, h0, r0⟩ := trodAll_cons hA
  obtain ⟨rfl, rfl, rfl⟩ := trodAll_nil r0
  obtain rfl : args = #[v0] := by cases args; simp_all
  obtain ⟨rfl, rfl⟩ := trodVars_none hV
  obtain ⟨a0, len0, cap0, rfl⟩ := okWide_slice Try.underlying22 (hval 0 22 v0 rfl rfl)
  have k0 := h0
  have lt0 : ∀ x ∈ p0, x.block < W.heap.size := by obtain ⟨m, hm⟩ := k0; exact DataW.trod_lt m _ _ _ hm
  obtain ⟨z0, hv0, hm0⟩ := open_byteS h0 rfl
  clear hA0 hval0
  refine (walk _ z0 W hv0 hm0).mono fun e W' ⟨he, bel⟩ => ?_
  subst he
  exact ⟨_, rfl, _, _, _, [], _, [], hW', trodAll_mk1 (shut_bool Try.underlying4 _), (trodAll_cons_mk (Below.trod laidOut (by kernel_rfl) (of_decide_eq_true (by kernel_rfl)) k0 bel lt0) trodAll_mk0), rfl, bel.frame _, fun h => by cases h⟩

theorem over : Rows.fnStopsLaterRow.holds Try.pinned (OpenSpec.ofChange Rows.fnStopsLaterSpec) :=
  OpenClaim.holds_of_wide 3 Try.f3 rfl rfl rfl rfl rfl rfl rfl ⟨rfl, rfl, rfl, rfl, rfl⟩ rfl rfl rfl rfl rfl (by kernel_rfl) Try.func3 (by kernel_rfl)
    (of_decide_eq_true (by kernel_rfl)) (by unfold Func.isWrapper; first | (rw [if_pos (by decide +kernel)]; kernel_rfl) | (rw [if_neg (by decide +kernel)]; exact ⟨rfl, rfl⟩))
    (fun os started H enc _ => lifted os started H enc)

theorem proved : Rows.FnStopsLaterSaid := over
#print axioms proved
end Go.Proofs.Ytfdaaeapfeajjaa.lawFnStopsLater
