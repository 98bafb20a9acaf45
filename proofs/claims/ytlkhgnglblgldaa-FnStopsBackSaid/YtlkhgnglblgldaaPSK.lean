/- The law FnStopsBack holds at every input. No condition. -/
import Derived.Test.YtlkhgnglblgldaaDSB
import Derived.Test.YtlkhgnglblgldaaSBF
import Derived.Test.YtlkhgnglblgldaaSP
namespace Go.Proofs.Ytlkhgnglblgldaa.lawFnStopsBack
open Go.ChangeShapes Go.WideShapes Go.ChangeAt Go.RowKit
set_option linter.unusedVariables false

def halfTo (xs : List Rd) (t : Int) (k : Nat) : Bool := (List.range k).any fun i => decide (2 * (xs.getD i rd0).b ≤ t) && decide (t ≤ 2 * (xs.getD i rd0).m)
theorem halfTo_succ (xs : List Rd) (t : Int) (k : Nat) : halfTo xs t (k + 1) = (halfTo xs t k || (decide (2 * (xs.getD k rd0).b ≤ t) && decide (t ≤ 2 * (xs.getD k rd0).m))) := by
  simp [halfTo, List.range_succ]
theorem halfTo_yes {xs : List Rd} {t : Int} {k : Nat} (h : halfTo xs t k = true) : ∃ i, i < k ∧ 2 * (xs.getD i rd0).b ≤ t ∧ t ≤ 2 * (xs.getD i rd0).m := by
  simp only [halfTo, List.any_eq_true, List.mem_range, Bool.and_eq_true, decide_eq_true_eq] at h
  obtain ⟨i, h1, h2, h3⟩ := h
  exact ⟨i, h1, h2, h3⟩
def HfRel (xs : List Rd) (t : Int) (w : World) (hv iv : Value) (wr : World) : Prop :=
  ∃ i : Nat, i ≤ xs.length ∧ iv = .int .i64 i ∧ hv = .bool (halfTo xs t i) ∧ Below w.heap.size w wr

set_option maxRecDepth 100000 in
set_option maxHeartbeats 2000000 in
theorem walk (v : Value) (l : List Int) (w : World) (hv : BytesIn w v l) (hm : l.length ≤ maxLen) :
    Calls Try.prog 8 #[v] w fun e w' => e = .returned (.bool true) ∧ Below w.heap.size w w' := by
  have Hv := Lib.hid hv
  obtain ⟨av, cv, rfl, hcv, _, _⟩ := hv
  clear hcv
  by_cases hl : l.length ≤ 1048576
  · have hl' : ¬ (1048576 : Int) < (l.length : Int) := by omega
    go_enter Try.func8, Try.ntmps8
    go_wp2_with fail
    refine (drawBack_any _ l _ Hv.out hl).mono ?_; rintro e w1 ⟨n, ad, cap, xs, t, rfl, hn2, hn6, hcap, h8, hown, wt, hb⟩
    have Hx1 := Lib.hid (hown.ins (cap := cap))
    have HB1 := Lib.hid hb
    have hx : xs.length ≤ 1048576 := by omega
    clear hown hb hcap
    have H2 := Lib.hid (fun u (ys : List Rd) w' (h : RoadsIn w' u ys) (hy : ys.length ≤ 1048576) => back2_any n u ys t w' h hy wt)
    have H1 := Lib.hid (fun w' (h : RoadsIn w' (.slice ad xs.length cap) xs) => back1_any n _ xs t w' h hx wt)
    have H2a := Lib.hid (fun w' (h : RoadsIn w' (.slice ad xs.length cap) xs) => H2.out _ xs w' h hx)
    cases hok : backOk n xs t with
    | false =>
      have hno : backL n xs t = [] := if_neg (by rw [hok]; simp)
      rw [hno, hok] at H2a H1
      clear hok hno H2
      go_wp2_with fail
      refine (H2a.out _ Hx1.out).mono ?_; rintro e w2 ⟨ad2, cap2, rfl, ho2, _, hb2⟩
      have Hx2 := Lib.hid (Hx1.out.below hb2)
      have HB2 := Lib.hid (HB1.out.trans (hb2.mono HB1.out.size))
      have HI2 := Lib.hid (ho2.ins (cap := cap2))
      clear hb2 ho2
      go_wp2_with fail
      refine (H1.out _ Hx2.out).mono ?_; rintro e w3 ⟨ad3, cap3, rfl, ho3, _, hb3⟩
      have HB3 := Lib.hid (HB2.out.trans (hb3.mono HB2.out.size))
      have HI3 := Lib.hid (HI2.out.below hb3)
      have HJ3 := Lib.hid (ho3.ins (cap := cap3))
      clear hb3 ho3
      go_wp2_with fail
      refine (sameStops_eq _ _ [] _ HI3.out HJ3.out (by simp)).mono ?_; rintro e w4 ⟨rfl, hb4⟩
      have HB4 := Lib.hid (HB3.out.trans (hb4.mono HB3.out.size))
      have HI4 := Lib.hid (HI3.out.below hb4)
      have HJ4 := Lib.hid (HJ3.out.below hb4)
      clear hb4
      go_wp2_with fail
      refine (sameStops_eq _ _ [] _ HI4.out HJ4.out (by simp)).mono ?_; rintro e w5 ⟨rfl, hb5⟩
      have HB5 := Lib.hid (HB4.out.trans (hb5.mono HB4.out.size))
      clear hb5
      go_wp2
      go_ret
      exact ⟨rfl, HB5.out⟩
    | true =>
      have hyes : backL n xs t = backTo xs t 0 := if_pos hok
      obtain ⟨hv1, hv2, ht, hlen, _⟩ := back_facts hok wt
      obtain ⟨hbb1, hbb2⟩ := back_back hok wt
      have hrun := back_run hok wt
      have hwait := back_wait hok wt
      have HMt := Lib.hid (fun (h : halfTo xs t xs.length = true) => by obtain ⟨i, hi, ha, hb⟩ := halfTo_yes h; exact back_meet hok wt hi ha hb)
      have HV := Lib.hid (fun i (hi : i < xs.length) => validS_at hv1 hi)
      rw [hyes, hok] at H2a H1
      clear hok hyes hv1 hv2
      generalize backTo xs t 0 = ys at *
      have hy : ys.length ≤ 1048576 := by omega
      have H2b := Lib.hid (fun u w' (h : RoadsIn w' u ys) => H2.out u ys w' h hy)
      rw [hbb1, hbb2] at H2b
      have HMe := Lib.hid (fun u w' (h : RoadsIn w' (.slice ad xs.length cap) xs) (h' : RoadsIn w' u ys) => meet2_any n _ u xs ys w' h h' hx hy)
      have HRy := Lib.hid (fun u w' (h : RoadsIn w' u ys) => run2_any n u ys w' h hy)
      have HRx := Lib.hid (fun w' (h : RoadsIn w' (.slice ad xs.length cap) xs) => run2_any n _ xs w' h hx)
      have HWy := Lib.hid (fun u w' (h : RoadsIn w' u ys) => wait2_any n u ys w' h hy)
      have HWx := Lib.hid (fun w' (h : RoadsIn w' (.slice ad xs.length cap) xs) => wait2_any n _ xs w' h hx)
      rw [hrun] at HRy
      rw [hwait] at HWy
      clear H2 hbb1 hbb2 hrun hwait
      have Hlen := Lib.hid hlen
      clear hlen
      generalize runV n xs = rv at *
      generalize waitV n xs = wv at *
      have hqr : (rv == rv) = true := by simp
      have hqw : (wv == wv) = true := by simp
      go_wp2_with fail
      refine (H2a.out _ Hx1.out).mono ?_; rintro e w2 ⟨ad2, cap2, rfl, ho2, _, hb2⟩
      have Hx2 := Lib.hid (Hx1.out.below hb2)
      have HB2 := Lib.hid (HB1.out.trans (hb2.mono HB1.out.size))
      have HI2 := Lib.hid (ho2.ins (cap := cap2))
      clear hb2 ho2
      go_wp2_with fail
      refine (H1.out _ Hx2.out).mono ?_; rintro e w3 ⟨ad3, cap3, rfl, ho3, _, hb3⟩
      have HB3 := Lib.hid (HB2.out.trans (hb3.mono HB2.out.size))
      have Hx3 := Lib.hid (Hx2.out.below hb3)
      have HI3 := Lib.hid (HI2.out.below hb3)
      have HJ3 := Lib.hid (ho3.ins (cap := cap3))
      clear hb3 ho3
      go_wp2_with fail
      refine (sameStops_eq _ _ ys _ HI3.out HJ3.out hy).mono ?_; rintro e w4 ⟨rfl, hb4⟩
      have HB4 := Lib.hid (HB3.out.trans (hb4.mono HB3.out.size))
      have Hx4 := Lib.hid (Hx3.out.below hb4)
      have HI4 := Lib.hid (HI3.out.below hb4)
      clear hb4 Hx1 Hx2 Hx3 HI2 HI3 HJ3 H1 H2a
      go_wp2_with fail
      refine (H2b.out _ _ HI4.out).mono ?_; rintro e w5 ⟨ad5, cap5, rfl, ho5, _, hb5⟩
      have HB5 := Lib.hid (HB4.out.trans (hb5.mono HB4.out.size))
      have Hx5 := Lib.hid (Hx4.out.below hb5)
      have HI5 := Lib.hid (HI4.out.below hb5)
      have HJ5 := Lib.hid (ho5.ins (cap := cap5))
      clear hb5 ho5 H2b Hx4 HI4
      have hmv := meetV_tup (meetOf n xs ys)
      obtain ⟨mt, mq, hmq⟩ : ∃ mt mq, meetV (meetOf n xs ys) = .tuple #[.int .i64 mt, .bool mq] := hmv
      rw [hmq] at HMe
      have HMq := Lib.hid (fun h => meetV_some hmq (HMt.out h))
      clear hmq HMt
      go_wp2_with fail
      refine (HMe.out _ _ Hx5.out HI5.out).mono ?_; rintro e w6 ⟨rfl, hb6⟩
      have HB6 := Lib.hid (HB5.out.trans (hb6.mono HB5.out.size))
      have Hx6 := Lib.hid (Hx5.out.below hb6)
      have HI6 := Lib.hid (HI5.out.below hb6)
      have HJ6 := Lib.hid (HJ5.out.below hb6)
      clear hb6 HMe Hx5 HI5 HJ5
      go_wp2
      go_loopw [14, 15] (fun hv iv wr => HfRel xs t w6 hv iv wr) (fun _ iv _ => xs.length - (intOf iv).toNat)
      case atStart => exact ⟨0, Nat.zero_le _, rfl, rfl, Below.refl _ _⟩
      case round =>
        obtain ⟨i, hi, rfl, rfl, hb⟩ := hrel
        by_cases hlt : i < xs.length
        · have hi' : (i : Int) < (xs.length : Int) := by omega
          have hi0 : (0 : Int) ≤ (i : Int) := Int.natCast_nonneg _
          have hX := Hx6.out
          obtain ⟨_, _, he, ha⟩ := hX
          cases he
          obtain ⟨b, o, rfl, hb0, hrw⟩ := ha (by intro h; simp [h] at hlt)
          obtain ⟨c0, c1, c2⟩ := (hrw.below hb hb0) i hlt
          have HB := Lib.hid hb
          have Hs := Lib.hid (halfTo_succ xs t i)
          obtain ⟨_, _, v1, v2, v3, _⟩ := HV.out i hlt
          clear hrw ha hb c0
          generalize halfTo xs t i = h0 at *
          generalize (xs.getD i rd0).b = xb at *
          generalize (xs.getD i rd0).m = xm at *
          have e1 : wrap64 (2 * xb) = 2 * xb := wrap64_ok (by omega) (by omega)
          have e2 : wrap64 (2 * xm) = 2 * xm := wrap64_ok (by omega) (by omega)
          have e3 : IntKind.i64.wrap (2 * xb) = 2 * xb := IntWalk.i64_in _ (by omega)
          have e4 : IntKind.i64.wrap (2 * xm) = 2 * xm := IntWalk.i64_in _ (by omega)
          cases h0 with
          | true =>
            rw [Bool.true_or] at Hs
            go_wp2
            exact ⟨⟨i + 1, hlt, by go_num, by rw [Hs.out], HB.out⟩, by simp [intOf]; omega⟩
          | false =>
            rw [Bool.false_or] at Hs
            by_cases hA : 2 * xb ≤ t
            · have hAd : decide (2 * xb ≤ t) = true := by simpa using hA
              rw [hAd, Bool.true_and] at Hs
              by_cases hB : t ≤ 2 * xm
              · have hBd : decide (t ≤ 2 * xm) = true := by simpa using hB
                rw [hBd] at Hs
                go_wp2
                exact ⟨⟨i + 1, hlt, by go_num, by rw [Hs.out], HB.out⟩, by simp [intOf]; omega⟩
              · have hBd : decide (t ≤ 2 * xm) = false := by simpa using hB
                rw [hBd] at Hs
                go_wp2
                exact ⟨⟨i + 1, hlt, by go_num, by rw [Hs.out], HB.out⟩, by simp [intOf]; omega⟩
            · have hAd : decide (2 * xb ≤ t) = false := by simpa using hA
              rw [hAd, Bool.false_and] at Hs
              go_wp2
              exact ⟨⟨i + 1, hlt, by go_num, by rw [Hs.out], HB.out⟩, by simp [intOf]; omega⟩
        · obtain rfl : i = xs.length := by omega
          have HB := Lib.hid (HB6.out.trans (hb.mono HB6.out.size))
          have Hx := Lib.hid (Hx6.out.below hb)
          have HI := Lib.hid (HI6.out.below hb)
          have HJ := Lib.hid (HJ6.out.below hb)
          clear hb hlt
          go_wp2_with fail
          refine (sameStops_eq _ _ xs _ HJ.out Hx.out hx).mono ?_; rintro e w7 ⟨rfl, hb7⟩
          have HB7 := Lib.hid (HB.out.trans (hb7.mono HB.out.size))
          have Hx7 := Lib.hid (Hx.out.below hb7)
          have HI7 := Lib.hid (HI.out.below hb7)
          clear hb7 HB Hx HI HJ
          go_wp2_with fail
          refine (HRy.out _ _ HI7.out).mono ?_; rintro e w8 ⟨rfl, hb8⟩
          have HB8 := Lib.hid (HB7.out.trans (hb8.mono HB7.out.size))
          have Hx8 := Lib.hid (Hx7.out.below hb8)
          have HI8 := Lib.hid (HI7.out.below hb8)
          clear hb8 HB7 Hx7 HI7
          go_wp2_with fail
          refine (HRx.out _ Hx8.out).mono ?_; rintro e w9 ⟨rfl, hb9⟩
          have HB9 := Lib.hid (HB8.out.trans (hb9.mono HB8.out.size))
          have Hx9 := Lib.hid (Hx8.out.below hb9)
          have HI9 := Lib.hid (HI8.out.below hb9)
          clear hb9 HB8 Hx8 HI8
          go_wp2_with fail
          refine (HWy.out _ _ HI9.out).mono ?_; rintro e w10 ⟨rfl, hb10⟩
          have HB10 := Lib.hid (HB9.out.trans (hb10.mono HB9.out.size))
          have Hx10 := Lib.hid (Hx9.out.below hb10)
          clear hb10 HB9 Hx9 HI9
          go_wp2_with fail
          refine (HWx.out _ Hx10.out).mono ?_; rintro e w11 ⟨rfl, hb11⟩
          have HB11 := Lib.hid (HB10.out.trans (hb11.mono HB10.out.size))
          clear hb11 HB10 Hx10
          have HMq' := Lib.hid HMq.out
          cases hh : halfTo xs t xs.length with
          | false =>
            go_wp2
            go_ret
            exact ⟨ret_bool (by first | rfl | (simp; done)), HB11.out⟩
          | true =>
            obtain ⟨q1, q2⟩ := HMq.out hh
            subst q1
            have q3 : decide (mt ≥ 0) = true := by simpa using q2
            go_wp2
            go_ret
            exact ⟨ret_bool (by first | rfl | (simp; done)), HB11.out⟩
  · have hl' : (1048576 : Int) < (l.length : Int) := by omega
    go_enter Try.func8, Try.ntmps8
    go_wp2
    go_ret
    exact ⟨rfl, Below.refl _ _⟩

set_option maxRecDepth 100000 in
theorem lifted (os : Os) (started : os.Started) (H : Type) (enc : TypeId × Value → H) :
    ReturnsInHanded {} Try.checked os 8 .any (Rows.fnStopsBackSpec.pre6 enc Try.prog Try.f8 Rows.fnStopsBackRow.domain false) (Rows.fnStopsBackSpec.post enc Try.prog Try.f8 false true false false) := by
  refine returnsInHanded_of_change (C := Try.checked) own started (by kernel_rfl) Try.func8
    (ChangeSpec.witness6 (enc := enc) (C := Try.checked) false ⟨#[], #[.slice none 0 0], []⟩ 8 (by kernel_rfl) (by kernel_rfl) (by kernel_rfl) (by kernel_rfl)) ?_
  intro W base args ds gs before hval0 hW hcnd _
  have hval : ∀ (j : Nat) t v, Try.f8.params[j]? = some t → args[j]? = some v → Value.okWide Try.prog W .any base t v := hval0
  have hW' := hW
  obtain ⟨p, q, hA0, hV, rfl, hfz, hnd⟩ := hW
  have hA : DataW.TrodAll enc Try.prog W 0 (fun _ => true) true Try.f8.params.toList args.toList ds p := hA0
  rw [Try.params8] at hA hval
  obtain ⟨v0, vs0, d0, ds0, p0, q0, hargs, rfl, rfl, h0, r0⟩ := trodAll_cons hA
  obtain ⟨rfl, rfl, rfl⟩ := trodAll_nil r0
  obtain rfl : args = #[v0] := by cases args; simp_all
  obtain ⟨rfl, rfl⟩ := trodVars_none hV
  obtain ⟨a0, len0, cap0, rfl⟩ := okWide_slice Try.underlying22 (hval 0 22 v0 rfl rfl)
  have k0 := h0
  have lt0 : ∀ x ∈ p0, x.block < W.heap.size := by obtain ⟨m, hm⟩ := k0; exact DataW.trod_lt m _ _ _ hm
  obtain ⟨z0, hv0, hm0⟩ := open_byteS h0 rfl
  clear hA0 hval0
  refine (walk _ z0 W hv0 hm0).mono fun e W' ⟨he, bel⟩ => ?_
  subst he
  exact ⟨_, rfl, _, _, _, [], _, [], hW', trodAll_mk1 (shut_bool Try.underlying4 _), (trodAll_cons_mk (Below.trod laidOut (by kernel_rfl) (of_decide_eq_true (by kernel_rfl)) k0 bel lt0) trodAll_mk0), rfl, bel.frame _, fun h => by cases h⟩

theorem over : Rows.fnStopsBackRow.holds Try.pinned (OpenSpec.ofChange Rows.fnStopsBackSpec) :=
  OpenClaim.holds_of_wide 8 Try.f8 rfl rfl rfl rfl rfl rfl rfl ⟨rfl, rfl, rfl, rfl, rfl⟩ rfl rfl rfl rfl rfl (by kernel_rfl) Try.func8 (by kernel_rfl)
    (of_decide_eq_true (by kernel_rfl)) (by unfold Func.isWrapper; first | (rw [if_pos (by decide +kernel)]; kernel_rfl) | (rw [if_neg (by decide +kernel)]; exact ⟨rfl, rfl⟩))
    (fun os started H enc _ => lifted os started H enc)

theorem proved : Rows.FnStopsBackSaid := over
#print axioms proved
end Go.Proofs.Ytlkhgnglblgldaa.lawFnStopsBack
