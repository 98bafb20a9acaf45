/- The law FnStopsPart holds at every input. No condition. -/
import Derived.Test.YtfdaaeapfeajjaaDSP
import Derived.Test.YtfdaaeapfeajjaaSPF
import Derived.Test.YtfdaaeapfeajjaaSPO
import Derived.Test.YtfdaaeapfeajjaaDSS
namespace Go.Proofs.Ytfdaaeapfeajjaa.lawFnStopsPart
open Go.ChangeShapes Go.WideShapes Go.ChangeAt Go.RowKit
set_option linter.unusedVariables false

set_option maxRecDepth 100000 in
set_option maxHeartbeats 4000000 in
theorem walk (v : Value) (l : List Int) (w : World) (hv : BytesIn w v l) (hm : l.length ≤ maxLen) :
    Calls Try.prog 4 #[v] w fun e w' => e = .returned (.bool true) ∧ Below w.heap.size w w' := by
  have Hv := Lib.hid hv
  obtain ⟨av, cv, rfl, hcv, _, _⟩ := hv
  clear hcv
  by_cases hl : l.length ≤ 1048576
  · have hl' : ¬ (1048576 : Int) < (l.length : Int) := by omega
    go_enter Try.func4, Try.ntmps4
    go_wp2_with fail
    refine (drawPart_any _ l _ Hv.out hl).mono ?_; rintro e w1 ⟨n, ad, cap, xs, f, t, rfl, hn2, hn6, hcap, h8, hown, ⟨hf0, hf3⟩, ⟨ht0, ht3⟩, hb⟩
    have Hx1 := Lib.hid (hown.ins (cap := cap))
    have HO1 := Lib.hid hown
    have HB1 := Lib.hid hb
    have hx : xs.length ≤ 1048576 := by omega
    have H2 := Lib.hid (fun w' (h : RoadsIn w' (.slice ad xs.length cap) xs) => part2_any n _ xs f t w' h hx)
    have H1 := Lib.hid (fun w' (h : OwnRd w' ad xs) => part1_own xs n ad cap hcap f t w' h hx)
    clear hown hb hcap
    cases hok : partOk n xs f t with
    | false =>
      have hno := partL_no hok
      rw [hno, hok] at H2 H1
      clear hok hno
      go_wp2_with fail
      refine (H2.out _ Hx1.out).mono ?_; rintro e w2 ⟨ad2, cap2, rfl, ho2, _, hb2⟩
      have HO2 := Lib.hid (HO1.out.below hb2)
      have HB2 := Lib.hid (HB1.out.trans (hb2.mono HB1.out.size))
      have HI2 := Lib.hid (ho2.ins (cap := cap2))
      clear hb2 ho2
      go_wp2_with fail
      refine (H1.out _ HO2.out).mono ?_; rintro e w3 ⟨ad3, cap3, rfl, ho3, _, hb3⟩
      have HB3 := Lib.hid (HB2.out.trans (hb3.mono HB2.out.size))
      have HI3 := Lib.hid (HI2.out.below hb3)
      have HJ3 := Lib.hid (ho3.ins (cap := cap3))
      clear hb3 ho3
      go_wp2_with fail
      refine (sameStops_eq _ _ [] _ HI3.out HJ3.out (by simp)).mono ?_; rintro e w4 ⟨rfl, hb4⟩
      have HB4 := Lib.hid (HB3.out.trans (hb4.mono HB3.out.size))
      have HI4 := Lib.hid (HI3.out.below hb4)
      have HJ4 := Lib.hid (HJ3.out.below hb4)
      clear hb4
      go_wp2_with fail
      refine (sameStops_eq _ _ [] _ HI4.out HJ4.out (by simp)).mono ?_; rintro e w5 ⟨rfl, hb5⟩
      have HB5 := Lib.hid (HB4.out.trans (hb5.mono HB4.out.size))
      clear hb5
      go_wp2
      go_ret
      exact ⟨ret_bool (by first | rfl | (simp; done)), HB5.out⟩
    | true =>
      obtain ⟨F, T, ys, rfl, rfl, hFT, hT, _, hL, hyl, hget, hok2, hself, hrun, hrle, hbd⟩ := part_facts hok
      rw [hL, hok] at H2 H1
      have hy : ys.length ≤ 1048576 := by omega
      have hP := fun u w' (h : RoadsIn w' u ys) => part2_any n u ys 0 ((ys.length : Int) - 1) w' h hy
      rw [hself, hok2] at hP
      have HP := Lib.hid hP
      have b1 := hbd T hT
      have b2 := hbd F (by omega)
      have g0 := hget 0 (by omega)
      rw [Nat.add_zero] at g0
      have HRy := Lib.hid (fun u w' (h : RoadsIn w' u ys) => run2_any n u ys w' h hy)
      have HRx := Lib.hid (fun u w' (h : RoadsIn w' u xs) => run2_any n u xs w' h hx)
      rw [hrun] at HRy hrle
      have hy2 : 2 ≤ ys.length ∧ ys.length ≤ 8 := by omega
      have Hyl := Lib.hid hyl
      clear hok hL hok2 hself hget hbd hP hrun hyl
      go_wp2_with fail
      refine (H2.out _ Hx1.out).mono ?_; rintro e w2 ⟨ad2, cap2, rfl, ho2, _, hb2⟩
      have HO2 := Lib.hid (HO1.out.below hb2)
      have Hx2 := Lib.hid (Hx1.out.below hb2)
      have HB2 := Lib.hid (HB1.out.trans (hb2.mono HB1.out.size))
      have HI2 := Lib.hid (ho2.ins (cap := cap2))
      clear hb2 ho2
      go_wp2_with fail
      refine (H1.out _ HO2.out).mono ?_; rintro e w3 ⟨ad3, cap3, rfl, ho3, _, hb3⟩
      have HB3 := Lib.hid (HB2.out.trans (hb3.mono HB2.out.size))
      have Hx3 := Lib.hid (Hx2.out.below hb3)
      have HI3 := Lib.hid (HI2.out.below hb3)
      have HJ3 := Lib.hid (ho3.ins (cap := cap3))
      clear hb3 ho3 HO1 HO2 H1 H2 Hx1 Hx2 HI2
      go_wp2_with fail
      refine (sameStops_eq _ _ ys _ HI3.out HJ3.out hy).mono ?_; rintro e w4 ⟨rfl, hb4⟩
      have HB4 := Lib.hid (HB3.out.trans (hb4.mono HB3.out.size))
      have Hx4 := Lib.hid (Hx3.out.below hb4)
      have HI4 := Lib.hid (HI3.out.below hb4)
      clear hb4 HJ3 HI3 Hx3
      go_wp2_with fail
      refine (HP.out _ _ HI4.out).mono ?_; rintro e w5 ⟨ad5, cap5, rfl, ho5, _, hb5⟩
      have HB5 := Lib.hid (HB4.out.trans (hb5.mono HB4.out.size))
      have Hx5 := Lib.hid (Hx4.out.below hb5)
      have HI5 := Lib.hid (HI4.out.below hb5)
      have HJ5 := Lib.hid (ho5.ins (cap := cap5))
      clear hb5 ho5 HP Hx4 HI4
      have HSs := Lib.hid (fun w' (h : Below w5.heap.size w5 w') => (sameStops_eq _ _ ys w' (HJ5.out.below h) (HI5.out.below h) hy).mono fun _ _ ⟨he, hb⟩ => And.intro he (h.trans (hb.mono h.size)))
      have HSy := Lib.hid (fun w' (h : Below w5.heap.size w5 w') => (HRy.out _ w' (HI5.out.below h)).mono fun _ _ ⟨he, hb⟩ => And.intro he (h.trans (hb.mono h.size)))
      have HSx := Lib.hid (fun w' (h : Below w5.heap.size w5 w') => (HRx.out _ w' (Hx5.out.below h)).mono fun _ _ ⟨he, hb⟩ => And.intro he (h.trans (hb.mono h.size)))
      have hX := Hx5.out
      obtain ⟨_, _, he, hax⟩ := hX
      cases he
      obtain ⟨bx, ox, rfl, hbx, hrx⟩ := hax (by rintro rfl; simp at hT)
      have hY := HI5.out
      obtain ⟨_, _, he, hay⟩ := hY
      cases he
      obtain ⟨bz, oz, rfl, hbz, hrz⟩ := hay (by rintro rfl; simp at hy2)
      have HK := Lib.hid (fun w' (h : Below w5.heap.size w5 w') => And.intro h (And.intro ((hrz.below h hbz) 0 (by omega)) (And.intro ((hrx.below h hbx) F (by omega)) ((hrx.below h hbx) T hT).2.1)))
      rw [g0] at HK
      simp only [Nat.zero_mul, Nat.add_zero, and_assoc] at HK
      clear hax hay hrx hrz hbx hbz g0 HRy HRx Hx5 HI5 HJ5
      obtain ⟨D, hD⟩ : ∃ D : Int, D = (T : Int) - (F : Int) := ⟨_, rfl⟩
      have hD1 : D + 1 = (ys.length : Int) := by have := Hyl.out; omega
      have hF0 : (0 : Int) ≤ (F : Int) := Int.natCast_nonneg _
      have hT0 : (0 : Int) ≤ (T : Int) := Int.natCast_nonneg _
      have hF1 : (F : Int) < (xs.length : Int) := by omega
      have hT1 : (T : Int) < (xs.length : Int) := by omega
      have hy0 : (0 : Int) < (ys.length : Int) := by omega
      have hyN : 0 < ys.length := by omega
      have hy1 : ((ys.length : Int) == (ys.length : Int)) = true := by simp
      have e1 : wrap64 ((T : Int) - (F : Int)) = D := by rw [wrap64_ok (by omega) (by omega), hD]
      have e2 : IntKind.i64.wrap ((T : Int) - (F : Int)) = D := by rw [IntWalk.i64_in _ (by omega), hD]
      have e3 : wrap64 (D + 1) = (ys.length : Int) := by rw [wrap64_ok (by omega) (by omega), hD1]
      have e4 : IntKind.i64.wrap (D + 1) = (ys.length : Int) := by rw [IntWalk.i64_in _ (by omega), hD1]
      generalize hR2 : runV n xs = R2 at *
      generalize (xs.getD F rd0).a = fa at *
      generalize (xs.getD F rd0).b = fb at *
      generalize (xs.getD F rd0).m = fm at *
      generalize (xs.getD T rd0).b = tb at *
      obtain ⟨R, hR⟩ : ∃ R : Int, R = tb - fm := ⟨_, rfl⟩
      have e5 : wrap64 (tb - fm) = R := by rw [wrap64_ok (by omega) (by omega), hR]
      have e6 : IntKind.i64.wrap (tb - fm) = R := by rw [IntWalk.i64_in _ (by omega), hR]
      rw [← hR] at HSy hrle
      have qa : (fa == fa) = true := by simp
      have qb : (fb == fb) = true := by simp
      have qm : (fm == fm) = true := by simp
      have qr : (R == R) = true := by simp
      have ql : decide (R ≤ R2) = true := by simpa using hrle
      clear hD hD1 hR b1 b2 hR2 Hyl
      go_wp2
      go_region_held3 (fun w' => Below w5.heap.size w5 w' ∧ w'.cell? ⟨bz, oz, none⟩ = some (.int .i64 fa) ∧ w'.cell? ⟨bz, oz + 1, none⟩ = some (.int .i64 fb) ∧ w'.cell? ⟨bz, oz + 2, none⟩ = some (.int .i64 fm) ∧ w'.cell? ⟨bx, ox + F * 3, none⟩ = some (.int .i64 fa) ∧ w'.cell? ⟨bx, ox + F * 3 + 1, none⟩ = some (.int .i64 fb) ∧ w'.cell? ⟨bx, ox + F * 3 + 2, none⟩ = some (.int .i64 fm) ∧ w'.cell? ⟨bx, ox + T * 3 + 1, none⟩ = some (.int .i64 tb))
        (exact HK.out _ (by first | assumption | exact And.left (by assumption) | exact Below.refl _ _ | exact (Below.refl _ _).drew | exact Below.drew (by assumption) | exact (Below.refl _ _).drewN _ | exact Below.drewN (by assumption) _))
        (first | (go_at_call 12; refine (HSs.out _ (by first | assumption | exact And.left (by assumption))).mono ?_; rintro e w' ⟨rfl, hbw⟩) | (go_at_call_of 13 (Value.slice (some ⟨bz, oz, none⟩) ys.length cap2); refine (HSy.out _ (by first | assumption | exact And.left (by assumption))).mono ?_; rintro e w' ⟨rfl, hbw⟩) | (go_at_call_of 13 (Value.slice (some ⟨bx, ox, none⟩) xs.length cap); refine (HSx.out _ (by first | assumption | exact And.left (by assumption))).mono ?_; rintro e w' ⟨rfl, hbw⟩))
      all_goals go_wp2
      all_goals go_ret
      all_goals exact ⟨ret_bool (by first | rfl | (simp; done)), HB5.out.trans (Below.mono (by first | assumption | exact And.left (by assumption) | exact Below.drewN (by assumption) _ | exact Below.drewN (And.left (by assumption)) _ | exact Below.drew (by assumption) | exact Below.drew (And.left (by assumption))) HB5.out.size)⟩
  · have hl' : (1048576 : Int) < (l.length : Int) := by omega
    go_enter Try.func4, Try.ntmps4
    go_wp2
    go_ret
    exact ⟨rfl, Below.refl _ _⟩

set_option maxRecDepth 100000 in
theorem lifted (os : Os) (started : os.Started) (H : Type) (enc : TypeId × Value → H) :
    ReturnsInHanded {} Try.checked os 4 .any (Rows.fnStopsPartSpec.pre6 enc Try.prog Try.f4 Rows.fnStopsPartRow.domain false) (Rows.fnStopsPartSpec.post enc Try.prog Try.f4 false true false false) := by
  refine returnsInHanded_of_change (C := Try.checked) own started (by kernel_rfl) Try.func4
    (ChangeSpec.witness6 (enc := enc) (C := Try.checked) false ⟨#[], #[.slice none 0 0], []⟩ 8 (by kernel_rfl) (by kernel_rfl) (by kernel_rfl) (by kernel_rfl)) ?_
  intro W base args ds gs before hval0 hW hcnd _
  have hval : ∀ (j : Nat) t v, Try.f4.params[j]? = some t → args[j]? = some v → Value.okWide Try.prog W .any base t v := hval0
  have hW' := hW
  obtain ⟨p, q, hA0, hV, rfl, hfz, hnd⟩ := hW
  have hA : DataW.TrodAll enc Try.prog W 0 (fun _ => true) true Try.f4.params.toList args.toList ds p := hA0
  rw [Try.params4] at hA hval
  obtain ⟨v0, vs0, d0, ds0, p0, q0, hargs, rfl, rfl, h0, r0⟩ := trodAll_cons hA
  obtain ⟨rfl, rfl, rfl⟩ := trodAll_nil r0
  obtain rfl : args = #[v0] := by cases args; simp_all
  obtain ⟨rfl, rfl⟩ := trodVars_none hV
  obtain ⟨a0, len0, cap0, rfl⟩ := okWide_slice Try.underlying22 (hval 0 22 v0 rfl rfl)
  have k0 := h0
  have lt0 : ∀ x ∈ p0, x.block < W.heap.size := by obtain ⟨m, hm⟩ := k0; exact DataW.trod_lt m _ _ _ hm
  obtain ⟨z0, hv0, hm0⟩ := open_byteS h0 rfl
  clear hA0 hval0
  refine (walk _ z0 W hv0 hm0).mono fun e W' ⟨he, bel⟩ => ?_
  subst he
  exact ⟨_, rfl, _, _, _, [], _, [], hW', trodAll_mk1 (shut_bool Try.underlying4 _), (trodAll_cons_mk (Below.trod laidOut (by kernel_rfl) (of_decide_eq_true (by kernel_rfl)) k0 bel lt0) trodAll_mk0), rfl, bel.frame _, fun h => by cases h⟩

theorem over : Rows.fnStopsPartRow.holds Try.pinned (OpenSpec.ofChange Rows.fnStopsPartSpec) :=
  OpenClaim.holds_of_wide 4 Try.f4 rfl rfl rfl rfl rfl rfl rfl ⟨rfl, rfl, rfl, rfl, rfl⟩ rfl rfl rfl rfl rfl (by kernel_rfl) Try.func4 (by kernel_rfl)
    (of_decide_eq_true (by kernel_rfl)) (by unfold Func.isWrapper; first | (rw [if_pos (by decide +kernel)]; kernel_rfl) | (rw [if_neg (by decide +kernel)]; exact ⟨rfl, rfl⟩))
    (fun os started H enc _ => lifted os started H enc)

theorem proved : Rows.FnStopsPartSaid := over
#print axioms proved
end Go.Proofs.Ytfdaaeapfeajjaa.lawFnStopsPart
