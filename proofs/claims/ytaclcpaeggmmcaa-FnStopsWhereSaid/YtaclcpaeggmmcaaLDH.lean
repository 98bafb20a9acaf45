/- The law FnStopsWhere holds at every input. No condition. -/
import Derived.Test.YtaclcpaeggmmcaaDE
import Derived.Test.YtaclcpaeggmmcaaSH
import Derived.Test.YtaclcpaeggmmcaaDO
namespace Go.Proofs.Ytaclcpaeggmmcaa.lawFnStopsWhere
open Go.ChangeShapes Go.WideShapes Go.ChangeAt Go.RowKit
set_option linter.unusedVariables false

theorem whereTo_spec (l : List Rd) (t : Int) : ∀ m, (∃ i, i < m ∧ (l.getD i rd0).b ≤ t) → (l.getD (whereTo l t m) rd0).b ≤ t ∧ ∀ i, whereTo l t m < i → i < m → ¬ (l.getD i rd0).b ≤ t
  | 0, h => by obtain ⟨i, hi, _⟩ := h; omega
  | m + 1, h => by
    by_cases hm : (l.getD m rd0).b ≤ t
    · have e : whereTo l t (m + 1) = m := if_pos hm
      rw [e]
      exact ⟨hm, fun i h1 h2 => by omega⟩
    · have e : whereTo l t (m + 1) = whereTo l t m := if_neg hm
      rw [e]
      obtain ⟨i, hi, hb⟩ := h
      have him : i < m := by
        by_cases h : i = m
        · subst h; exact absurd hb hm
        · omega
      obtain ⟨h1, h2⟩ := whereTo_spec l t m ⟨i, him, hb⟩
      refine ⟨h1, fun j hj hj2 => ?_⟩
      by_cases e : j = m
      · subst e; exact hm
      · exact h2 j hj (by omega)

set_option maxRecDepth 100000 in
set_option maxHeartbeats 1600000 in
theorem walk (v : Value) (c : List Int) (w : World) (hv : BytesIn w v c) (hm : c.length ≤ maxLen) :
    Calls Try.prog 7 #[v] w fun e w' => e = .returned (.bool true) ∧ Below w.heap.size w w' := by
  have Hv := Lib.hid hv
  obtain ⟨a, cap, rfl, _, _, ha⟩ := hv
  have Ha := Lib.hid ha; clear ha
  unfold maxLen at hm
  by_cases hl : c.length ≤ 1048576
  · go_enter Try.func7, Try.ntmps7
    go_wp2_with fail
    refine (drawWhere_any _ c _ Hv.out hl).mono ?_; rintro e w1 ⟨n, ad, cp, xs, t, rfl, n2, n6, hcp, h8, hown, b1⟩
    have Hown := Lib.hid hown; clear hown
    cases ho : whereOk n xs t with
    | false =>
      have Hv := Lib.hid (whereV_no ho); clear ho
      go_wp2_with fail
      refine (where2_any n _ xs t _ Hown.out.ins (by omega)).mono ?_; rintro e w2 ⟨rfl, b2⟩
      rw [Hv.out]
      have B2 := b1.trans (b2.mono b1.size)
      have Hown2 := Lib.hid (Hown.out.below b2)
      clear b1 b2
      go_wp2_with fail
      refine (where1_any n _ xs t _ Hown2.out.ins (by omega)).mono ?_; rintro e w3 ⟨rfl, b3⟩
      rw [Hv.out]
      have B3 := B2.trans (b3.mono B2.size)
      clear b3 B2
      go_wp2
      go_ret
      exact ⟨rfl, B3⟩
    | true =>
      have ho' := ho
      unfold whereOk at ho'
      simp only [Bool.and_eq_true] at ho'
      obtain ⟨hz, hin⟩ := ho'
      rw [inB_iff] at hin
      obtain ⟨_, _, l2, l8⟩ := (validS_iff.1 hz).1
      have hkl := whereTo_lt xs t xs.length (by omega)
      obtain ⟨hb0, hnext⟩ := whereTo_spec xs t xs.length ⟨0, by omega, hin.1⟩
      have hv := whereV_yes ho rfl
      generalize whereTo xs t xs.length = k at *
      have Hv := Lib.hid hv
      have Hnext := Lib.hid hnext
      clear hv hnext ho hz hin
      have Hb0 := Lib.hid hb0; clear hb0
      by_cases ht : t ≤ (xs.getD k rd0).m
      · have hd : decide (t ≤ (xs.getD k rd0).m) = true := by simp only [decide_eq_true_eq]; exact ht
        have Hv2 := Lib.hid (show whereV n xs t = .tuple #[.int .i64 (k : Int), .bool true, .bool true] by rw [Hv.out, hd])
        clear Hv ht
        go_wp2_with fail
        refine (where2_any n _ xs t _ Hown.out.ins (by omega)).mono ?_; rintro e w2 ⟨rfl, b2⟩
        rw [Hv2.out]
        have B2 := b1.trans (b2.mono b1.size)
        have Hown2 := Lib.hid (Hown.out.below b2)
        clear b1 b2
        go_wp2_with fail
        refine (where1_any n _ xs t _ Hown2.out.ins (by omega)).mono ?_; rintro e w3 ⟨rfl, b3⟩
        rw [Hv2.out]
        have B3 := B2.trans (b3.mono B2.size)
        obtain ⟨b, rfl, hb, hrow, _⟩ := (Hown2.out.below b3) (by rintro rfl; simp at l2)
        obtain ⟨_, c1, c2⟩ := hrow k hkl
        simp only [Nat.zero_add] at c1 c2
        have hki : (k : Int) < (xs.length : Int) := by omega
        have hk0 : (0 : Int) ≤ (k : Int) := Int.natCast_nonneg _
        have d1 : decide ((xs.getD k rd0).b ≤ t) = true := by simp only [decide_eq_true_eq]; exact Hb0.out
        clear b3 B2
        by_cases hlast : k + 1 = xs.length
        · have hq : ((k : Int) + 1 == (xs.length : Int)) = true := by simp; omega
          clear hlast hrow
          generalize (xs.getD k rd0).b = yb at *
          generalize (xs.getD k rd0).m = ym at *
          go_wp2
          go_ret
          exact ⟨ret_bool (by first | rfl | (simp; done)), B3⟩
        · have hq : ((k : Int) + 1 == (xs.length : Int)) = false := by simp; omega
          obtain ⟨_, e1, _⟩ := hrow (k + 1) (by omega)
          simp only [Nat.zero_add] at e1
          have d2 : decide (t < (xs.getD (k + 1) rd0).b) = true := by
            have := Hnext.out (k + 1) (by omega) (by omega)
            simp only [decide_eq_true_eq]; omega
          have hkw : IntKind.i64.wrap ((k : Int) + 1) = (k : Int) + 1 := IntWalk.i64_in _ (by omega)
          have hkt : ((k : Int) + 1).toNat = k + 1 := by omega
          have hki2 : (k : Int) + 1 < (xs.length : Int) := by omega
          have hk02 : (0 : Int) ≤ (k : Int) + 1 := by omega
          clear hlast hrow
          generalize (xs.getD k rd0).b = yb at *
          generalize (xs.getD k rd0).m = ym at *
          generalize (xs.getD (k + 1) rd0).b = yn at *
          go_wp2
          go_ret
          exact ⟨ret_bool (by first | rfl | (simp; done)), B3⟩
      · have hd : decide (t ≤ (xs.getD k rd0).m) = false := by simp only [decide_eq_false_iff_not]; exact ht
        have Hv2 := Lib.hid (show whereV n xs t = .tuple #[.int .i64 (k : Int), .bool false, .bool true] by rw [Hv.out, hd])
        clear Hv ht
        go_wp2_with fail
        refine (where2_any n _ xs t _ Hown.out.ins (by omega)).mono ?_; rintro e w2 ⟨rfl, b2⟩
        rw [Hv2.out]
        have B2 := b1.trans (b2.mono b1.size)
        have Hown2 := Lib.hid (Hown.out.below b2)
        clear b1 b2
        go_wp2_with fail
        refine (where1_any n _ xs t _ Hown2.out.ins (by omega)).mono ?_; rintro e w3 ⟨rfl, b3⟩
        rw [Hv2.out]
        have B3 := B2.trans (b3.mono B2.size)
        obtain ⟨b, rfl, hb, hrow, _⟩ := (Hown2.out.below b3) (by rintro rfl; simp at l2)
        obtain ⟨_, c1, c2⟩ := hrow k hkl
        simp only [Nat.zero_add] at c1 c2
        have hki : (k : Int) < (xs.length : Int) := by omega
        have hk0 : (0 : Int) ≤ (k : Int) := Int.natCast_nonneg _
        have d1 : decide ((xs.getD k rd0).b ≤ t) = true := by simp only [decide_eq_true_eq]; exact Hb0.out
        clear b3 B2
        by_cases hlast : k + 1 = xs.length
        · have hq : ((k : Int) + 1 == (xs.length : Int)) = true := by simp; omega
          clear hlast hrow
          generalize (xs.getD k rd0).b = yb at *
          generalize (xs.getD k rd0).m = ym at *
          go_wp2
          go_ret
          exact ⟨ret_bool (by first | rfl | (simp; done)), B3⟩
        · have hq : ((k : Int) + 1 == (xs.length : Int)) = false := by simp; omega
          obtain ⟨_, e1, _⟩ := hrow (k + 1) (by omega)
          simp only [Nat.zero_add] at e1
          have d2 : decide (t < (xs.getD (k + 1) rd0).b) = true := by
            have := Hnext.out (k + 1) (by omega) (by omega)
            simp only [decide_eq_true_eq]; omega
          have hkw : IntKind.i64.wrap ((k : Int) + 1) = (k : Int) + 1 := IntWalk.i64_in _ (by omega)
          have hkt : ((k : Int) + 1).toNat = k + 1 := by omega
          have hki2 : (k : Int) + 1 < (xs.length : Int) := by omega
          have hk02 : (0 : Int) ≤ (k : Int) + 1 := by omega
          clear hlast hrow
          generalize (xs.getD k rd0).b = yb at *
          generalize (xs.getD k rd0).m = ym at *
          generalize (xs.getD (k + 1) rd0).b = yn at *
          go_wp2
          go_ret
          exact ⟨ret_bool (by first | rfl | (simp; done)), B3⟩
  · go_enter Try.func7, Try.ntmps7
    go_wp2
    go_ret
    exact ⟨rfl, Below.refl _ _⟩

set_option maxRecDepth 100000 in
theorem lifted (os : Os) (started : os.Started) (H : Type) (enc : TypeId × Value → H) :
    ReturnsInHanded {} Try.checked os 7 .any (Rows.fnStopsWhereSpec.pre6 enc Try.prog Try.f7 Rows.fnStopsWhereRow.domain false) (Rows.fnStopsWhereSpec.post enc Try.prog Try.f7 false true false false) := by
  refine returnsInHanded_of_change (C := Try.checked) own started (by kernel_rfl) Try.func7
    (ChangeSpec.witness6 (enc := enc) (C := Try.checked) false ⟨#[], #[.slice none 0 0], []⟩ 8 (by kernel_rfl) (by kernel_rfl) (by kernel_rfl) (by kernel_rfl)) ?_
  intro W base args ds gs before hval0 hW hcnd _
  have hval : ∀ (j : Nat) t v, Try.f7.params[j]? = some t → args[j]? = some v → Value.okWide Try.prog W .any base t v := hval0
  have hW' := hW
  obtain ⟨p, q, hA0, hV, rfl, hfz, hnd⟩ := hW
  have hA : DataW.TrodAll enc Try.prog W 0 (fun _ => true) true Try.f7.params.toList args.toList ds p := hA0
  rw [Try.params7] at hA hval
  obtain ⟨v0, vs0, d0, ds0, p0, q0, hargs, rfl, rfl, h0, r0⟩ := trodAll_cons hA
  obtain ⟨rfl, rfl, rfl⟩ := trodAll_nil r0
  obtain rfl : args = #[v0] := by cases args; simp_all
  obtain ⟨rfl, rfl⟩ := trodVars_none hV
  obtain ⟨a0, len0, cap0, rfl⟩ := okWide_slice Try.underlying22 (hval 0 22 v0 rfl rfl)
  have k0 := h0
  have lt0 : ∀ x ∈ p0, x.block < W.heap.size := by obtain ⟨m, hm⟩ := k0; exact DataW.trod_lt m _ _ _ hm
  obtain ⟨z0, hv0, hm0⟩ := open_byteS h0 rfl
  clear hA0 hval0
  refine (walk _ z0 W hv0 hm0).mono fun e W' ⟨he, bel⟩ => ?_
  subst he
  exact ⟨_, rfl, _, _, _, [], _, [], hW', trodAll_mk1 (shut_bool Try.underlying4 _), (trodAll_cons_mk (Below.trod laidOut (by kernel_rfl) (of_decide_eq_true (by kernel_rfl)) k0 bel lt0) trodAll_mk0), rfl, bel.frame _, fun h => by cases h⟩

theorem over : Rows.fnStopsWhereRow.holds Try.pinned (OpenSpec.ofChange Rows.fnStopsWhereSpec) :=
  OpenClaim.holds_of_wide 7 Try.f7 rfl rfl rfl rfl rfl rfl rfl ⟨rfl, rfl, rfl, rfl, rfl⟩ rfl rfl rfl rfl rfl (by kernel_rfl) Try.func7 (by kernel_rfl)
    (of_decide_eq_true (by kernel_rfl)) (by unfold Func.isWrapper; first | (rw [if_pos (by decide +kernel)]; kernel_rfl) | (rw [if_neg (by decide +kernel)]; exact ⟨rfl, rfl⟩))
    (fun os started H enc _ => lifted os started H enc)

theorem proved : Rows.FnStopsWhereSaid := over
#print axioms proved
end Go.Proofs.Ytaclcpaeggmmcaa.lawFnStopsWhere
