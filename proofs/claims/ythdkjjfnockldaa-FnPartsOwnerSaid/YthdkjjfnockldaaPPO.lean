/- The law FnPartsOwner holds at every input. No condition. -/
import Derived.Test.YthdkjjfnockldaaDPO
import Derived.Test.YthdkjjfnockldaaPOF
import Derived.Test.YthdkjjfnockldaaLH
import Derived.Test.YthdkjjfnockldaaSPT
import Derived.Test.YthdkjjfnockldaaQM
import Derived.Test.YthdkjjfnockldaaQN
import Derived.Test.YthdkjjfnockldaaQ3
import Derived.Test.YthdkjjfnockldaaQL
import Derived.Test.YthdkjjfnockldaaQO
namespace Go.Proofs.Ythdkjjfnockldaa.lawFnPartsOwner
open Go.ChangeShapes Go.WideShapes Go.ChangeAt Go.RowKit
set_option linter.unusedVariables false

set_option maxRecDepth 100000 in
set_option maxHeartbeats 2000000 in
theorem walk (v : Value) (l : List Int) (w : World) (hv : BytesIn w v l) (hm : l.length ≤ maxLen) :
    Calls Try.prog 5 #[v] w fun e w' => e = .returned (.bool true) ∧ Below w.heap.size w w' := by
  have Hv := Lib.hid hv
  obtain ⟨av, cv, rfl, hcv, _, _⟩ := hv
  clear hcv
  by_cases hl : l.length ≤ 1048576
  · have hl' : ¬ (1048576 : Int) < (l.length : Int) := by omega
    go_enter Try.func5, Try.ntmps5
    go_wp2_with fail
    refine (drawPartsOwner_any _ l _ Hv.out hl).mono ?_; rintro e w1 ⟨pv, xs, m, rfl, hp, hx8, hm0, hm1, hb⟩
    have Hx1 := Lib.hid hp
    have HB1 := Lib.hid hb
    have hx : xs.length ≤ 1048576 := by omega
    clear hb hp
    have H2 := Lib.hid (fun w' (h : PtIn w' pv xs) => owner2_any pv xs m w' h hx)
    have H1 := Lib.hid (fun w' (h : PtIn w' pv xs) => owner1_any pv xs m w' h hx)
    cases hok : mileOk xs m with
    | false =>
      have hno : mileX xs m = 0 := by unfold mileX; rw [if_no hok]
      rw [hno, hok] at H2 H1
      clear hok hno
      go_wp2_with fail
      refine (H2.out _ Hx1.out).mono ?_; rintro e w2 ⟨rfl, hb2⟩
      have Hx2 := Lib.hid (Hx1.out.below hb2)
      have HB2 := Lib.hid (HB1.out.trans (hb2.mono HB1.out.size))
      clear hb2
      go_wp2_with fail
      refine (H1.out _ Hx2.out).mono ?_; rintro e w3 ⟨rfl, hb3⟩
      have HB3 := Lib.hid (HB2.out.trans (hb3.mono HB2.out.size))
      clear hb3
      go_wp2
      go_ret
      exact ⟨rfl, HB3.out⟩
    | true =>
      obtain ⟨hv, hvr, e1, e2, e3, e4, e5, m0, m1, m2⟩ := owner_facts hok
      have hyl : xs.reverse.length ≤ 1048576 := by rw [List.length_reverse]; exact hx
      have hzl := plainX_short xs
      obtain ⟨t, ht⟩ : ∃ t, lenX xs - 1 - m = t := ⟨_, rfl⟩
      obtain ⟨m', hm'⟩ : ∃ m', m + 1 = m' := ⟨_, rfl⟩
      rw [ht] at e2 e3
      rw [hm'] at e4 e5
      have HT := Lib.hid (fun w' (h : PtIn w' pv xs) => turn2_any pv xs w' h hx)
      have HL := Lib.hid (fun w' (h : PtIn w' pv xs) => len2_any pv xs w' h hx)
      have HOr := Lib.hid (fun u w' (h : PtIn w' u xs.reverse) => owner2_any u _ t w' h hyl)
      have HS := Lib.hid (fun w' (h : PtIn w' pv xs) => sell2_any pv xs m m' (mileX xs m) w' h hx)
      have HP := Lib.hid (fun w' (h : PtIn w' pv xs) => plain2_any pv xs w' h hx)
      rw [e1, hv] at HT
      rw [e2, e3] at HOr
      rw [e4, e5] at HS
      rw [hok] at H2 H1
      clear hok hv hvr e1 e2 e3 e4 e5 hx8
      generalize xs.reverse = ys at *
      generalize plainX xs = zs at *
      generalize plainOk xs = po at *
      generalize mileX xs m = ow at *
      generalize lenX xs = n at *
      obtain ⟨n1, hn1⟩ : ∃ n1, n - 1 = n1 := ⟨_, rfl⟩
      have hw1 : wrap64 (n - 1) = n1 := by rw [hn1]; exact wrap64_ok (by omega) (by omega)
      have hw2 : wrap64 (n1 - m) = t := by rw [← hn1, ht]; exact wrap64_ok (by omega) (by omega)
      have hw3 : wrap64 (m + 1) = m' := by rw [hm']; exact wrap64_ok (by omega) (by omega)
      have hqo : (ow == ow) = true := by simp
      have hqn : (ow != ow) = false := by simp
      have hqp : (po == po) = true := by cases po <;> rfl
      have Hn := Lib.hid (And.intro hn1 (And.intro ht hm'))
      clear hn1 ht hm' m0 m1 m2 hm0 hm1
      go_wp2_with fail
      refine (H2.out _ Hx1.out).mono ?_; rintro e w2 ⟨rfl, hb2⟩
      have Hx2 := Lib.hid (Hx1.out.below hb2)
      have HB2 := Lib.hid (HB1.out.trans (hb2.mono HB1.out.size))
      clear hb2
      go_wp2_with fail
      refine (H1.out _ Hx2.out).mono ?_; rintro e w3 ⟨rfl, hb3⟩
      have Hx3 := Lib.hid (Hx2.out.below hb3)
      have HB3 := Lib.hid (HB2.out.trans (hb3.mono HB2.out.size))
      clear hb3 H1 H2 Hx1 Hx2 HB1 HB2
      go_wp2_with fail
      refine (HT.out _ Hx3.out).mono ?_; intro e w4 h4
      obtain ⟨v4, rfl, hi4, hb4⟩ := outPt_in h4
      have Hx4 := Lib.hid (Hx3.out.below hb4)
      have HB4 := Lib.hid (HB3.out.trans (hb4.mono HB3.out.size))
      have HY4 := Lib.hid hi4
      clear hb4 hi4 h4 Hx3 HB3 HT
      go_wp2_with fail
      refine (HL.out _ Hx4.out).mono ?_; rintro e w5 ⟨rfl, hb5⟩
      have Hx5 := Lib.hid (Hx4.out.below hb5)
      have HB5 := Lib.hid (HB4.out.trans (hb5.mono HB4.out.size))
      have HY5 := Lib.hid (HY4.out.below hb5)
      clear hb5 HL Hx4 HB4 HY4
      go_wp2_with fail
      refine (HOr.out _ _ HY5.out).mono ?_; rintro e w6 ⟨rfl, hb6⟩
      have Hx6 := Lib.hid (Hx5.out.below hb6)
      have HB6 := Lib.hid (HB5.out.trans (hb6.mono HB5.out.size))
      clear hb6 HOr Hx5 HB5 HY5
      go_wp2_with fail
      refine (HS.out _ Hx6.out).mono ?_; intro e w7 h7
      obtain ⟨v7, rfl, hi7, hb7⟩ := outPt_in h7
      have Hx7 := Lib.hid (Hx6.out.below hb7)
      have HB7 := Lib.hid (HB6.out.trans (hb7.mono HB6.out.size))
      have HY7 := Lib.hid hi7
      clear hb7 hi7 h7 Hx6 HB6 HS
      go_wp2_with fail
      refine (HP.out _ Hx7.out).mono ?_; intro e w8 h8
      obtain ⟨v8, rfl, hi8, hb8⟩ := outPt_in h8
      have HB8 := Lib.hid (HB7.out.trans (hb8.mono HB7.out.size))
      have HY8 := Lib.hid (HY7.out.below hb8)
      have HZ8 := Lib.hid hi8
      clear hb8 hi8 h8 Hx7 HB7 HY7 HP
      go_wp2_with fail
      refine (sameParts_eq _ _ zs _ HY8.out HZ8.out hzl).mono ?_; rintro e w9 ⟨rfl, hb9⟩
      have HB9 := Lib.hid (HB8.out.trans (hb9.mono HB8.out.size))
      clear hb9
      go_wp2
      go_ret
      exact ⟨rfl, HB9.out⟩
  · have hl' : (1048576 : Int) < (l.length : Int) := by omega
    go_enter Try.func5, Try.ntmps5
    go_wp2
    go_ret
    exact ⟨rfl, Below.refl _ _⟩

set_option maxRecDepth 100000 in
theorem lifted (os : Os) (started : os.Started) (H : Type) (enc : TypeId × Value → H) :
    ReturnsInHanded {} Try.checked os 5 .any (Rows.fnPartsOwnerSpec.pre6 enc Try.prog Try.f5 Rows.fnPartsOwnerRow.domain false) (Rows.fnPartsOwnerSpec.post enc Try.prog Try.f5 false true false false) := by
  refine returnsInHanded_of_change (C := Try.checked) own started (by kernel_rfl) Try.func5
    (ChangeSpec.witness6 (enc := enc) (C := Try.checked) false ⟨#[], #[.slice none 0 0], []⟩ 8 (by kernel_rfl) (by kernel_rfl) (by kernel_rfl) (by kernel_rfl)) ?_
  intro W base args ds gs before hval0 hW hcnd _
  have hval : ∀ (j : Nat) t v, Try.f5.params[j]? = some t → args[j]? = some v → Value.okWide Try.prog W .any base t v := hval0
  have hW' := hW
  obtain ⟨p, q, hA0, hV, rfl, hfz, hnd⟩ := hW
  have hA : DataW.TrodAll enc Try.prog W 0 (fun _ => true) true Try.f5.params.toList args.toList ds p := hA0
  rw [Try.params5] at hA hval
  obtain ⟨v0, vs0, d0, ds0, p0, q0, hargs, rfl, rfl, h0, r0⟩ := trodAll_cons hA
  obtain ⟨rfl, rfl, rfl⟩ := trodAll_nil r0
  obtain rfl : args = #[v0] := by cases args; simp_all
  obtain ⟨rfl, rfl⟩ := trodVars_none hV
  obtain ⟨a0, len0, cap0, rfl⟩ := okWide_slice Try.underlying22 (hval 0 22 v0 rfl rfl)
  have k0 := h0
  have lt0 : ∀ x ∈ p0, x.block < W.heap.size := by obtain ⟨m, hm⟩ := k0; exact DataW.trod_lt m _ _ _ hm
  obtain ⟨z0, hv0, hm0⟩ := open_byteS h0 rfl
  clear hA0 hval0
  refine (walk _ z0 W hv0 hm0).mono fun e W' ⟨he, bel⟩ => ?_
  subst he
  exact ⟨_, rfl, _, _, _, [], _, [], hW', trodAll_mk1 (shut_bool Try.underlying4 _), (trodAll_cons_mk (Below.trod laidOut (by kernel_rfl) (of_decide_eq_true (by kernel_rfl)) k0 bel lt0) trodAll_mk0), rfl, bel.frame _, fun h => by cases h⟩

theorem over : Rows.fnPartsOwnerRow.holds Try.pinned (OpenSpec.ofChange Rows.fnPartsOwnerSpec) :=
  OpenClaim.holds_of_wide 5 Try.f5 rfl rfl rfl rfl rfl rfl rfl ⟨rfl, rfl, rfl, rfl, rfl⟩ rfl rfl rfl rfl rfl (by kernel_rfl) Try.func5 (by kernel_rfl)
    (of_decide_eq_true (by kernel_rfl)) (by unfold Func.isWrapper; first | (rw [if_pos (by decide +kernel)]; kernel_rfl) | (rw [if_neg (by decide +kernel)]; exact ⟨rfl, rfl⟩))
    (fun os started H enc _ => lifted os started H enc)

theorem proved : Rows.FnPartsOwnerSaid := over
#print axioms proved
end Go.Proofs.Ythdkjjfnockldaa.lawFnPartsOwner
