/- The law FnPartsTurn holds at every input. No condition. -/
import Derived.Test.YthdkjjfnockldaaDPX
import Derived.Test.YthdkjjfnockldaaPF
import Derived.Test.YthdkjjfnockldaaLH
import Derived.Test.YthdkjjfnockldaaSPT
import Derived.Test.YthdkjjfnockldaaSI
import Derived.Test.YthdkjjfnockldaaQN
import Derived.Test.YthdkjjfnockldaaQ5
import Derived.Test.YthdkjjfnockldaaQK
import Derived.Test.YthdkjjfnockldaaQP
namespace Go.Proofs.Ythdkjjfnockldaa.lawFnPartsTurn
open Go.ChangeShapes Go.WideShapes Go.ChangeAt Go.RowKit
set_option linter.unusedVariables false

set_option maxRecDepth 100000 in
set_option maxHeartbeats 2000000 in
theorem walk (v : Value) (l : List Int) (v' : Value) (l' : List Int) (w : World) (hv : BytesIn w v l) (hm : l.length ≤ maxLen) (hv' : BytesIn w v' l') (hm' : l'.length ≤ maxLen) :
    Calls Try.prog 8 #[v, v'] w fun e w' => e = .returned (.bool true) ∧ Below w.heap.size w w' := by
  have Hv := Lib.hid hv
  obtain ⟨av, cv, rfl, hcv, _, _⟩ := hv
  obtain ⟨av', cv', rfl, hcv', _, _⟩ := hv'
  clear hcv hcv'
  by_cases hl : l.length ≤ 1048576
  · have hl' : ¬ (1048576 : Int) < (l.length : Int) := by omega
    by_cases hk : l'.length ≤ 1048576
    · have hk' : ¬ (1048576 : Int) < (l'.length : Int) := by omega
      go_enter Try.func8, Try.ntmps8
      go_wp2_with fail
      refine (drawPartsTurn_any _ l _ Hv.out hl).mono ?_; rintro e w1 ⟨pv, xs, rfl, hp, hx8, hb⟩
      have Hx1 := Lib.hid hp
      have HB1 := Lib.hid hb
      have hx : xs.length ≤ 1048576 := by omega
      clear hp hb
      have H2 := Lib.hid (fun w' (h : PtIn w' pv xs) => turn2_any pv xs w' h hx)
      have H1 := Lib.hid (fun w' (h : PtIn w' pv xs) => turn1_any pv xs w' h hx)
      cases hok : validP xs with
      | false =>
        have hno : turnX xs = [] := by unfold turnX; rw [if_no hok]
        rw [hno, hok] at H2 H1
        clear hok hno
        go_wp2_with fail
        refine (H2.out _ Hx1.out).mono ?_; intro e w2 h2
        obtain ⟨v2, rfl, hi2, hb2⟩ := outPt_in h2
        have Hx2 := Lib.hid (Hx1.out.below hb2)
        have HB2 := Lib.hid (HB1.out.trans (hb2.mono HB1.out.size))
        have HI2 := Lib.hid hi2
        clear hb2 hi2 h2
        go_wp2_with fail
        refine (H1.out _ Hx2.out).mono ?_; intro e w3 h3
        obtain ⟨v3, rfl, hi3, hb3⟩ := outPt_in h3
        have HB3 := Lib.hid (HB2.out.trans (hb3.mono HB2.out.size))
        have HI3 := Lib.hid (HI2.out.below hb3)
        have HJ3 := Lib.hid hi3
        clear hb3 hi3 h3
        go_wp2_with fail
        refine (sameParts_eq _ _ [] _ HI3.out HJ3.out (by simp)).mono ?_; rintro e w4 ⟨rfl, hb4⟩
        have HB4 := Lib.hid (HB3.out.trans (hb4.mono HB3.out.size))
        have HI4 := Lib.hid (HI3.out.below hb4)
        have HJ4 := Lib.hid (HJ3.out.below hb4)
        clear hb4
        go_wp2_with fail
        refine (sameParts_eq _ _ [] _ HI4.out HJ4.out (by simp)).mono ?_; rintro e w5 ⟨rfl, hb5⟩
        have HB5 := Lib.hid (HB4.out.trans (hb5.mono HB4.out.size))
        clear hb5
        go_wp2
        go_ret
        exact ⟨rfl, HB5.out⟩
      | true =>
        obtain ⟨e1, e2, e3, e4, e5, _⟩ := turn_facts hok
        have hyl : xs.reverse.length ≤ 1048576 := by rw [List.length_reverse]; exact hx
        rw [e1, hok] at H2 H1
        generalize xs.reverse = ys at *
        have HT := Lib.hid (fun u w' (h : PtIn w' u ys) => turn2_any u ys w' h hyl)
        have HMx := Lib.hid (fun w' (h : PtIn w' pv xs) => milesP2_any pv xs w' h hx)
        have HMy := Lib.hid (fun u w' (h : PtIn w' u ys) => milesP2_any u ys w' h hyl)
        have HAx := Lib.hid (fun a w' (h : PtIn w' pv xs) => make2_any pv xs a w' h hx)
        have HAy := Lib.hid (fun u a w' (h : PtIn w' u ys) => make2_any u ys a w' h hyl)
        obtain ⟨a, ha⟩ : ∃ a : Int, (l'.length : Int) % 500 = a := ⟨_, rfl⟩
        have HAx := Lib.hid (HAx.out a)
        have HAy := Lib.hid (fun u => HAy.out u a)
        obtain ⟨e50, e51⟩ := e5 a
        have hao : makeOk xs a = true := by
          have h0 : 0 ≤ a := by rw [← ha]; exact Int.emod_nonneg _ (by omega)
          have h1 : a < 500 := by rw [← ha]; exact Int.emod_lt_of_pos _ (by omega)
          unfold makeOk
          rw [hok, okAm_iff.2 ⟨h0, by omega⟩]; rfl
        rw [e3, e2] at HT
        rw [hok] at HMx
        rw [e4, e2] at HMy
        rw [hao] at HAx e51
        rw [e50, e51] at HAy
        have hMs := milesX_short xs
        have hAs := makeX_short xs a
        have Hha := Lib.hid ha
        clear e1 e2 e3 e4 e5 e50 e51 hao hok hx8
        generalize milesX xs = ms at *
        generalize makeX xs a = ss at *
        go_wp2_with fail
        refine (H2.out _ Hx1.out).mono ?_; intro e w2 h2
        obtain ⟨v2, rfl, hi2, hb2⟩ := outPt_in h2
        have Hx2 := Lib.hid (Hx1.out.below hb2)
        have HB2 := Lib.hid (HB1.out.trans (hb2.mono HB1.out.size))
        have HI2 := Lib.hid hi2
        clear hb2 hi2 h2
        go_wp2_with fail
        refine (H1.out _ Hx2.out).mono ?_; intro e w3 h3
        obtain ⟨v3, rfl, hi3, hb3⟩ := outPt_in h3
        have HB3 := Lib.hid (HB2.out.trans (hb3.mono HB2.out.size))
        have Hx3 := Lib.hid (Hx2.out.below hb3)
        have HI3 := Lib.hid (HI2.out.below hb3)
        have HJ3 := Lib.hid hi3
        clear hb3 hi3 h3 H1 H2 Hx1 Hx2 HI2 HB1 HB2
        go_wp2_with fail
        refine (sameParts_eq _ _ ys _ HI3.out HJ3.out hyl).mono ?_; rintro e w4 ⟨rfl, hb4⟩
        have HB4 := Lib.hid (HB3.out.trans (hb4.mono HB3.out.size))
        have Hx4 := Lib.hid (Hx3.out.below hb4)
        have HI4 := Lib.hid (HI3.out.below hb4)
        clear hb4 Hx3 HI3 HJ3 HB3
        go_wp2_with fail
        refine (HT.out _ _ HI4.out).mono ?_; intro e w5 h5
        obtain ⟨v5, rfl, hi5, hb5⟩ := outPt_in h5
        have HB5 := Lib.hid (HB4.out.trans (hb5.mono HB4.out.size))
        have Hx5 := Lib.hid (Hx4.out.below hb5)
        have HI5 := Lib.hid (HI4.out.below hb5)
        have HT5 := Lib.hid hi5
        clear hb5 hi5 h5 HT Hx4 HI4 HB4
        go_wp2_with fail
        refine (HMx.out _ Hx5.out).mono ?_; intro e w6 h6
        obtain ⟨v6, rfl, hi6, hb6⟩ := okIn h6
        have HB6 := Lib.hid (HB5.out.trans (hb6.mono HB5.out.size))
        have Hx6 := Lib.hid (Hx5.out.below hb6)
        have HI6 := Lib.hid (HI5.out.below hb6)
        have HT6 := Lib.hid (HT5.out.below hb6)
        have HM6 := Lib.hid hi6
        clear hb6 hi6 h6 HMx Hx5 HI5 HT5 HB5
        go_wp2_with fail
        refine (HMy.out _ _ HI6.out).mono ?_; intro e w7 h7
        obtain ⟨v7, rfl, hi7, hb7⟩ := okIn h7
        have HB7 := Lib.hid (HB6.out.trans (hb7.mono HB6.out.size))
        have Hx7 := Lib.hid (Hx6.out.below hb7)
        have HI7 := Lib.hid (HI6.out.below hb7)
        have HT7 := Lib.hid (HT6.out.below hb7)
        have HM7 := Lib.hid (HM6.out.below hb7)
        have HN7 := Lib.hid hi7
        clear hb7 hi7 h7 HMy Hx6 HI6 HT6 HM6 HB6
        go_wp2_with fail
        rw [Hha.out]
        refine (HAx.out _ Hx7.out).mono ?_; intro e w8 h8
        obtain ⟨v8, rfl, hi8, hb8⟩ := okIn h8
        have HB8 := Lib.hid (HB7.out.trans (hb8.mono HB7.out.size))
        have Hx8 := Lib.hid (Hx7.out.below hb8)
        have HI8 := Lib.hid (HI7.out.below hb8)
        have HT8 := Lib.hid (HT7.out.below hb8)
        have HM8 := Lib.hid (HM7.out.below hb8)
        have HN8 := Lib.hid (HN7.out.below hb8)
        have HS8 := Lib.hid hi8
        clear hb8 hi8 h8 HAx Hx7 HI7 HT7 HM7 HN7 HB7
        go_wp2_with fail
        rw [Hha.out]
        refine (HAy.out _ _ HI8.out).mono ?_; intro e w9 h9
        obtain ⟨v9, rfl, hi9, hb9⟩ := okIn h9
        have HB9 := Lib.hid (HB8.out.trans (hb9.mono HB8.out.size))
        have Hx9 := Lib.hid (Hx8.out.below hb9)
        have HT9 := Lib.hid (HT8.out.below hb9)
        have HM9 := Lib.hid (HM8.out.below hb9)
        have HN9 := Lib.hid (HN8.out.below hb9)
        have HS9 := Lib.hid (HS8.out.below hb9)
        have HU9 := Lib.hid hi9
        clear hb9 hi9 h9 HAy Hx8 HI8 HT8 HM8 HN8 HS8 HB8
        go_wp2_with fail
        refine (sameParts_eq _ _ xs _ HT9.out Hx9.out hx).mono ?_; rintro e wa ⟨rfl, hba⟩
        have HBa := Lib.hid (HB9.out.trans (hba.mono HB9.out.size))
        have HMa := Lib.hid (HM9.out.below hba)
        have HNa := Lib.hid (HN9.out.below hba)
        have HSa := Lib.hid (HS9.out.below hba)
        have HUa := Lib.hid (HU9.out.below hba)
        clear hba Hx9 HT9 HM9 HN9 HS9 HU9 HB9
        go_wp2_with fail
        refine (sameInts_any _ _ ms ms _ HMa.out HNa.out hMs).mono ?_; rintro e wb ⟨⟨x, rfl, hxb⟩, hbb⟩
        obtain rfl : x = true := hxb.2 rfl
        have HBb := Lib.hid (HBa.out.trans (hbb.mono HBa.out.size))
        have HSb := Lib.hid (HSa.out.below hbb)
        have HUb := Lib.hid (HUa.out.below hbb)
        clear hbb hxb HMa HNa HSa HUa HBa
        go_wp2_with fail
        refine (sameInts_any _ _ ss ss _ HSb.out HUb.out hAs).mono ?_; rintro e wc ⟨⟨x, rfl, hxc⟩, hbc⟩
        obtain rfl : x = true := hxc.2 rfl
        have HBc := Lib.hid (HBb.out.trans (hbc.mono HBb.out.size))
        clear hbc hxc
        go_wp2
        go_ret
        exact ⟨rfl, HBc.out⟩
    · have hk' : (1048576 : Int) < (l'.length : Int) := by omega
      go_enter Try.func8, Try.ntmps8
      go_wp2
      go_ret
      exact ⟨rfl, Below.refl _ _⟩
  · have hl' : (1048576 : Int) < (l.length : Int) := by omega
    go_enter Try.func8, Try.ntmps8
    go_wp2
    go_ret
    exact ⟨rfl, Below.refl _ _⟩

set_option maxRecDepth 100000 in
theorem lifted (os : Os) (started : os.Started) (H : Type) (enc : TypeId × Value → H) :
    ReturnsInHanded {} Try.checked os 8 .any (Rows.fnPartsTurnSpec.pre6 enc Try.prog Try.f8 Rows.fnPartsTurnRow.domain false) (Rows.fnPartsTurnSpec.post enc Try.prog Try.f8 false true false false) := by
  refine returnsInHanded_of_change (C := Try.checked) own started (by kernel_rfl) Try.func8
    (ChangeSpec.witness6 (enc := enc) (C := Try.checked) false ⟨#[], #[.slice none 0 0, .slice none 0 0], []⟩ 8 (by kernel_rfl) (by kernel_rfl) (by kernel_rfl) (by kernel_rfl)) ?_
  intro W base args ds gs before hval0 hW hcnd _
  have hval : ∀ (j : Nat) t v, Try.f8.params[j]? = some t → args[j]? = some v → Value.okWide Try.prog W .any base t v := hval0
  have hW' := hW
  obtain ⟨p, q, hA0, hV, rfl, hfz, hnd⟩ := hW
  have hA : DataW.TrodAll enc Try.prog W 0 (fun _ => true) true Try.f8.params.toList args.toList ds p := hA0
  rw [Try.params8] at hA hval
  obtain ⟨v0, vs0, d0, ds0, p0, q0, hargs, rfl, rfl, h0, r0⟩ := trodAll_cons hA
  obtain ⟨v1, vs1, d1, ds1, p1, q1, rfl, rfl, rfl, h1, r1⟩ := trodAll_cons r0
  obtain ⟨rfl, rfl, rfl⟩ := trodAll_nil r1
  obtain rfl : args = #[v0, v1] := by cases args; simp_all
  obtain ⟨rfl, rfl⟩ := trodVars_none hV
  obtain ⟨a0, len0, cap0, rfl⟩ := okWide_slice Try.underlying22 (hval 0 22 v0 rfl rfl)
  have k0 := h0
  have lt0 : ∀ x ∈ p0, x.block < W.heap.size := by obtain ⟨m, hm⟩ := k0; exact DataW.trod_lt m _ _ _ hm
  obtain ⟨z0, hv0, hm0⟩ := open_byteS h0 rfl
  obtain ⟨a1, len1, cap1, rfl⟩ := okWide_slice Try.underlying22 (hval 1 22 v1 rfl rfl)
  have k1 := h1
  have lt1 : ∀ x ∈ p1, x.block < W.heap.size := by obtain ⟨m, hm⟩ := k1; exact DataW.trod_lt m _ _ _ hm
  obtain ⟨z1, hv1, hm1⟩ := open_byteS h1 rfl
  clear hA0 hval0
  refine (walk _ z0 _ z1 W hv0 hm0 hv1 hm1).mono fun e W' ⟨he, bel⟩ => ?_
  subst he
  exact ⟨_, rfl, _, _, _, [], _, [], hW', trodAll_mk1 (shut_bool Try.underlying4 _), (trodAll_cons_mk (Below.trod laidOut (by kernel_rfl) (of_decide_eq_true (by kernel_rfl)) k0 bel lt0) (trodAll_cons_mk (Below.trod laidOut (by kernel_rfl) (of_decide_eq_true (by kernel_rfl)) k1 bel lt1) trodAll_mk0)), rfl, bel.frame _, fun h => by cases h⟩

theorem over : Rows.fnPartsTurnRow.holds Try.pinned (OpenSpec.ofChange Rows.fnPartsTurnSpec) :=
  OpenClaim.holds_of_wide 8 Try.f8 rfl rfl rfl rfl rfl rfl rfl ⟨rfl, rfl, rfl, rfl, rfl⟩ rfl rfl rfl rfl rfl (by kernel_rfl) Try.func8 (by kernel_rfl)
    (of_decide_eq_true (by kernel_rfl)) (by unfold Func.isWrapper; first | (rw [if_pos (by decide +kernel)]; kernel_rfl) | (rw [if_neg (by decide +kernel)]; exact ⟨rfl, rfl⟩))
    (fun os started H enc _ => lifted os started H enc)

theorem proved : Rows.FnPartsTurnSaid := over
#print axioms proved
end Go.Proofs.Ythdkjjfnockldaa.lawFnPartsTurn
