/- The law FnPartsSell holds at every input. No condition. -/
import Derived.Test.YthdkjjfnockldaaDMI
import Derived.Test.YthdkjjfnockldaaSEF
import Derived.Test.YthdkjjfnockldaaLH
import Derived.Test.YthdkjjfnockldaaSPT
import Derived.Test.YthdkjjfnockldaaQM
import Derived.Test.YthdkjjfnockldaaQ4
import Derived.Test.YthdkjjfnockldaaQL
import Derived.Test.YthdkjjfnockldaaQO
namespace Go.Proofs.Ythdkjjfnockldaa.lawFnPartsSell
open Go.ChangeShapes Go.WideShapes Go.ChangeAt Go.RowKit
set_option linter.unusedVariables false

def PeRel (n : Int) (w : World) (iv : Value) (wr : World) : Prop := ∃ i : Nat, (i : Int) ≤ n ∧ iv = .int .i64 i ∧ Below w.heap.size w wr

set_option maxRecDepth 100000 in
set_option maxHeartbeats 2000000 in
theorem walk (v : Value) (l : List Int) (w : World) (hv : BytesIn w v l) (hm : l.length ≤ maxLen) :
    Calls Try.prog 7 #[v] w fun e w' => e = .returned (.bool true) ∧ Below w.heap.size w w' := by
  have Hv := Lib.hid hv
  obtain ⟨av, cv, rfl, hcv, _, _⟩ := hv
  clear hcv
  by_cases hl : l.length ≤ 1048576
  · have hl' : ¬ (1048576 : Int) < (l.length : Int) := by omega
    go_enter Try.func7, Try.ntmps7
    go_wp2_with fail
    refine (drawPartsSell_any _ l _ Hv.out hl).mono ?_; rintro e w1 ⟨pv, xs, f, t, o, rfl, hp, hx8, hf0, hf1, ht0, ht1, ho0, ho1, hb⟩
    have Hx1 := Lib.hid hp
    have HB1 := Lib.hid hb
    have hx : xs.length ≤ 1048576 := by omega
    clear hb hp
    have H2 := Lib.hid (fun w' (h : PtIn w' pv xs) => sell2_any pv xs f t o w' h hx)
    have H1 := Lib.hid (fun w' (h : PtIn w' pv xs) => sell1_any pv xs f t o w' h hx (by unfold W64; omega))
    cases hok : sellOk xs f t o with
    | false =>
      have hno : sellX xs f t o = [] := by unfold sellX; rw [if_no hok]
      rw [hno, hok] at H2 H1
      clear hok hno
      go_wp2_with fail
      refine (H2.out _ Hx1.out).mono ?_; intro e w2 h2
      obtain ⟨v2, rfl, hi2, hb2⟩ := outPt_in h2
      have Hx2 := Lib.hid (Hx1.out.below hb2)
      have HB2 := Lib.hid (HB1.out.trans (hb2.mono HB1.out.size))
      have HI2 := Lib.hid hi2
      clear hb2 hi2 h2
      go_wp2_with fail
      refine (H1.out _ Hx2.out).mono ?_; intro e w3 h3
      obtain ⟨v3, rfl, hi3, hb3⟩ := outPt_in h3
      have HB3 := Lib.hid (HB2.out.trans (hb3.mono HB2.out.size))
      have HI3 := Lib.hid (HI2.out.below hb3)
      have HJ3 := Lib.hid hi3
      clear hb3 hi3 h3
      go_wp2_with fail
      refine (sameParts_eq _ _ [] _ HI3.out HJ3.out (by simp)).mono ?_; rintro e w4 ⟨rfl, hb4⟩
      have HB4 := Lib.hid (HB3.out.trans (hb4.mono HB3.out.size))
      have HI4 := Lib.hid (HI3.out.below hb4)
      have HJ4 := Lib.hid (HJ3.out.below hb4)
      clear hb4
      go_wp2_with fail
      refine (sameParts_eq _ _ [] _ HI4.out HJ4.out (by simp)).mono ?_; rintro e w5 ⟨rfl, hb5⟩
      have HB5 := Lib.hid (HB4.out.trans (hb5.mono HB4.out.size))
      clear hb5
      go_wp2
      go_ret
      exact ⟨rfl, HB5.out⟩
    | true =>
      have F := sell_facts hok
      have hyl := sellX_short xs f t o
      generalize sellX xs f t o = ys at *
      have HL := Lib.hid (fun w' (h : PtIn w' pv xs) => len2_any pv xs w' h hx)
      have HLy := Lib.hid (fun u w' (h : PtIn w' u ys) => len2_any u ys w' h hyl)
      have HP := Lib.hid (fun u w' (h : PtIn w' u ys) => plain2_any u ys w' h hyl)
      have HOx := Lib.hid (fun (k : Nat) (hk : (k : Int) < lenX xs) w' (h : PtIn w' pv xs) => (show Calls _ _ _ _ (Gives (.tuple #[.int .i64 (mileX xs k), .bool true]) w') from by
        have h1 := owner2_any pv xs (k : Int) w' h hx
        rw [(F.own k hk).1] at h1
        exact h1))
      have HOy := Lib.hid (fun (k : Nat) (hk : (k : Int) < lenX xs) u w' (h : PtIn w' u ys) => (show Calls _ _ _ _ (Gives (.tuple #[.int .i64 (if f ≤ k ∧ (k : Int) < t then o else mileX xs k), .bool true]) w') from by
        have h1 := owner2_any u ys (k : Int) w' h hyl
        rw [(F.own k hk).2.1, (F.own k hk).2.2] at h1
        exact h1))
      rw [F.len] at HLy
      rw [F.plain, F.plok] at HP
      rw [hok] at H2 H1
      have hft := F.ft
      have hf0' := F.f0
      obtain ⟨n0, n1⟩ := F.bd
      clear hok F hx8
      generalize mileX xs = own at *
      generalize lenX xs = n at *
      have hqn : (n == n) = true := by simp
      have hqo : (o != o) = false := by simp
      go_wp2_with fail
      refine (H2.out _ Hx1.out).mono ?_; intro e w2 h2
      obtain ⟨v2, rfl, hi2, hb2⟩ := outPt_in h2
      have Hx2 := Lib.hid (Hx1.out.below hb2)
      have HB2 := Lib.hid (HB1.out.trans (hb2.mono HB1.out.size))
      have HI2 := Lib.hid hi2
      clear hb2 hi2 h2
      go_wp2_with fail
      refine (H1.out _ Hx2.out).mono ?_; intro e w3 h3
      obtain ⟨v3, rfl, hi3, hb3⟩ := outPt_in h3
      have Hx3 := Lib.hid (Hx2.out.below hb3)
      have HB3 := Lib.hid (HB2.out.trans (hb3.mono HB2.out.size))
      have HI3 := Lib.hid (HI2.out.below hb3)
      have HJ3 := Lib.hid hi3
      clear hb3 hi3 h3 H1 H2 Hx1 Hx2 HI2 HB1 HB2
      go_wp2_with fail
      refine (sameParts_eq _ _ ys _ HI3.out HJ3.out hyl).mono ?_; rintro e w4 ⟨rfl, hb4⟩
      have Hx4 := Lib.hid (Hx3.out.below hb4)
      have HB4 := Lib.hid (HB3.out.trans (hb4.mono HB3.out.size))
      have HI4 := Lib.hid (HI3.out.below hb4)
      clear hb4 Hx3 HB3 HI3 HJ3
      go_wp2_with fail
      refine (HL.out _ Hx4.out).mono ?_; rintro e w5 ⟨rfl, hb5⟩
      have HB5 := Lib.hid (HB4.out.trans (hb5.mono HB4.out.size))
      have Hx5 := Lib.hid (Hx4.out.below hb5)
      have HI5 := Lib.hid (HI4.out.below hb5)
      clear hb5 HL Hx4 HI4 HB4
      go_wp2_with fail
      refine (HP.out _ _ HI5.out).mono ?_; intro e w6 h6
      obtain ⟨v6, rfl, hi6, hb6⟩ := outPt_in h6
      have HB6 := Lib.hid (HB5.out.trans (hb6.mono HB5.out.size))
      have Hx6 := Lib.hid (Hx5.out.below hb6)
      have HI6 := Lib.hid (HI5.out.below hb6)
      have HX6 := Lib.hid hi6
      clear hb6 hi6 h6 HP Hx5 HI5 HB5
      go_wp2
      go_loopw [14] (fun iv wr => PeRel n w6 iv wr) (fun iv _ => (n - intOf iv).toNat)
      case atStart => exact ⟨0, by omega, rfl, Below.refl _ _⟩
      case round =>
        obtain ⟨k, hk, rfl, hb⟩ := hrel
        by_cases hlt : (k : Int) < n
        · have HOxk := Lib.hid (HOx.out k hlt)
          have HOyk := Lib.hid (HOy.out k hlt)
          have Hxr := Lib.hid (Hx6.out.below hb)
          have HIr := Lib.hid (HI6.out.below hb)
          have HBr := Lib.hid hb
          generalize own (k : Int) = x at *
          obtain ⟨y, hy⟩ : ∃ y, (if f ≤ (k : Int) ∧ (k : Int) < t then o else x) = y := ⟨_, rfl⟩
          rw [hy] at HOyk
          have Hy := Lib.hid hy
          clear hb hk hy
          go_wp2_with fail
          refine (HOxk.out _ Hxr.out).mono ?_; rintro e w7 ⟨rfl, hb7⟩
          have HB7 := Lib.hid (HBr.out.trans (hb7.mono HBr.out.size))
          have HI7 := Lib.hid (HIr.out.below hb7)
          clear hb7 HOxk Hxr HIr HBr
          go_wp2_with fail
          refine (HOyk.out _ _ HI7.out).mono ?_; rintro e w8 ⟨rfl, hb8⟩
          have HB8 := Lib.hid (HB7.out.trans (hb8.mono HB7.out.size))
          clear hb8 HOyk HI7 HB7
          rcases (by omega : (f ≤ (k : Int) ∧ (k : Int) < t) ∨ (k : Int) < f ∨ (f ≤ (k : Int) ∧ t ≤ (k : Int))) with ⟨g1, g2⟩ | g1 | ⟨g1, g2⟩
          · have hy := Hy.out
            rw [if_pos ⟨g1, g2⟩] at hy
            subst hy
            have g3 : ¬ (k : Int) < f := by omega
            have g4 : ¬ t ≤ (k : Int) := by omega
            clear Hy
            go_wp2
            exact ⟨⟨k + 1, by omega, by go_num, HB8.out⟩, by simp [intOf]; omega⟩
          · have hy := Hy.out
            rw [if_neg (by omega)] at hy
            subst hy
            have hqx : (x != x) = false := by simp
            have g3 : ¬ f ≤ (k : Int) := by omega
            clear Hy
            go_wp2
            exact ⟨⟨k + 1, by omega, by go_num, HB8.out⟩, by simp [intOf]; omega⟩
          · have hy := Hy.out
            rw [if_neg (by omega)] at hy
            subst hy
            have hqx : (x != x) = false := by simp
            have g3 : ¬ (k : Int) < f := by omega
            have g4 : ¬ (k : Int) < t := by omega
            clear Hy
            go_wp2
            exact ⟨⟨k + 1, by omega, by go_num, HB8.out⟩, by simp [intOf]; omega⟩
        · obtain rfl : n = (k : Int) := by omega
          have HI8 := Lib.hid (HI6.out.below hb)
          have HX8 := Lib.hid (HX6.out.below hb)
          have HB8 := Lib.hid (HB6.out.trans (hb.mono HB6.out.size))
          clear hb hlt hk HOx HOy HI6 HX6 HB6
          go_wp2_with fail
          refine (sameParts_eq _ _ ys _ HX8.out HI8.out hyl).mono ?_; rintro e w9 ⟨rfl, hb9⟩
          have HI9 := Lib.hid (HI8.out.below hb9)
          have HB9 := Lib.hid (HB8.out.trans (hb9.mono HB8.out.size))
          clear hb9 HI8 HX8 HB8
          go_wp2_with fail
          refine (HLy.out _ _ HI9.out).mono ?_; rintro e wa ⟨rfl, hba⟩
          have HBa := Lib.hid (HB9.out.trans (hba.mono HB9.out.size))
          clear hba
          go_wp2
          go_ret
          exact ⟨rfl, HBa.out⟩
  · have hl' : (1048576 : Int) < (l.length : Int) := by omega
    go_enter Try.func7, Try.ntmps7
    go_wp2
    go_ret
    exact ⟨rfl, Below.refl _ _⟩

set_option maxRecDepth 100000 in
theorem lifted (os : Os) (started : os.Started) (H : Type) (enc : TypeId × Value → H) :
    ReturnsInHanded {} Try.checked os 7 .any (Rows.fnPartsSellSpec.pre6 enc Try.prog Try.f7 Rows.fnPartsSellRow.domain false) (Rows.fnPartsSellSpec.post enc Try.prog Try.f7 false true false false) := by
  refine returnsInHanded_of_change (C := Try.checked) own started (by kernel_rfl) Try.func7
    (ChangeSpec.witness6 (enc := enc) (C := Try.checked) false ⟨#[], #[.slice none 0 0], []⟩ 8 (by kernel_rfl) (by kernel_rfl) (by kernel_rfl) (by kernel_rfl)) ?_
  intro W base args ds gs before hval0 hW hcnd _
  have hval : ∀ (j : Nat) t v, Try.f7.params[j]? = some t → args[j]? = some v → Value.okWide Try.prog W .any base t v := hval0
  have hW' := hW
  obtain ⟨p, q, hA0, hV, rfl, hfz, hnd⟩ := hW
  have hA : DataW.TrodAll enc Try.prog W 0 (fun _ => true) true Try.f7.params.toList args.toList ds p := hA0
  rw [Try.params7] at hA hval
  obtain ⟨v0, vs0, d0, ds0, p0, q0, hargs, rfl, rfl, h0, r0⟩ := trodAll_cons hA
  obtain ⟨rfl, rfl, rfl⟩ := trodAll_nil r0
  obtain rfl : args = #[v0] := by cases args; simp_all
  obtain ⟨rfl, rfl⟩ := trodVars_none hV
  obtain ⟨a0, len0, cap0, rfl⟩ := okWide_slice Try.underlying22 (hval 0 22 v0 rfl rfl)
  have k0 := h0
  have lt0 : ∀ x ∈ p0, x.block < W.heap.size := by obtain ⟨m, hm⟩ := k0; exact DataW.trod_lt m _ _ _ hm
  obtain ⟨z0, hv0, hm0⟩ := open_byteS h0 rfl
  clear hA0 hval0
  refine (walk _ z0 W hv0 hm0).mono fun e W' ⟨he, bel⟩ => ?_
  subst he
  exact ⟨_, rfl, _, _, _, [], _, [], hW', trodAll_mk1 (shut_bool Try.underlying4 _), (trodAll_cons_mk (Below.trod laidOut (by kernel_rfl) (of_decide_eq_true (by kernel_rfl)) k0 bel lt0) trodAll_mk0), rfl, bel.frame _, fun h => by cases h⟩

theorem over : Rows.fnPartsSellRow.holds Try.pinned (OpenSpec.ofChange Rows.fnPartsSellSpec) :=
  OpenClaim.holds_of_wide 7 Try.f7 rfl rfl rfl rfl rfl rfl rfl ⟨rfl, rfl, rfl, rfl, rfl⟩ rfl rfl rfl rfl rfl (by kernel_rfl) Try.func7 (by kernel_rfl)
    (of_decide_eq_true (by kernel_rfl)) (by unfold Func.isWrapper; first | (rw [if_pos (by decide +kernel)]; kernel_rfl) | (rw [if_neg (by decide +kernel)]; exact ⟨rfl, rfl⟩))
    (fun os started H enc _ => lifted os started H enc)

theorem proved : Rows.FnPartsSellSaid := over
#print axioms proved
end Go.Proofs.Ythdkjjfnockldaa.lawFnPartsSell
