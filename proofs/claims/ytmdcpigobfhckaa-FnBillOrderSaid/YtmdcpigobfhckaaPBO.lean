/- The law FnBillOrder holds at every input. No condition. -/
import Derived.Test.YtmdcpigobfhckaaOJ
import Derived.Test.YtmdcpigobfhckaaDBL
import Derived.Test.YtmdcpigobfhckaaFOO
import Derived.Test.YtmdcpigobfhckaaFOM
import Derived.Test.YtmdcpigobfhckaaFSP
import Derived.Test.YtmdcpigobfhckaaFLO
import Derived.Test.YtmdcpigobfhckaaFX
import Derived.Test.YtmdcpigobfhckaaFN
import Derived.Test.YtmdcpigobfhckaaSI
namespace Go.Proofs.Ytmdcpigobfhckaa.lawFnBillOrder
open Go.ChangeShapes Go.WideShapes Go.ChangeAt Go.RowKit
set_option linter.unusedVariables false

set_option maxRecDepth 100000 in
set_option maxHeartbeats 2000000 in
theorem walk (v : Value) (l : List Int) (w : World) (hv : BytesIn w v l) (hm : l.length ≤ maxLen) :
    Calls Try.prog 20 #[v] w fun e w' => e = .returned (.bool true) ∧ Below w.heap.size w w' := by
  have Hv := Lib.hid hv
  obtain ⟨av, cv, rfl, hcv, _, _⟩ := hv
  clear hcv
  by_cases hl : l.length ≤ 1048576
  · have hl' : ¬ (1048576 : Int) < (l.length : Int) := by omega
    go_enter Try.func20, Try.ntmps20
    go_wp2_with fail
    refine (drawOr_any _ l _ Hv.out hl).mono ?_; rintro e w1 ⟨n, ad, cap, xs, rfl, hn1, hn6, hcap, h12, hown, hb⟩
    have Hx1 := Lib.hid (hown.ins hcap)
    have HB1 := Lib.hid hb
    have hx : xs.length ≤ 1048576 := by omega
    have wn : W64 n := by unfold W64; omega
    clear hown hb
    have H2 := Lib.hid (fun w' (h : FrIn w' (.slice ad xs.length cap) xs) => order2O_any n ad cap xs w' h hx)
    have H1 := Lib.hid (fun w' (h : FrIn w' (.slice ad xs.length cap) xs) => order1_out n _ xs w' wn h hx)
    cases hok : validF n xs with
    | false =>
      rw [orderX_no hok, hok] at H2 H1
      clear hok
      go_wp2_with fail
      refine (H2.out _ Hx1.out).mono ?_; rintro e w2 ⟨ad2, cap2, rfl, hc2, ho2, _, hb2⟩
      have Hx2 := Lib.hid (Hx1.out.below hb2)
      have HB2 := Lib.hid (HB1.out.trans (hb2.mono HB1.out.size))
      have HI2 := Lib.hid (ho2.ins hc2)
      clear hb2 hc2 ho2
      go_wp2_with fail
      refine (H1.out _ Hx2.out).mono ?_; rintro e w3 ⟨ad3, cap3, rfl, hc3, ho3, _, hb3⟩
      have HB3 := Lib.hid (HB2.out.trans (hb3.mono HB2.out.size))
      have HI3 := Lib.hid (HI2.out.below hb3)
      have HJ3 := Lib.hid (ho3.ins hc3)
      clear hb3 hc3 ho3
      go_wp2_with fail
      refine (sameParcels_eq _ _ [] _ HI3.out HJ3.out (by simp)).mono ?_; rintro e w4 ⟨rfl, hb4⟩
      have HB4 := Lib.hid (HB3.out.trans (hb4.mono HB3.out.size))
      have HI4 := Lib.hid (HI3.out.below hb4)
      have HJ4 := Lib.hid (HJ3.out.below hb4)
      clear hb4
      go_wp2_with fail
      refine (sameParcels_eq _ _ [] _ HI4.out HJ4.out (by simp)).mono ?_; rintro e w5 ⟨rfl, hb5⟩
      have HB5 := Lib.hid (HB4.out.trans (hb5.mono HB4.out.size))
      clear hb5
      go_wp2
      go_ret
      exact ⟨rfl, HB5.out⟩
    | true =>
      have hp := orderX_perm hok
      have hvy := valid_perm hp hok
      have hlen := Lib.hid hp.length_eq
      have Hag := Lib.hid (orderX_again hok)
      have Hld := Lib.hid (loadsX_perm hp hok)
      have Hpd := Lib.hid (poundX_perm hp hok)
      have Hyo := Lib.hid hvy
      have Hxo := Lib.hid hok
      have Hsh := Lib.hid (loadsX_short n xs)
      rw [hok] at H2 H1
      clear hok hvy hp
      generalize hyy : orderX n xs = ys at *
      clear hyy
      have hy : ys.length ≤ 1048576 := by have := hlen.out; omega
      go_wp2_with fail
      refine (H2.out _ Hx1.out).mono ?_; rintro e w2 ⟨ad2, cap2, rfl, hc2, ho2, _, hb2⟩
      have Hx2 := Lib.hid (Hx1.out.below hb2)
      have HB2 := Lib.hid (HB1.out.trans (hb2.mono HB1.out.size))
      have HI2 := Lib.hid (ho2.ins hc2)
      clear hb2 hc2 ho2
      go_wp2_with fail
      refine (H1.out _ Hx2.out).mono ?_; rintro e w3 ⟨ad3, cap3, rfl, hc3, ho3, _, hb3⟩
      have Hx3 := Lib.hid (Hx2.out.below hb3)
      have HB3 := Lib.hid (HB2.out.trans (hb3.mono HB2.out.size))
      have HI3 := Lib.hid (HI2.out.below hb3)
      have HJ3 := Lib.hid (ho3.ins hc3)
      clear hb3 hc3 ho3 H1 H2
      go_wp2_with fail
      refine (sameParcels_eq _ _ ys _ HI3.out HJ3.out hy).mono ?_; rintro e w4 ⟨rfl, hb4⟩
      have HB4 := Lib.hid (HB3.out.trans (hb4.mono HB3.out.size))
      have HI4 := Lib.hid (HI3.out.below hb4)
      have Hx4 := Lib.hid (Hx3.out.below hb4)
      clear hb4 HJ3
      have H3 := Lib.hid (order2O_any n ad2 cap2 ys _ HI4.out hy)
      rw [Hag.out, Hyo.out] at H3
      go_wp2_with fail
      refine H3.out.mono ?_; rintro e w5 ⟨ad5, cap5, rfl, hc5, ho5, _, hb5⟩
      have HB5 := Lib.hid (HB4.out.trans (hb5.mono HB4.out.size))
      have HI5 := Lib.hid (HI4.out.below hb5)
      have Hx5 := Lib.hid (Hx4.out.below hb5)
      have HK5 := Lib.hid (ho5.ins hc5)
      clear hb5 hc5 ho5 H3
      have H4 := Lib.hid (loads2_any n _ xs _ Hx5.out (by omega))
      rw [Hxo.out] at H4
      go_wp2_with fail
      refine H4.out.mono ?_; rintro e w6 ⟨ad6, cap6, rfl, hc6, ho6, _, hb6⟩
      have HB6 := Lib.hid (HB5.out.trans (hb6.mono HB5.out.size))
      have HI6 := Lib.hid (HI5.out.below hb6)
      have Hx6 := Lib.hid (Hx5.out.below hb6)
      have HK6 := Lib.hid (HK5.out.below hb6)
      have HA6 := Lib.hid (ho6.ints hc6)
      clear hb6 hc6 ho6 H4
      have H5 := Lib.hid (loads2_any n _ ys _ HI6.out (Nat.le_succ_of_le hy))
      rw [Hyo.out, Hld.out] at H5
      go_wp2_with fail
      refine H5.out.mono ?_; rintro e w7 ⟨ad7, cap7, rfl, hc7, ho7, _, hb7⟩
      have HB7 := Lib.hid (HB6.out.trans (hb7.mono HB6.out.size))
      have HI7 := Lib.hid (HI6.out.below hb7)
      have Hx7 := Lib.hid (Hx6.out.below hb7)
      have HK7 := Lib.hid (HK6.out.below hb7)
      have HA7 := Lib.hid (HA6.out.below hb7)
      have HC7 := Lib.hid (ho7.ints hc7)
      clear hb7 hc7 ho7 H5
      go_wp2_with fail
      refine (sameParcels_eq _ _ ys _ HK7.out HI7.out hy).mono ?_; rintro e w8 ⟨rfl, hb8⟩
      have HB8 := Lib.hid (HB7.out.trans (hb8.mono HB7.out.size))
      have HI8 := Lib.hid (HI7.out.below hb8)
      have Hx8 := Lib.hid (Hx7.out.below hb8)
      have HA8 := Lib.hid (HA7.out.below hb8)
      have HC8 := Lib.hid (HC7.out.below hb8)
      clear hb8
      go_wp2_with fail
      refine (sameInts_any _ _ (loadsX n xs) (loadsX n xs) _ HA8.out HC8.out (by have := Hsh.out; omega)).mono ?_; rintro e w9 ⟨⟨x, rfl, hx9⟩, hb9⟩
      obtain rfl : x = true := hx9.2 rfl
      have HB9 := Lib.hid (HB8.out.trans (hb9.mono HB8.out.size))
      have HI9 := Lib.hid (HI8.out.below hb9)
      have Hx9 := Lib.hid (Hx8.out.below hb9)
      clear hb9 hx9
      have H6 := Lib.hid (pound2_any n _ ys _ HI9.out (Nat.le_succ_of_le hy))
      rw [Hpd.out] at H6
      go_wp2_with fail
      refine H6.out.mono ?_; rintro e w10 ⟨rfl, hb10⟩
      have HB10 := Lib.hid (HB9.out.trans (hb10.mono HB9.out.size))
      have Hx10 := Lib.hid (Hx9.out.below hb10)
      clear hb10 H6
      go_wp2_with fail
      refine (pound2_any n _ xs _ Hx10.out (by omega)).mono ?_; rintro e w11 ⟨rfl, hb11⟩
      have HB11 := Lib.hid (HB10.out.trans (hb11.mono HB10.out.size))
      clear hb11
      have hq : (poundX n xs == poundX n xs) = true := by simp
      have hq2 : ((ys.length : Int) == (xs.length : Int)) = true := by rw [hlen.out]; simp
      go_wp2
      go_ret
      exact ⟨rfl, HB11.out⟩
  · have hl' : (1048576 : Int) < (l.length : Int) := by omega
    go_enter Try.func20, Try.ntmps20
    go_wp2
    go_ret
    exact ⟨rfl, Below.refl _ _⟩

set_option maxRecDepth 100000 in
theorem lifted (os : Os) (started : os.Started) (H : Type) (enc : TypeId × Value → H) :
    ReturnsInHanded {} Try.checked os 20 .any (Rows.fnBillOrderSpec.pre6 enc Try.prog Try.f20 Rows.fnBillOrderRow.domain false) (Rows.fnBillOrderSpec.post enc Try.prog Try.f20 false true false false) := by
  refine returnsInHanded_of_change (C := Try.checked) own started (by kernel_rfl) Try.func20
    (ChangeSpec.witness6 (enc := enc) (C := Try.checked) false ⟨#[], #[.slice none 0 0], []⟩ 8 (by kernel_rfl) (by kernel_rfl) (by kernel_rfl) (by kernel_rfl)) ?_
  intro W base args ds gs before hval0 hW hcnd _
  have hval : ∀ (j : Nat) t v, Try.f20.params[j]? = some t → args[j]? = some v → Value.okWide Try.prog W .any base t v := hval0
  have hW' := hW
  obtain ⟨p, q, hA0, hV, rfl, hfz, hnd⟩ := hW
  have hA : DataW.TrodAll enc Try.prog W 0 (fun _ => true) true Try.f20.params.toList args.toList ds p := hA0
  rw [Try.params20] at hA hval
  obtain ⟨v0, vs0, d0, ds0, p0, q0, hargs, rfl, rfl, h0, r0⟩ := trodAll_cons hA
  obtain ⟨rfl, rfl, rfl⟩ := trodAll_nil r0
  obtain rfl : args = #[v0] := by cases args; simp_all
  obtain ⟨rfl, rfl⟩ := trodVars_none hV
  obtain ⟨a0, len0, cap0, rfl⟩ := okWide_slice Try.underlying64 (hval 0 64 v0 rfl rfl)
  have k0 := h0
  have lt0 : ∀ x ∈ p0, x.block < W.heap.size := by obtain ⟨m, hm⟩ := k0; exact DataW.trod_lt m _ _ _ hm
  obtain ⟨z0, hv0, hm0⟩ := open_byteS h0 rfl
  clear hA0 hval0
  refine (walk _ z0 W hv0 hm0).mono fun e W' ⟨he, bel⟩ => ?_
  subst he
  exact ⟨_, rfl, _, _, _, [], _, [], hW', trodAll_mk1 (shut_bool Try.underlying4 _), (trodAll_cons_mk (Below.trod laidOut (by kernel_rfl) (of_decide_eq_true (by kernel_rfl)) k0 bel lt0) trodAll_mk0), rfl, bel.frame _, fun h => by cases h⟩

theorem closed : joinedFacts Try.prog 20 Try.f20 Rows.fnBillOrderSpec Rows.fnBillOrderRow = true := by
  delta joinedFacts
  refine and_t (and_t (and_t (and_t (and_t (and_t (and_t ?_ mayE) (liftE rfl)) (makeE rfl)) ?_) ?_) ?_) ?_
  all_goals kernel_rfl
theorem over : Rows.fnBillOrderRow.holds Try.pinned (OpenSpec.ofChange Rows.fnBillOrderSpec) :=
  OpenClaim.holds_of_wide 20 Try.f20 rfl rfl rfl rfl rfl rfl rfl ⟨rfl, rfl, rfl, rfl, rfl⟩ rfl rfl rfl rfl rfl (by kernel_rfl) Try.func20 closed
    (of_decide_eq_true (by kernel_rfl)) (by unfold Func.isWrapper; first | (rw [if_pos (by decide +kernel)]; kernel_rfl) | (rw [if_neg (by decide +kernel)]; exact ⟨rfl, rfl⟩))
    (fun os started H enc _ => lifted os started H enc)

theorem proved : Rows.FnBillOrderSaid := over
#print axioms proved
end Go.Proofs.Ytmdcpigobfhckaa.lawFnBillOrder
