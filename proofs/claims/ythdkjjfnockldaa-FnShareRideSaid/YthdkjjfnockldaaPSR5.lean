/- The law FnShareRide holds at every input. No condition. -/
import Derived.Test.YthdkjjfnockldaaDMI
import Derived.Test.YthdkjjfnockldaaRDF
import Derived.Test.YthdkjjfnockldaaLH
import Derived.Test.YthdkjjfnockldaaSI
import Derived.Test.YthdkjjfnockldaaSUF
import Derived.Test.YthdkjjfnockldaaQP
import Derived.Test.YthdkjjfnockldaaQ7
import Derived.Test.YthdkjjfnockldaaQR
import Derived.Test.YthdkjjfnockldaaQL
import Derived.Test.YthdkjjfnockldaaQO
namespace Go.Proofs.Ythdkjjfnockldaa.lawFnShareRide
open Go.ChangeShapes Go.WideShapes Go.ChangeAt Go.RowKit
set_option linter.unusedVariables false

def SrRel (w : World) (iv : Value) (wr : World) : Prop := ∃ i : Nat, i ≤ 6 ∧ iv = .int .i64 i ∧ Below w.heap.size w wr

set_option maxRecDepth 100000 in
set_option maxHeartbeats 2000000 in
theorem walk (v : Value) (l : List Int) (w : World) (hv : BytesIn w v l) (hm : l.length ≤ maxLen) :
    Calls Try.prog 13 #[v] w fun e w' => e = .returned (.bool true) ∧ Below w.heap.size w w' := by
  have Hv := Lib.hid hv
  obtain ⟨av, cv, rfl, hcv, _, _⟩ := hv
  clear hcv
  by_cases hl : l.length ≤ 1048576
  · have hl' : ¬ (1048576 : Int) < (l.length : Int) := by omega
    go_enter Try.func13, Try.ntmps13
    go_wp2_with fail
    refine (drawShareRide_any _ l _ Hv.out hl).mono ?_; rintro e w1 ⟨pv, xs, f, t, a, rfl, hp, hx8, hf0, hf9, ht0, ht1, ha0, ha1, hb⟩
    have Hx1 := Lib.hid hp
    have HB1 := Lib.hid hb
    have hx : xs.length ≤ 1048576 := by omega
    clear hb hp
    have H2 := Lib.hid (fun w' (h : PtIn w' pv xs) => ride2_any pv xs f t a w' h hx)
    have H1 := Lib.hid (fun w' (h : PtIn w' pv xs) => ride1_any pv xs f t a w' h hx (by unfold W64; omega))
    cases hok : rideOk xs f t a with
    | false =>
      have hno : riddX xs f t a = [] := by unfold riddX; rw [if_no hok]
      rw [hno, hok] at H2 H1
      clear hok hno
      go_wp2_with fail
      refine (H2.out _ Hx1.out).mono ?_; intro e w2 h2
      obtain ⟨v2, rfl, hi2, hb2⟩ := okIn h2
      have Hx2 := Lib.hid (Hx1.out.below hb2)
      have HB2 := Lib.hid (HB1.out.trans (hb2.mono HB1.out.size))
      have HI2 := Lib.hid hi2
      clear hb2 hi2 h2
      go_wp2_with fail
      refine (H1.out _ Hx2.out).mono ?_; intro e w3 h3
      obtain ⟨v3, rfl, hi3, hb3⟩ := okIn h3
      have HB3 := Lib.hid (HB2.out.trans (hb3.mono HB2.out.size))
      have HI3 := Lib.hid (HI2.out.below hb3)
      have HJ3 := Lib.hid hi3
      clear hb3 hi3 h3
      go_wp2_with fail
      refine (sameInts_any _ _ [] [] _ HI3.out HJ3.out (by simp)).mono ?_; rintro e w4 ⟨⟨x, rfl, hx4⟩, hb4⟩
      obtain rfl : x = true := hx4.2 rfl
      have HB4 := Lib.hid (HB3.out.trans (hb4.mono HB3.out.size))
      have HI4 := Lib.hid (HI3.out.below hb4)
      have HJ4 := Lib.hid (HJ3.out.below hb4)
      clear hb4 hx4
      go_wp2_with fail
      refine (sameInts_any _ _ [] [] _ HI4.out HJ4.out (by simp)).mono ?_; rintro e w5 ⟨⟨x, rfl, hx5⟩, hb5⟩
      obtain rfl : x = true := hx5.2 rfl
      have HB5 := Lib.hid (HB4.out.trans (hb5.mono HB4.out.size))
      clear hb5 hx5
      go_wp2
      go_ret
      exact ⟨rfl, HB5.out⟩
    | true =>
      have F := ride_facts hok
      have HL := Lib.hid (fun w' (h : PtIn w' pv xs) => len2_any pv xs w' h hx)
      have HA := Lib.hid (fun w' (h : PtIn w' pv xs) => ride2_any pv xs 0 (lenX xs) a w' h hx)
      have HM := Lib.hid (fun w' (h : PtIn w' pv xs) => make2_any pv xs a w' h hx)
      have HR := Lib.hid (fun w' (h : PtIn w' pv xs) => ride2_any pv xs f (f + 1) a w' h hx)
      have HO := Lib.hid (fun w' (h : PtIn w' pv xs) => owner2_any pv xs f w' h hx)
      rw [F.all, F.ok0] at HA
      rw [F.mok] at HM
      rw [F.ok1] at HR
      rw [F.own] at HO
      rw [hok] at H2 H1
      obtain ⟨n0, n1⟩ := F.n
      obtain ⟨a0, a1⟩ := F.a0
      have hfb := F.f0
      have HOne := Lib.hid F.one
      have hl1 := F.l1
      have hlx := F.lx
      have Hsum := Lib.hid F.sum
      have Hbd := Lib.hid F.bd
      have hAs := makeX_short xs a
      clear hok F hx8
      generalize riddX xs f t a = ss at *
      generalize riddX xs f (f + 1) a = os at *
      generalize makeX xs a = ms at *
      generalize mileX xs f = ow at *
      generalize lenX xs = n at *
      obtain ⟨f1, hf1⟩ : ∃ f1, f + 1 = f1 := ⟨_, rfl⟩
      rw [hf1] at HR
      have hw1 : wrap64 (f + 1) = f1 := by rw [hf1]; exact wrap64_ok (by omega) (by omega)
      have hqa : (a == a) = true := by simp
      have hqna : (a != a) = false := by simp
      clear hf1 hfb hf0 hf9 ht0 ht1
      go_wp2_with fail
      refine (H2.out _ Hx1.out).mono ?_; intro e w2 h2
      obtain ⟨v2, rfl, hi2, hb2⟩ := okIn h2
      have Hx2 := Lib.hid (Hx1.out.below hb2)
      have HB2 := Lib.hid (HB1.out.trans (hb2.mono HB1.out.size))
      have HI2 := Lib.hid hi2
      clear hb2 hi2 h2
      go_wp2_with fail
      refine (H1.out _ Hx2.out).mono ?_; intro e w3 h3
      obtain ⟨v3, rfl, hi3, hb3⟩ := okIn h3
      have Hx3 := Lib.hid (Hx2.out.below hb3)
      have HB3 := Lib.hid (HB2.out.trans (hb3.mono HB2.out.size))
      have HI3 := Lib.hid (HI2.out.below hb3)
      have HJ3 := Lib.hid hi3
      clear hb3 hi3 h3 H1 H2 Hx1 Hx2 HI2 HB1 HB2
      go_wp2_with fail
      refine (sameInts_any _ _ ss ss _ HI3.out HJ3.out (by omega)).mono ?_; rintro e w4 ⟨⟨x, rfl, hx4⟩, hb4⟩
      obtain rfl : x = true := hx4.2 rfl
      have Hx4 := Lib.hid (Hx3.out.below hb4)
      have HB4 := Lib.hid (HB3.out.trans (hb4.mono HB3.out.size))
      have HI4 := Lib.hid (HI3.out.below hb4)
      clear hb4 hx4 Hx3 HB3 HI3 HJ3
      go_wp2_with fail
      refine (HL.out _ Hx4.out).mono ?_; rintro e w5 ⟨rfl, hb5⟩
      have HB5 := Lib.hid (HB4.out.trans (hb5.mono HB4.out.size))
      have Hx5 := Lib.hid (Hx4.out.below hb5)
      have HI5 := Lib.hid (HI4.out.below hb5)
      clear hb5 HL Hx4 HI4 HB4
      go_wp2_with fail
      refine (HA.out _ Hx5.out).mono ?_; intro e w6 h6
      obtain ⟨v6, rfl, hi6, hb6⟩ := okIn h6
      have HB6 := Lib.hid (HB5.out.trans (hb6.mono HB5.out.size))
      have Hx6 := Lib.hid (Hx5.out.below hb6)
      have HI6 := Lib.hid (HI5.out.below hb6)
      have HA6 := Lib.hid hi6
      clear hb6 hi6 h6 HA Hx5 HI5 HB5
      go_wp2_with fail
      refine (HM.out _ Hx6.out).mono ?_; intro e w7 h7
      obtain ⟨v7, rfl, hi7, hb7⟩ := okIn h7
      have HB7 := Lib.hid (HB6.out.trans (hb7.mono HB6.out.size))
      have Hx7 := Lib.hid (Hx6.out.below hb7)
      have HI7 := Lib.hid (HI6.out.below hb7)
      have HA7 := Lib.hid (HA6.out.below hb7)
      have HM7 := Lib.hid hi7
      clear hb7 hi7 h7 HM Hx6 HI6 HA6 HB6
      go_wp2_with fail
      refine (HR.out _ Hx7.out).mono ?_; intro e w8 h8
      obtain ⟨v8, rfl, hi8, hb8⟩ := okIn h8
      have HB8 := Lib.hid (HB7.out.trans (hb8.mono HB7.out.size))
      have Hx8 := Lib.hid (Hx7.out.below hb8)
      have HI8 := Lib.hid (HI7.out.below hb8)
      have HA8 := Lib.hid (HA7.out.below hb8)
      have HM8 := Lib.hid (HM7.out.below hb8)
      have HR8 := Lib.hid hi8
      clear hb8 hi8 h8 HR Hx7 HI7 HA7 HM7 HB7
      go_wp2_with fail
      refine (HO.out _ Hx8.out).mono ?_; rintro e w9 ⟨rfl, hb9⟩
      have HB9 := Lib.hid (HB8.out.trans (hb9.mono HB8.out.size))
      have HI9 := Lib.hid (HI8.out.below hb9)
      have HA9 := Lib.hid (HA8.out.below hb9)
      have HM9 := Lib.hid (HM8.out.below hb9)
      have hR9 := HR8.out.below hb9
      obtain ⟨b1, o1, c1, rfl, hb1, hr1⟩ := six hR9 hl1
      have HC := Lib.hid (fun (w' : World) (h : Below w9.heap.size w9 w') (i : Nat) (hi : i < 6) => (show w'.cell? ⟨b1, o1 + i, none⟩ = some (.int .i64 (os.getD i 0)) from (hr1.below h hb1) i (by omega)))
      clear hb9 HO Hx8 HI8 HA8 HM8 HR8 HB8 hR9 hb1 hr1
      go_wp2
      go_loopw [20] (fun iv wr => SrRel w9 iv wr) (fun iv _ => 6 - (intOf iv).toNat)
      case atStart => exact ⟨0, Nat.zero_le _, rfl, Below.refl _ _⟩
      case round =>
        obtain ⟨i, hi, rfl, hb⟩ := hrel
        by_cases hlt : i < 6
        · have c0 := HC.out _ hb i hlt
          have h1 := HOne.out i hlt
          have HB := Lib.hid hb
          have hi' : (i : Int) < 6 := by omega
          have hi0 : (0 : Int) ≤ (i : Int) := Int.natCast_nonneg _
          by_cases q : (i : Int) = ow
          · rw [if_pos q] at h1
            rw [h1] at c0
            have q1 : ((i : Int) == ow) = true := by simpa using q
            have q2 : ((i : Int) != ow) = false := by simpa using q
            clear hb hi h1 q
            go_wp2
            exact ⟨⟨i + 1, hlt, by go_num, HB.out⟩, by simp [intOf]; omega⟩
          · rw [if_neg q] at h1
            rw [h1] at c0
            have q1 : ((i : Int) == ow) = false := by simpa using q
            have q2 : ((i : Int) != ow) = true := by simpa using q
            clear hb hi h1 q
            go_wp2
            exact ⟨⟨i + 1, hlt, by go_num, HB.out⟩, by simp [intOf]; omega⟩
        · obtain rfl : i = 6 := by omega
          have HIa := Lib.hid (HI9.out.below hb)
          have HAa := Lib.hid (HA9.out.below hb)
          have HMa := Lib.hid (HM9.out.below hb)
          have HBa := Lib.hid (HB9.out.trans (hb.mono HB9.out.size))
          have hs100 : ss.length ≤ 100 := by omega
          clear hb hlt hi HC HI9 HA9 HM9 HB9
          go_wp2_with fail
          refine (sameInts_any _ _ ms ms _ HAa.out HMa.out hAs).mono ?_; rintro e wb ⟨⟨x, rfl, hxb⟩, hbb⟩
          obtain rfl : x = true := hxb.2 rfl
          have HBb := Lib.hid (HBa.out.trans (hbb.mono HBa.out.size))
          have HIb := Lib.hid (HIa.out.below hbb)
          clear hbb hxb HAa HMa HIa HBa
          go_wp2_with fail
          refine (sumOf_any _ ss _ HIb.out hs100 Hbd.out).mono ?_; rintro e _ ⟨rfl, rfl⟩
          rw [Hsum.out]
          go_wp2
          go_ret
          exact ⟨rfl, HBb.out⟩
  · have hl' : (1048576 : Int) < (l.length : Int) := by omega
    go_enter Try.func13, Try.ntmps13
    go_wp2
    go_ret
    exact ⟨rfl, Below.refl _ _⟩

set_option maxRecDepth 100000 in
theorem lifted (os : Os) (started : os.Started) (H : Type) (enc : TypeId × Value → H) :
    ReturnsInHanded {} Try.checked os 13 .any (Rows.fnShareRideSpec.pre6 enc Try.prog Try.f13 Rows.fnShareRideRow.domain false) (Rows.fnShareRideSpec.post enc Try.prog Try.f13 false true false false) := by
  refine returnsInHanded_of_change (C := Try.checked) own started (by kernel_rfl) Try.func13
    (ChangeSpec.witness6 (enc := enc) (C := Try.checked) false ⟨#[], #[.slice none 0 0], []⟩ 8 (by kernel_rfl) (by kernel_rfl) (by kernel_rfl) (by kernel_rfl)) ?_
  intro W base args ds gs before hval0 hW hcnd _
  have hval : ∀ (j : Nat) t v, Try.f13.params[j]? = some t → args[j]? = some v → Value.okWide Try.prog W .any base t v := hval0
  have hW' := hW
  obtain ⟨p, q, hA0, hV, rfl, hfz, hnd⟩ := hW
  have hA : DataW.TrodAll enc Try.prog W 0 (fun _ => true) true Try.f13.params.toList args.toList ds p := hA0
  rw [Try.params13] at hA hval
  obtain ⟨v0, vs0, d0, ds0, p0, q0, hargs, rfl, rfl, h0, r0⟩ := trodAll_cons hA
  obtain ⟨rfl, rfl, rfl⟩ := trodAll_nil r0
  obtain rfl : args = #[v0] := by cases args; simp_all
  obtain ⟨rfl, rfl⟩ := trodVars_none hV
  obtain ⟨a0, len0, cap0, rfl⟩ := okWide_slice Try.underlying22 (hval 0 22 v0 rfl rfl)
  have k0 := h0
  have lt0 : ∀ x ∈ p0, x.block < W.heap.size := by obtain ⟨m, hm⟩ := k0; exact DataW.trod_lt m _ _ _ hm
  obtain ⟨z0, hv0, hm0⟩ := open_byteS h0 rfl
  clear hA0 hval0
  refine (walk _ z0 W hv0 hm0).mono fun e W' ⟨he, bel⟩ => ?_
  subst he
  exact ⟨_, rfl, _, _, _, [], _, [], hW', trodAll_mk1 (shut_bool Try.underlying4 _), (trodAll_cons_mk (Below.trod laidOut (by kernel_rfl) (of_decide_eq_true (by kernel_rfl)) k0 bel lt0) trodAll_mk0), rfl, bel.frame _, fun h => by cases h⟩

theorem over : Rows.fnShareRideRow.holds Try.pinned (OpenSpec.ofChange Rows.fnShareRideSpec) :=
  OpenClaim.holds_of_wide 13 Try.f13 rfl rfl rfl rfl rfl rfl rfl ⟨rfl, rfl, rfl, rfl, rfl⟩ rfl rfl rfl rfl rfl (by kernel_rfl) Try.func13 (by kernel_rfl)
    (of_decide_eq_true (by kernel_rfl)) (by unfold Func.isWrapper; first | (rw [if_pos (by decide +kernel)]; kernel_rfl) | (rw [if_neg (by decide +kernel)]; exact ⟨rfl, rfl⟩))
    (fun os started H enc _ => lifted os started H enc)

theorem proved : Rows.FnShareRideSaid := over
#print axioms proved
end Go.Proofs.Ythdkjjfnockldaa.lawFnShareRide
