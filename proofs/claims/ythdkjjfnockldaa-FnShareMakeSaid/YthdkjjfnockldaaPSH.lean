/- The law FnShareMake holds at every input. No condition. -/
import Derived.Test.YthdkjjfnockldaaDPA
import Derived.Test.YthdkjjfnockldaaSFS
import Derived.Test.YthdkjjfnockldaaLH
import Derived.Test.YthdkjjfnockldaaSI
import Derived.Test.YthdkjjfnockldaaSUF
import Derived.Test.YthdkjjfnockldaaQP
import Derived.Test.YthdkjjfnockldaaQ7
import Derived.Test.YthdkjjfnockldaaQK
import Derived.Test.YthdkjjfnockldaaQL
import Derived.Test.YthdkjjfnockldaaQR
namespace Go.Proofs.Ythdkjjfnockldaa.lawFnShareMake
open Go.ChangeShapes Go.WideShapes Go.ChangeAt Go.RowKit
set_option linter.unusedVariables false

def SrRel (w : World) (iv : Value) (wr : World) : Prop := ∃ i : Nat, i ≤ 6 ∧ iv = .int .i64 i ∧ Below w.heap.size w wr

set_option maxRecDepth 100000 in
set_option maxHeartbeats 2000000 in
theorem walk (v : Value) (l : List Int) (w : World) (hv : BytesIn w v l) (hm : l.length ≤ maxLen) :
    Calls Try.prog 10 #[v] w fun e w' => e = .returned (.bool true) ∧ Below w.heap.size w w' := by
  have Hv := Lib.hid hv
  obtain ⟨av, cv, rfl, hcv, _, _⟩ := hv
  clear hcv
  by_cases hl : l.length ≤ 1048576
  · have hl' : ¬ (1048576 : Int) < (l.length : Int) := by omega
    go_enter Try.func10, Try.ntmps10
    go_wp2_with fail
    refine (drawShareMake_any _ l _ Hv.out hl).mono ?_; rintro e w1 ⟨pv, xs, a, rfl, hp, hx8, ha0, ha1, hb⟩
    have Hx1 := Lib.hid hp
    have HB1 := Lib.hid hb
    have hx : xs.length ≤ 1048576 := by omega
    clear hb hp
    have H2 := Lib.hid (fun w' (h : PtIn w' pv xs) => make2_any pv xs a w' h hx)
    have H1 := Lib.hid (fun w' (h : PtIn w' pv xs) => make1_any pv xs a w' h hx)
    cases hok : makeOk xs a with
    | false =>
      have hno : makeX xs a = [] := by unfold makeX; rw [if_no hok]
      rw [hno, hok] at H2 H1
      clear hok hno
      go_wp2_with fail
      refine (H2.out _ Hx1.out).mono ?_; intro e w2 h2
      obtain ⟨v2, rfl, hi2, hb2⟩ := okIn h2
      have Hx2 := Lib.hid (Hx1.out.below hb2)
      have HB2 := Lib.hid (HB1.out.trans (hb2.mono HB1.out.size))
      have HI2 := Lib.hid hi2
      clear hb2 hi2 h2
      go_wp2_with fail
      refine (H1.out _ Hx2.out).mono ?_; intro e w3 h3
      obtain ⟨v3, rfl, hi3, hb3⟩ := okIn h3
      have HB3 := Lib.hid (HB2.out.trans (hb3.mono HB2.out.size))
      have HI3 := Lib.hid (HI2.out.below hb3)
      have HJ3 := Lib.hid hi3
      clear hb3 hi3 h3
      go_wp2_with fail
      refine (sameInts_any _ _ [] [] _ HI3.out HJ3.out (by simp)).mono ?_; rintro e w4 ⟨⟨x, rfl, hx4⟩, hb4⟩
      obtain rfl : x = true := hx4.2 rfl
      have HB4 := Lib.hid (HB3.out.trans (hb4.mono HB3.out.size))
      have HI4 := Lib.hid (HI3.out.below hb4)
      have HJ4 := Lib.hid (HJ3.out.below hb4)
      clear hb4 hx4
      go_wp2_with fail
      refine (sameInts_any _ _ [] [] _ HI4.out HJ4.out (by simp)).mono ?_; rintro e w5 ⟨⟨x, rfl, hx5⟩, hb5⟩
      obtain rfl : x = true := hx5.2 rfl
      have HB5 := Lib.hid (HB4.out.trans (hb5.mono HB4.out.size))
      clear hb5 hx5
      go_wp2
      go_ret
      exact ⟨rfl, HB5.out⟩
    | true =>
      have hk := hok
      unfold makeOk at hk
      simp only [Bool.and_eq_true] at hk
      obtain ⟨hz, ham⟩ := hk
      obtain ⟨a0, a1⟩ := okAm_iff.1 ham
      have hpos := cntP_pos hz
      have hmx : milesX xs = cnt6 (ownP xs) := by unfold milesX; rw [if_yes hz]
      have hmm := cnt6_le _ (ownP_len hz)
      have hl6 := cnt6_len (ownP xs)
      have hsx : makeX xs a = shareL (cnt6 (ownP xs)) a := by unfold makeX; rw [if_yes hok]
      have hdx : dueX xs a = dueL (cnt6 (ownP xs)) a := by unfold dueX; rw [if_yes hok]
      have hs6 : (shareL (cnt6 (ownP xs)) a).length = 6 := by rw [shareL_len, cnt6_len]
      have hd6 : (dueL (cnt6 (ownP xs)) a).length = 6 := by rw [dueL_len, cnt6_len]
      have hsb := shareL_bd (ms := cnt6 (ownP xs)) (amt := a) (by omega) hmm ⟨a0, a1⟩ hpos.1
      have hsum := shareL_sum (ms := cnt6 (ownP xs)) a hpos.1
      have hln : lenX xs = (cnt6 (ownP xs)).sum := by rw [lenX_yes hz, cntP_sum hz]
      have HM := Lib.hid (fun w' (h : PtIn w' pv xs) => milesP2_any pv xs w' h hx)
      have HD := Lib.hid (fun w' (h : PtIn w' pv xs) => dueS2_any pv xs a w' h hx)
      have HL := Lib.hid (fun w' (h : PtIn w' pv xs) => len2_any pv xs w' h hx)
      rw [hmx, hz] at HM
      rw [hdx, hok] at HD
      rw [hln] at HL
      rw [hsx, hok] at H2 H1
      clear hok hz ham hmx hsx hx8 ha0 ha1 hdx hln
      generalize cnt6 (ownP xs) = ms at *
      have HNear := Lib.hid (fun (i : Nat) => share_near (amt := a) hpos.1 i)
      have HZero := Lib.hid (fun (i : Nat) (h : ms.getD i 0 = 0) => share_zero (amt := a) hpos.1 h)
      have HDu := Lib.hid (fun (i : Nat) => dueG ms a i)
      have HMm := Lib.hid (fun (i : Nat) => hmm i)
      have HSb := Lib.hid (fun (i : Nat) => (show -2000000000 ≤ (shareL ms a).getD i 0 ∧ (shareL ms a).getD i 0 ≤ 2000000000 from by have := hsb i; omega))
      have HSb0 := Lib.hid (fun (i : Nat) => (hsb i).1)
      obtain ⟨n, hn⟩ : ∃ n, ms.sum = n := ⟨_, rfl⟩
      rw [hn] at HL HNear hpos
      generalize shareL ms a = ss at *
      generalize dueL ms a = ds at *
      have Hsum := Lib.hid hsum
      clear hsb hmm hsum hn
      go_wp2_with fail
      refine (H2.out _ Hx1.out).mono ?_; intro e w2 h2
      obtain ⟨v2, rfl, hi2, hb2⟩ := okIn h2
      have Hx2 := Lib.hid (Hx1.out.below hb2)
      have HB2 := Lib.hid (HB1.out.trans (hb2.mono HB1.out.size))
      have HI2 := Lib.hid hi2
      clear hb2 hi2 h2
      go_wp2_with fail
      refine (H1.out _ Hx2.out).mono ?_; intro e w3 h3
      obtain ⟨v3, rfl, hi3, hb3⟩ := okIn h3
      have Hx3 := Lib.hid (Hx2.out.below hb3)
      have HB3 := Lib.hid (HB2.out.trans (hb3.mono HB2.out.size))
      have HI3 := Lib.hid (HI2.out.below hb3)
      have HJ3 := Lib.hid hi3
      clear hb3 hi3 h3 H1 H2 Hx1 Hx2 HI2 HB1 HB2
      go_wp2_with fail
      refine (sameInts_any _ _ ss ss _ HI3.out HJ3.out (by omega)).mono ?_; rintro e w4 ⟨⟨x, rfl, hx4⟩, hb4⟩
      obtain rfl : x = true := hx4.2 rfl
      have Hx4 := Lib.hid (Hx3.out.below hb4)
      have HB4 := Lib.hid (HB3.out.trans (hb4.mono HB3.out.size))
      have HI4 := Lib.hid (HI3.out.below hb4)
      clear hb4 hx4 Hx3 HB3 HI3 HJ3
      go_wp2_with fail
      refine (HD.out _ Hx4.out).mono ?_; intro e w5 h5
      obtain ⟨v5, rfl, hi5, hb5⟩ := okIn h5
      have HB5 := Lib.hid (HB4.out.trans (hb5.mono HB4.out.size))
      have Hx5 := Lib.hid (Hx4.out.below hb5)
      have HI5 := Lib.hid (HI4.out.below hb5)
      have HD5 := Lib.hid hi5
      clear hb5 hi5 h5 HD Hx4 HB4 HI4
      go_wp2_with fail
      refine (HM.out _ Hx5.out).mono ?_; intro e w6 h6
      obtain ⟨v6, rfl, hi6, hb6⟩ := okIn h6
      have HB6 := Lib.hid (HB5.out.trans (hb6.mono HB5.out.size))
      have Hx6 := Lib.hid (Hx5.out.below hb6)
      have HI6 := Lib.hid (HI5.out.below hb6)
      have HD6 := Lib.hid (HD5.out.below hb6)
      have HM6 := Lib.hid hi6
      clear hb6 hi6 h6 HM Hx5 HB5 HI5 HD5
      go_wp2_with fail
      refine (HL.out _ Hx6.out).mono ?_; rintro e w7 ⟨rfl, hb7⟩
      have HB7 := Lib.hid (HB6.out.trans (hb7.mono HB6.out.size))
      have hI7 := HI6.out.below hb7
      have hD7 := HD6.out.below hb7
      have hM7 := HM6.out.below hb7
      have HI7 := Lib.hid hI7
      obtain ⟨b2, o2, c2, rfl, hb2, hr2⟩ := six hI7 hs6
      obtain ⟨bd, od, cd, rfl, hbd, hrd⟩ := six hD7 hd6
      obtain ⟨bm, om, cm, rfl, hbm, hrm⟩ := six hM7 hl6
      have HC := Lib.hid (fun (w' : World) (h : Below w7.heap.size w7 w') (i : Nat) (hi : i < 6) => (show w'.cell? ⟨b2, o2 + i, none⟩ = some (.int .i64 (ss.getD i 0)) ∧ w'.cell? ⟨bd, od + i, none⟩ = some (.int .i64 (ds.getD i 0)) ∧ w'.cell? ⟨bm, om + i, none⟩ = some (.int .i64 (ms.getD i 0)) from ⟨(hr2.below h hb2) i (by omega), (hrd.below h hbd) i (by omega), (hrm.below h hbm) i (by omega)⟩))
      clear hb7 HL Hx6 HB6 HI6 HD6 HM6 hI7 hD7 hM7 hb2 hr2 hbd hrd hbm hrm
      obtain ⟨nn, hnn⟩ : ∃ nn, nn = 0 - n := ⟨_, rfl⟩
      have hn1 : wrap64 (0 - n) = nn := by rw [wrap64_ok (by omega) (by omega)]; exact hnn.symm
      have hn2 : IntKind.i64.wrap (0 - n) = nn := by rw [IntWalk.i64_in _ (by omega)]; exact hnn.symm
      have hn3 : wrap64 (-n) = nn := by rw [wrap64_ok (by omega) (by omega)]; omega
      have hn4 : IntKind.i64.wrap (-n) = nn := by rw [IntWalk.i64_in _ (by omega)]; omega
      have Hnn := Lib.hid hnn
      clear hnn
      go_wp2
      go_loopw [14] (fun iv wr => SrRel w7 iv wr) (fun iv _ => 6 - (intOf iv).toNat)
      case atStart => exact ⟨0, Nat.zero_le _, rfl, Below.refl _ _⟩
      case round =>
        obtain ⟨i, hi, rfl, hb⟩ := hrel
        by_cases hlt : i < 6
        · obtain ⟨c0, c1, c2⟩ := HC.out _ hb i hlt
          obtain ⟨e0, e1⟩ := HNear.out i
          have hzero := HZero.out i
          have hdu := HDu.out i
          have hmb := HMm.out i
          have hsb := HSb.out i
          have hs0 := HSb0.out i
          have HCi := Lib.hid (fun w' (h : Below w7.heap.size w7 w') => HC.out w' h i hlt)
          have HB := Lib.hid hb
          have hi' : (i : Int) < 6 := by omega
          have hi0 : (0 : Int) ≤ (i : Int) := Int.natCast_nonneg _
          generalize ms.getD i 0 = m at *
          generalize ss.getD i 0 = s at *
          generalize ds.getD i 0 = du at *
          have hp0 : 0 ≤ a * m := Int.mul_nonneg a0 hmb.1
          have hp1 : a * m ≤ 1000000 * 1188 := Int.mul_le_mul a1 hmb.2 hmb.1 (by omega)
          rw [← hdu] at e0 e1 hp0 hp1
          obtain ⟨p, hp⟩ : ∃ p, s * n = p := ⟨_, rfl⟩
          rw [hp] at e0 e1
          obtain ⟨d, hd⟩ : ∃ d, p - du = d := ⟨_, rfl⟩
          rw [hd] at e0 e1
          have hw1 : wrap64 (s * n) = p := by rw [hp]; exact wrap64_ok (by omega) (by omega)
          have hw2 : IntKind.i64.wrap (s * n) = p := by rw [hp]; exact IntWalk.i64_in _ (by omega)
          have hw3 : wrap64 (p - du) = d := by rw [hd]; exact wrap64_ok (by omega) (by omega)
          have hw4 : IntKind.i64.wrap (p - du) = d := by rw [hd]; exact IntWalk.i64_in _ (by omega)
          have g1 : ¬ d ≤ nn := by have := Hnn.out; omega
          have g2 : ¬ n ≤ d := by omega
          have g3 : decide (d ≤ nn) = false := by simpa using g1
          have g4 : decide (n ≤ d) = false := by simpa using g2
          have Hzero := Lib.hid hzero
          clear hb hi hdu hmb hsb hs0 hp0 hp1 hp hd e0 e1 hzero
          go_wp2
          go_region
          all_goals
            clear hw1 hw2 hw3 hw4 c0 c1 c2
            have HB2 := Lib.hid HB.out.drew
            obtain ⟨c0, c1, c2⟩ := HCi.out _ HB2.out
            by_cases hm0 : m = 0
            · subst hm0
              obtain rfl : s = 0 := Hzero.out rfl
              go_wp2
              go_roundw
              case rel => exact ⟨i + 1, hlt, by go_num, HB2.out⟩
              case measure => simp [intOf]; omega
            · have hm2 : (m == 0) = false := by simpa using hm0
              go_wp2
              go_roundw
              case rel => exact ⟨i + 1, hlt, by go_num, HB2.out⟩
              case measure => simp [intOf]; omega
        · obtain rfl : i = 6 := by omega
          have HI8 := Lib.hid (HI7.out.below hb)
          have HB8 := Lib.hid (HB7.out.trans (hb.mono HB7.out.size))
          clear hb hlt hi HC HB7 HI7
          have hs100 : ss.length ≤ 100 := by omega
          go_wp2_with fail
          refine (sumOf_any _ ss _ HI8.out hs100 HSb.out).mono ?_; rintro e _ ⟨rfl, rfl⟩
          rw [Hsum.out]
          go_wp2
          go_ret
          exact ⟨ret_bool (by first | rfl | (simp; done)), HB8.out⟩
  · have hl' : (1048576 : Int) < (l.length : Int) := by omega
    go_enter Try.func10, Try.ntmps10
    go_wp2
    go_ret
    exact ⟨rfl, Below.refl _ _⟩

set_option maxRecDepth 100000 in
theorem lifted (os : Os) (started : os.Started) (H : Type) (enc : TypeId × Value → H) :
    ReturnsInHanded {} Try.checked os 10 .any (Rows.fnShareMakeSpec.pre6 enc Try.prog Try.f10 Rows.fnShareMakeRow.domain false) (Rows.fnShareMakeSpec.post enc Try.prog Try.f10 false true false false) := by
  refine returnsInHanded_of_change (C := Try.checked) own started (by kernel_rfl) Try.func10
    (ChangeSpec.witness6 (enc := enc) (C := Try.checked) false ⟨#[], #[.slice none 0 0], []⟩ 8 (by kernel_rfl) (by kernel_rfl) (by kernel_rfl) (by kernel_rfl)) ?_
  intro W base args ds gs before hval0 hW hcnd _
  have hval : ∀ (j : Nat) t v, Try.f10.params[j]? = some t → args[j]? = some v → Value.okWide Try.prog W .any base t v := hval0
  have hW' := hW
  obtain ⟨p, q, hA0, hV, rfl, hfz, hnd⟩ := hW
  have hA : DataW.TrodAll enc Try.prog W 0 (fun _ => true) true Try.f10.params.toList args.toList ds p := hA0
  rw [Try.params10] at hA hval
  obtain ⟨v0, vs0, d0, ds0, p0, q0, hargs, rfl, rfl, h0, r0⟩ := trodAll_cons hA
  obtain ⟨rfl, rfl, rfl⟩ := trodAll_nil r0
  obtain rfl : args = #[v0] := by cases args; simp_all
  obtain ⟨rfl, rfl⟩ := trodVars_none hV
  obtain ⟨a0, len0, cap0, rfl⟩ := okWide_slice Try.underlying22 (hval 0 22 v0 rfl rfl)
  have k0 := h0
  have lt0 : ∀ x ∈ p0, x.block < W.heap.size := by obtain ⟨m, hm⟩ := k0; exact DataW.trod_lt m _ _ _ hm
  obtain ⟨z0, hv0, hm0⟩ := open_byteS h0 rfl
  clear hA0 hval0
  refine (walk _ z0 W hv0 hm0).mono fun e W' ⟨he, bel⟩ => ?_
  subst he
  exact ⟨_, rfl, _, _, _, [], _, [], hW', trodAll_mk1 (shut_bool Try.underlying4 _), (trodAll_cons_mk (Below.trod laidOut (by kernel_rfl) (of_decide_eq_true (by kernel_rfl)) k0 bel lt0) trodAll_mk0), rfl, bel.frame _, fun h => by cases h⟩

theorem over : Rows.fnShareMakeRow.holds Try.pinned (OpenSpec.ofChange Rows.fnShareMakeSpec) :=
  OpenClaim.holds_of_wide 10 Try.f10 rfl rfl rfl rfl rfl rfl rfl ⟨rfl, rfl, rfl, rfl, rfl⟩ rfl rfl rfl rfl rfl (by kernel_rfl) Try.func10 (by kernel_rfl)
    (of_decide_eq_true (by kernel_rfl)) (by unfold Func.isWrapper; first | (rw [if_pos (by decide +kernel)]; kernel_rfl) | (rw [if_neg (by decide +kernel)]; exact ⟨rfl, rfl⟩))
    (fun os started H enc _ => lifted os started H enc)

theorem proved : Rows.FnShareMakeSaid := over
#print axioms proved
end Go.Proofs.Ythdkjjfnockldaa.lawFnShareMake
