/- The law FnShareOrder holds at every input. No condition. -/
import Derived.Test.YthdkjjfnockldaaDPA
import Derived.Test.YthdkjjfnockldaaSFS
import Derived.Test.YthdkjjfnockldaaLH
import Derived.Test.YthdkjjfnockldaaSI
import Derived.Test.YthdkjjfnockldaaQP
import Derived.Test.YthdkjjfnockldaaQ7
import Derived.Test.YthdkjjfnockldaaQK
namespace Go.Proofs.Ythdkjjfnockldaa.lawFnShareOrder
open Go.ChangeShapes Go.WideShapes Go.ChangeAt Go.RowKit
set_option linter.unusedVariables false

def SrRel (w : World) (iv : Value) (wr : World) : Prop := ∃ i : Nat, i ≤ 6 ∧ iv = .int .i64 i ∧ Below w.heap.size w wr

set_option maxRecDepth 100000 in
set_option maxHeartbeats 2000000 in
theorem walk (v : Value) (l : List Int) (w : World) (hv : BytesIn w v l) (hm : l.length ≤ maxLen) :
    Calls Try.prog 11 #[v] w fun e w' => e = .returned (.bool true) ∧ Below w.heap.size w w' := by
  have Hv := Lib.hid hv
  obtain ⟨av, cv, rfl, hcv, _, _⟩ := hv
  clear hcv
  by_cases hl : l.length ≤ 1048576
  · have hl' : ¬ (1048576 : Int) < (l.length : Int) := by omega
    go_enter Try.func11, Try.ntmps11
    go_wp2_with fail
    refine (drawShareMake_any _ l _ Hv.out hl).mono ?_; rintro e w1 ⟨pv, xs, a, rfl, hp, hx8, ha0, ha1, hb⟩
    have Hx1 := Lib.hid hp
    have HB1 := Lib.hid hb
    have hx : xs.length ≤ 1048576 := by omega
    clear hb hp
    have H2 := Lib.hid (fun w' (h : PtIn w' pv xs) => make2_any pv xs a w' h hx)
    have H1 := Lib.hid (fun w' (h : PtIn w' pv xs) => make1_any pv xs a w' h hx)
    cases hok : makeOk xs a with
    | false =>
      have hno : makeX xs a = [] := by unfold makeX; rw [if_no hok]
      rw [hno, hok] at H2 H1
      clear hok hno
      go_wp2_with fail
      refine (H2.out _ Hx1.out).mono ?_; intro e w2 h2
      obtain ⟨v2, rfl, hi2, hb2⟩ := okIn h2
      have Hx2 := Lib.hid (Hx1.out.below hb2)
      have HB2 := Lib.hid (HB1.out.trans (hb2.mono HB1.out.size))
      have HI2 := Lib.hid hi2
      clear hb2 hi2 h2
      go_wp2_with fail
      refine (H1.out _ Hx2.out).mono ?_; intro e w3 h3
      obtain ⟨v3, rfl, hi3, hb3⟩ := okIn h3
      have HB3 := Lib.hid (HB2.out.trans (hb3.mono HB2.out.size))
      have HI3 := Lib.hid (HI2.out.below hb3)
      have HJ3 := Lib.hid hi3
      clear hb3 hi3 h3
      go_wp2_with fail
      refine (sameInts_any _ _ [] [] _ HI3.out HJ3.out (by simp)).mono ?_; rintro e w4 ⟨⟨x, rfl, hx4⟩, hb4⟩
      obtain rfl : x = true := hx4.2 rfl
      have HB4 := Lib.hid (HB3.out.trans (hb4.mono HB3.out.size))
      have HI4 := Lib.hid (HI3.out.below hb4)
      have HJ4 := Lib.hid (HJ3.out.below hb4)
      clear hb4 hx4
      go_wp2_with fail
      refine (sameInts_any _ _ [] [] _ HI4.out HJ4.out (by simp)).mono ?_; rintro e w5 ⟨⟨x, rfl, hx5⟩, hb5⟩
      obtain rfl : x = true := hx5.2 rfl
      have HB5 := Lib.hid (HB4.out.trans (hb5.mono HB4.out.size))
      clear hb5 hx5
      go_wp2
      go_ret
      exact ⟨rfl, HB5.out⟩
    | true =>
      have hk := hok
      unfold makeOk at hk
      simp only [Bool.and_eq_true] at hk
      obtain ⟨hz, ham⟩ := hk
      obtain ⟨a0, a1⟩ := okAm_iff.1 ham
      have hpos := cntP_pos hz
      have hmx : milesX xs = cnt6 (ownP xs) := by unfold milesX; rw [if_yes hz]
      have hmm := cnt6_le _ (ownP_len hz)
      have hl6 := cnt6_len (ownP xs)
      have hsx : makeX xs a = shareL (cnt6 (ownP xs)) a := by unfold makeX; rw [if_yes hok]
      have hs6 : (shareL (cnt6 (ownP xs)) a).length = 6 := by rw [shareL_len, cnt6_len]
      have hsb := shareL_bd (ms := cnt6 (ownP xs)) (amt := a) (by omega) hmm ⟨a0, a1⟩ hpos.1
      have HM := Lib.hid (fun w' (h : PtIn w' pv xs) => milesP2_any pv xs w' h hx)
      rw [hmx, hz] at HM
      rw [hsx, hok] at H2 H1
      clear hok hz ham hmx hsx hx8 ha0 ha1
      generalize cnt6 (ownP xs) = ms at *
      have HMore := Lib.hid (fun (i k : Nat) (hi : i < 6) (h : ms.getD k 0 < ms.getD i 0) => share_more hpos.1 a0 (by omega : i < ms.length) h)
      have HSame := Lib.hid (fun (i k : Nat) (hi : i < 6) (hik : i < k) (h : ms.getD i 0 = ms.getD k 0) => share_same (amt := a) (by omega : i < ms.length) hik h)
      generalize shareL ms a = ss at *
      have HSb := Lib.hid hsb
      clear hsb hmm hpos
      go_wp2_with fail
      refine (H2.out _ Hx1.out).mono ?_; intro e w2 h2
      obtain ⟨v2, rfl, hi2, hb2⟩ := okIn h2
      have Hx2 := Lib.hid (Hx1.out.below hb2)
      have HB2 := Lib.hid (HB1.out.trans (hb2.mono HB1.out.size))
      have HI2 := Lib.hid hi2
      clear hb2 hi2 h2
      go_wp2_with fail
      refine (H1.out _ Hx2.out).mono ?_; intro e w3 h3
      obtain ⟨v3, rfl, hi3, hb3⟩ := okIn h3
      have Hx3 := Lib.hid (Hx2.out.below hb3)
      have HB3 := Lib.hid (HB2.out.trans (hb3.mono HB2.out.size))
      have HI3 := Lib.hid (HI2.out.below hb3)
      have HJ3 := Lib.hid hi3
      clear hb3 hi3 h3 H1 H2 Hx1 Hx2 HI2 HB1 HB2
      go_wp2_with fail
      refine (sameInts_any _ _ ss ss _ HI3.out HJ3.out (by omega)).mono ?_; rintro e w4 ⟨⟨x, rfl, hx4⟩, hb4⟩
      obtain rfl : x = true := hx4.2 rfl
      have Hx4 := Lib.hid (Hx3.out.below hb4)
      have HB4 := Lib.hid (HB3.out.trans (hb4.mono HB3.out.size))
      have HI4 := Lib.hid (HI3.out.below hb4)
      clear hb4 hx4 Hx3 HB3 HI3 HJ3
      go_wp2_with fail
      refine (HM.out _ Hx4.out).mono ?_; intro e w5 h5
      obtain ⟨v5, rfl, hi5, hb5⟩ := okIn h5
      have HB5 := Lib.hid (HB4.out.trans (hb5.mono HB4.out.size))
      have HI5 := HI4.out.below hb5
      obtain ⟨b2, o2, c2, rfl, hb2, hr2⟩ := six HI5 hs6
      obtain ⟨bm, om, cm, rfl, hbm, hrm⟩ := six hi5 hl6
      have HC := Lib.hid (fun (w' : World) (h : Below w5.heap.size w5 w') (i : Nat) (hi : i < 6) => (show w'.cell? ⟨b2, o2 + i, none⟩ = some (.int .i64 (ss.getD i 0)) ∧ w'.cell? ⟨bm, om + i, none⟩ = some (.int .i64 (ms.getD i 0)) from ⟨(hr2.below h hb2) i (by omega), (hrm.below h hbm) i (by omega)⟩))
      clear hb5 hi5 h5 HM Hx4 HB4 HI4 HI5 hb2 hr2 hbm hrm
      go_wp2
      go_loopw [11] (fun iv wr => SrRel w5 iv wr) (fun iv _ => 6 - (intOf iv).toNat)
      case atStart => exact ⟨0, Nat.zero_le _, rfl, Below.refl _ _⟩
      case round =>
        obtain ⟨i, hi, rfl, hb⟩ := hrel
        by_cases hlt : i < 6
        · have hi' : (i : Int) < 6 := by omega
          have hi0 : (0 : Int) ≤ (i : Int) := Int.natCast_nonneg _
          have HB := Lib.hid hb
          clear hb hi
          go_wp2
          go_loopw [12] (fun kv wr => SrRel w5 kv wr) (fun kv _ => 6 - (intOf kv).toNat)
          case atStart => exact ⟨0, Nat.zero_le _, rfl, HB.out⟩
          case round =>
            clear HB
            obtain ⟨k, hk, rfl, hb⟩ := hrel
            by_cases hlk : k < 6
            · obtain ⟨s1, m1⟩ := HC.out _ hb i hlt
              obtain ⟨s2, m2⟩ := HC.out _ hb k hlk
              have hmore := HMore.out i k hlt
              have hsame := HSame.out i k hlt
              have hsb := HSb.out k
              have HB := Lib.hid hb
              have hk' : (k : Int) < 6 := by omega
              have hk0 : (0 : Int) ≤ (k : Int) := Int.natCast_nonneg _
              generalize ms.getD i 0 = mi at *
              generalize ms.getD k 0 = mk at *
              generalize ss.getD i 0 = si at *
              generalize ss.getD k 0 = sk at *
              have hw1 : wrap64 (sk + 1) = sk + 1 := wrap64_ok (by omega) (by omega)
              have hw2 : IntKind.i64.wrap (sk + 1) = sk + 1 := IntWalk.i64_in _ (by omega)
              clear hb hk hsb
              by_cases hgt : mk < mi
              · have hd : decide (mk < mi) = true := by simpa using hgt
                have hd2 : (mi == mk) = false := by simp; omega
                have hno : ¬ si < sk := by have := hmore hgt; omega
                have hno2 : decide (si < sk) = false := by simpa using hno
                clear hmore hsame
                go_wp2
                go_region
                all_goals
                  go_wp2
                  go_region
                  all_goals
                    go_wp2
                    go_roundw
                    case rel => exact ⟨k + 1, hlk, by go_num, HB.out.drew.drew⟩
                    case measure => simp [intOf]; omega
              · have hd : decide (mk < mi) = false := by simpa using hgt
                clear hmore
                by_cases heq : mi = mk
                · subst heq
                  have hd2 : (mi == mi) = true := by simp
                  by_cases hik : i < k
                  · obtain ⟨e1, e2⟩ := hsame hik rfl
                    have hik' : (i : Int) < (k : Int) := by omega
                    have hdk : decide ((i : Int) < (k : Int)) = true := by simpa using hik'
                    have hno : ¬ si < sk := by omega
                    have hno2 : decide (si < sk) = false := by simpa using hno
                    have hno3 : ¬ sk + 1 < si := by omega
                    have hno4 : decide (sk + 1 < si) = false := by simpa using hno3
                    clear hsame e1 e2
                    go_wp2
                    go_region
                    all_goals
                      go_wp2
                      go_region
                      all_goals
                        go_wp2
                        go_roundw
                        case rel => exact ⟨k + 1, hlk, by go_num, HB.out.drew.drew⟩
                        case measure => simp [intOf]; omega
                  · have hik' : ¬ (i : Int) < (k : Int) := by omega
                    have hdk : decide ((i : Int) < (k : Int)) = false := by simpa using hik'
                    clear hsame
                    go_wp2
                    go_region
                    all_goals
                      go_wp2
                      go_region
                      all_goals
                        go_wp2
                        go_roundw
                        case rel => exact ⟨k + 1, hlk, by go_num, HB.out.drew.drew⟩
                        case measure => simp [intOf]; omega
                · have hd2 : (mi == mk) = false := by simpa using heq
                  clear hsame
                  go_wp2
                  go_region
                  all_goals
                    go_wp2
                    go_region
                    all_goals
                      go_wp2
                      go_roundw
                      case rel => exact ⟨k + 1, hlk, by go_num, HB.out.drew.drew⟩
                      case measure => simp [intOf]; omega
            · obtain rfl : k = 6 := by omega
              have HB := Lib.hid hb
              clear hb hlk hk
              go_wp2
              exact ⟨⟨i + 1, hlt, by go_num, HB.out⟩, by simp [intOf]; omega⟩
        · obtain rfl : i = 6 := by omega
          have HB6 := Lib.hid (HB5.out.trans (hb.mono HB5.out.size))
          clear hb hlt hi HC HB5
          go_wp2
          go_ret
          exact ⟨rfl, HB6.out⟩
  · have hl' : (1048576 : Int) < (l.length : Int) := by omega
    go_enter Try.func11, Try.ntmps11
    go_wp2
    go_ret
    exact ⟨rfl, Below.refl _ _⟩

set_option maxRecDepth 100000 in
theorem lifted (os : Os) (started : os.Started) (H : Type) (enc : TypeId × Value → H) :
    ReturnsInHanded {} Try.checked os 11 .any (Rows.fnShareOrderSpec.pre6 enc Try.prog Try.f11 Rows.fnShareOrderRow.domain false) (Rows.fnShareOrderSpec.post enc Try.prog Try.f11 false true false false) := by
  refine returnsInHanded_of_change (C := Try.checked) own started (by kernel_rfl) Try.func11
    (ChangeSpec.witness6 (enc := enc) (C := Try.checked) false ⟨#[], #[.slice none 0 0], []⟩ 8 (by kernel_rfl) (by kernel_rfl) (by kernel_rfl) (by kernel_rfl)) ?_
  intro W base args ds gs before hval0 hW hcnd _
  have hval : ∀ (j : Nat) t v, Try.f11.params[j]? = some t → args[j]? = some v → Value.okWide Try.prog W .any base t v := hval0
  have hW' := hW
  obtain ⟨p, q, hA0, hV, rfl, hfz, hnd⟩ := hW
  have hA : DataW.TrodAll enc Try.prog W 0 (fun _ => true) true Try.f11.params.toList args.toList ds p := hA0
  rw [Try.params11] at hA hval
  obtain ⟨v0, vs0, d0, ds0, p0, q0, hargs, rfl, rfl, h0, r0⟩ := trodAll_cons hA
  obtain ⟨rfl, rfl, rfl⟩ := trodAll_nil r0
  obtain rfl : args = #[v0] := by cases args; simp_all
  obtain ⟨rfl, rfl⟩ := trodVars_none hV
  obtain ⟨a0, len0, cap0, rfl⟩ := okWide_slice Try.underlying22 (hval 0 22 v0 rfl rfl)
  have k0 := h0
  have lt0 : ∀ x ∈ p0, x.block < W.heap.size := by obtain ⟨m, hm⟩ := k0; exact DataW.trod_lt m _ _ _ hm
  obtain ⟨z0, hv0, hm0⟩ := open_byteS h0 rfl
  clear hA0 hval0
  refine (walk _ z0 W hv0 hm0).mono fun e W' ⟨he, bel⟩ => ?_
  subst he
  exact ⟨_, rfl, _, _, _, [], _, [], hW', trodAll_mk1 (shut_bool Try.underlying4 _), (trodAll_cons_mk (Below.trod laidOut (by kernel_rfl) (of_decide_eq_true (by kernel_rfl)) k0 bel lt0) trodAll_mk0), rfl, bel.frame _, fun h => by cases h⟩

theorem over : Rows.fnShareOrderRow.holds Try.pinned (OpenSpec.ofChange Rows.fnShareOrderSpec) :=
  OpenClaim.holds_of_wide 11 Try.f11 rfl rfl rfl rfl rfl rfl rfl ⟨rfl, rfl, rfl, rfl, rfl⟩ rfl rfl rfl rfl rfl (by kernel_rfl) Try.func11 (by kernel_rfl)
    (of_decide_eq_true (by kernel_rfl)) (by unfold Func.isWrapper; first | (rw [if_pos (by decide +kernel)]; kernel_rfl) | (rw [if_neg (by decide +kernel)]; exact ⟨rfl, rfl⟩))
    (fun os started H enc _ => lifted os started H enc)

theorem proved : Rows.FnShareOrderSaid := over
#print axioms proved
end Go.Proofs.Ythdkjjfnockldaa.lawFnShareOrder
