/- The law FnBillLoads holds at every input. No condition. -/
import Derived.Test.YtmdcpigobfhckaaOJ
import Derived.Test.YtmdcpigobfhckaaDBL
import Derived.Test.YtmdcpigobfhckaaFLD
import Derived.Test.YtmdcpigobfhckaaFX
import Derived.Test.YtmdcpigobfhckaaFN
import Derived.Test.YtmdcpigobfhckaaSI
import Derived.Test.YtmdcpigobfhckaaSUO
namespace Go.Proofs.Ytmdcpigobfhckaa.lawFnBillLoads
open Go.ChangeShapes Go.WideShapes Go.ChangeAt Go.RowKit
set_option linter.unusedVariables false

def RoRel (xs : List Fr) (N : Nat) (w : World) (now leg : Value) (wr : World) : Prop :=
  ∃ (g : Nat) (c : Int), g ≤ N ∧ leg = .int .i64 g ∧ c = loadF xs ((g : Int) - 1) ∧ now = .int .i64 c ∧ Below w.heap.size w wr
def RiLRel (xs : List Fr) (g : Nat) (w : World) (now i : Value) (wr : World) : Prop :=
  ∃ (k : Nat) (c : Int), k ≤ xs.length ∧ i = .int .i64 k ∧ c = nowF xs g k ∧ now = .int .i64 c ∧ Below w.heap.size w wr

set_option maxRecDepth 100000 in
set_option maxHeartbeats 2000000 in
theorem walk (v : Value) (l : List Int) (w : World) (hv : BytesIn w v l) (hm : l.length ≤ maxLen) :
    Calls Try.prog 16 #[v] w fun e w' => e = .returned (.bool true) ∧ Below w.heap.size w w' := by
  have Hv := Lib.hid hv
  obtain ⟨av, cv, rfl, hcv, _, _⟩ := hv
  clear hcv
  by_cases hl : l.length ≤ 1048576
  · have hl' : ¬ (1048576 : Int) < (l.length : Int) := by omega
    go_enter Try.func16, Try.ntmps16
    go_wp2_with fail
    refine (drawLd_any _ l _ Hv.out hl).mono ?_; rintro e w1 ⟨n, ad, cap, xs, rfl, hn1, hn6, hcap, h12, hown, hb⟩
    have Hx1 := Lib.hid (hown.ins hcap)
    have HB1 := Lib.hid hb
    have hx : xs.length ≤ 1048576 := by omega
    have wn : W64 n := by unfold W64; omega
    clear hown hb
    have H2 := Lib.hid (fun w' (h : FrIn w' (.slice ad xs.length cap) xs) => loads2_any n _ xs w' h (by omega))
    have H1 := Lib.hid (fun w' (h : FrIn w' (.slice ad xs.length cap) xs) => loads1_any n _ xs w' wn h hx)
    have HP := Lib.hid (fun w' (h : FrIn w' (.slice ad xs.length cap) xs) => pound2_any n _ xs w' h (by omega))
    obtain ⟨N, rfl⟩ : ∃ N : Nat, n = N := ⟨n.toNat, by omega⟩
    cases hok : validF N xs with
    | false =>
      rw [loadsX_no hok, hok] at H2 H1
      clear hok HP
      go_wp2_with fail
      refine (H2.out _ Hx1.out).mono ?_; rintro e w2 ⟨ad2, cap2, rfl, hc2, ho2, _, hb2⟩
      have Hx2 := Lib.hid (Hx1.out.below hb2)
      have HB2 := Lib.hid (HB1.out.trans (hb2.mono HB1.out.size))
      have HI2 := Lib.hid (ho2.ints hc2)
      clear hb2 hc2 ho2
      go_wp2_with fail
      refine (H1.out _ Hx2.out).mono ?_; rintro e w3 ⟨ad3, cap3, rfl, hc3, ho3, _, hb3⟩
      have HB3 := Lib.hid (HB2.out.trans (hb3.mono HB2.out.size))
      have HI3 := Lib.hid (HI2.out.below hb3)
      have HJ3 := Lib.hid (ho3.ints hc3)
      clear hb3 hc3 ho3
      go_wp2_with fail
      refine (sameInts_any _ _ [] [] _ HI3.out HJ3.out (by simp)).mono ?_; rintro e w4 ⟨⟨x, rfl, hx4⟩, hb4⟩
      obtain rfl : x = true := hx4.2 rfl
      have HB4 := Lib.hid (HB3.out.trans (hb4.mono HB3.out.size))
      have HI4 := Lib.hid (HI3.out.below hb4)
      have HJ4 := Lib.hid (HJ3.out.below hb4)
      clear hb4 hx4
      go_wp2_with fail
      refine (sameInts_any _ _ [] [] _ HI4.out HJ4.out (by simp)).mono ?_; rintro e w5 ⟨⟨x, rfl, hx5⟩, hb5⟩
      obtain rfl : x = true := hx5.2 rfl
      have HB5 := Lib.hid (HB4.out.trans (hb5.mono HB4.out.size))
      clear hb5 hx5
      go_wp2
      go_ret
      exact ⟨rfl, HB5.out⟩
    | true =>
      have hok2 := valid_ok hok
      have Hok := Lib.hid hok2
      have hl12 := (headF_iff.1 (valid_head hok)).2
      have hcp := valid_cap hok
      rw [Int.toNat_natCast] at hcp
      have Hcap := Lib.hid hcp
      have Hst := Lib.hid (show loadF xs ((0 : Nat) - 1 : Int) = 0 from load_start hok2)
      have hrl := loadsL_len xs N xs.length
      have Hleg := Lib.hid (fun g (hg : g < N) => loadsL_at (l := xs) (j := xs.length) hg)
      have Hsum := Lib.hid (show (loadsL xs N xs.length).sum = poundX N xs by
        rw [loads_sum]; unfold poundX; rw [if_pos hok, ← pound_eq hok2, Int.toNat_natCast])
      have Hbd := Lib.hid (show ∀ i, -2000000000 ≤ (loadsL xs N xs.length).getD i 0 ∧ (loadsL xs N xs.length).getD i 0 ≤ 2000000000 from fun i => by
        by_cases hi : i < N
        · rw [loadsL_at hi]; have := load9_nn (g := (i : Int)) hok2; omega
        · rw [List.getD, List.getElem?_eq_none (by rw [hrl]; omega)]; simp)
      rw [loadsX_yes hok, hok, Int.toNat_natCast] at H2 H1
      clear hok hok2 hcp
      generalize loadsL xs N xs.length = rs at *
      go_wp2_with fail
      refine (H2.out _ Hx1.out).mono ?_; rintro e w2 ⟨ad2, cap2, rfl, hc2, ho2, _, hb2⟩
      rw [hrl] at hc2 ⊢
      have Hx2 := Lib.hid (Hx1.out.below hb2)
      have HB2 := Lib.hid (HB1.out.trans (hb2.mono HB1.out.size))
      have HI2 := Lib.hid (show IntsIn w2 (.slice ad2 N cap2) rs by have h := ho2.ints (cap := cap2) (by rw [hrl]; exact hc2); rw [hrl] at h; exact h)
      have HO2 := Lib.hid ho2
      clear hb2 hc2 ho2
      go_wp2_with fail
      refine (H1.out _ Hx2.out).mono ?_; rintro e w3 ⟨ad3, cap3, rfl, hc3, ho3, _, hb3⟩
      rw [hrl] at hc3 ⊢
      have Hx3 := Lib.hid (Hx2.out.below hb3)
      have HB3 := Lib.hid (HB2.out.trans (hb3.mono HB2.out.size))
      have HI3 := Lib.hid (HI2.out.below hb3)
      have HO3 := Lib.hid (HO2.out.below hb3)
      have HJ3 := Lib.hid (show IntsIn w3 (.slice ad3 N cap3) rs by have h := ho3.ints (cap := cap3) (by rw [hrl]; exact hc3); rw [hrl] at h; exact h)
      clear hb3 hc3 ho3
      go_wp2_with fail
      refine (sameInts_any _ _ rs rs _ HI3.out HJ3.out (by omega)).mono ?_; rintro e w4 ⟨⟨x, rfl, hx4⟩, hb4⟩
      obtain rfl : x = true := hx4.2 rfl
      have HB4 := Lib.hid (HB3.out.trans (hb4.mono HB3.out.size))
      have Hx4 := Lib.hid (Hx3.out.below hb4)
      have HO4 := Lib.hid (HO3.out.below hb4)
      have HI4 := Lib.hid (HI3.out.below hb4)
      clear hb4 hx4 HI2 HI3 HJ3 HO2 HO3 H1 H2
      go_wp2
      go_loopw [9, 10] (fun now leg wr => RoRel xs N w4 now leg wr) (fun _ leg _ => N - (intOf leg).toNat)
      case atStart => exact ⟨0, 0, Nat.zero_le _, rfl, Hst.out.symm, rfl, Below.refl _ _⟩
      case round =>
        obtain ⟨g, c, hg, rfl, hc, rfl, hb⟩ := hrel
        have HB := Lib.hid hb
        have HC := Lib.hid hc
        clear hb hc
        by_cases hlt : g < N
        · have hgN : (g : Int) < (N : Int) := by omega
          go_wp2
          go_loopw [9, 11] (fun now i wr => RiLRel xs g w4 now i wr) (fun _ i _ => xs.length - (intOf i).toNat)
          case atStart => exact ⟨0, c, Nat.zero_le _, rfl, HC.out, rfl, HB.out⟩
          case round =>
            obtain ⟨k, d, hk, rfl, hd, rfl, hb⟩ := hrel
            have HB5 := Lib.hid hb
            by_cases hkl : k < xs.length
            · have hk' : (k : Int) < (xs.length : Int) := by omega
              have hk0 : (0 : Int) ≤ (k : Int) := Int.natCast_nonneg _
              have hbd := nowF_bd (g := (g : Int)) Hok.out hl12 hk
              rw [← hd] at hbd
              have hX := Hx4.out.below hb
              obtain ⟨_, _, he, _, ha⟩ := hX
              cases he
              obtain ⟨b, o, rfl, hb0, hrw⟩ := ha (by intro h; simp [h] at hkl)
              obtain ⟨c0, c1, c2⟩ := hrw k hkl
              obtain ⟨⟨_, a1, _⟩, m1, m2⟩ := okF_iff.1 (okFs_at Hok.out hkl)
              have hsu : nowF xs g (k + 1) = nowF xs g k + dltF g (xs.getD k fr0) := rfl
              have hdl : dltF (g : Int) (xs.getD k fr0) = (if (xs.getD k fr0).a = (g : Int) then (xs.getD k fr0).m else 0) - (if (xs.getD k fr0).b = (g : Int) then (xs.getD k fr0).m else 0) := rfl
              rw [← hd, hdl] at hsu
              clear hrw ha hb hd hdl
              generalize (xs.getD k fr0).a = xa at *
              generalize (xs.getD k fr0).b = xb at *
              generalize (xs.getD k fr0).m = xm at *
              by_cases h1 : xa = g
              · by_cases h2 : xb = g
                · exact absurd h2 (by omega)
                · rw [if_pos h1, if_neg h2] at hsu
                  have Hsu := Lib.hid (show nowF xs g (k + 1) = d + xm by omega); clear hsu
                  go_wp2
                  exact ⟨⟨k + 1, _, hkl, by go_num, Hsu.out.symm, by go_num, HB5.out⟩, by simp [intOf]; omega⟩
              · by_cases h2 : xb = g
                · rw [if_neg h1, if_pos h2] at hsu
                  have Hsu := Lib.hid (show nowF xs g (k + 1) = d - xm by omega); clear hsu
                  go_wp2
                  exact ⟨⟨k + 1, _, hkl, by go_num, Hsu.out.symm, by go_num, HB5.out⟩, by simp [intOf]; omega⟩
                · rw [if_neg h1, if_neg h2] at hsu
                  have Hsu := Lib.hid (show nowF xs g (k + 1) = d by omega); clear hsu
                  go_wp2
                  exact ⟨⟨k + 1, _, hkl, by go_num, Hsu.out.symm, by go_num, HB5.out⟩, by simp [intOf]; omega⟩
            · obtain rfl : k = xs.length := by omega
              rw [nowF_end Hok.out] at hd
              have e1 := Hleg.out g hlt
              have e2 := capTo_at Hcap.out hlt
              change rs.getD g 0 = loadF xs g at e1
              rw [← hd] at e1 e2
              have hO := HO4.out.below hb
              obtain ⟨b, rfl, hb0, hat, _⟩ := hO (by intro h; rw [h] at hrl; simp at hrl; omega)
              have c0 := hat g (by omega)
              simp only [Nat.zero_add] at c0
              rw [e1] at c0
              have Hd := Lib.hid hd
              have hq : (d != d) = false := by simp
              have hq2 : ((N : Int) != (N : Int)) = false := by simp
              clear hat hb hd e1
              go_wp2
              exact ⟨⟨g + 1, d, hlt, by go_num, by rw [Hd.out]; congr 1; omega, rfl, HB5.out⟩, by simp [intOf]; omega⟩
        · obtain rfl : g = N := by omega
          have HBf := Lib.hid (HB4.out.trans (HB.out.mono HB4.out.size))
          have HIf := Lib.hid (HI4.out.below HB.out)
          have Hxf := Lib.hid (Hx4.out.below HB.out)
          have HS := Lib.hid (fun v w' (h : IntsIn w' v rs) => sumOf_any v rs w' h (by omega) Hbd.out)
          rw [Hsum.out] at HS
          generalize poundX (g : Int) xs = pz at *
          go_wp2_with fail
          refine (HS.out _ _ HIf.out).mono ?_; rintro e w5 ⟨rfl, rfl⟩
          go_wp2_with fail
          refine (HP.out _ Hxf.out).mono ?_; rintro e w6 ⟨rfl, hb6⟩
          have HB6 := Lib.hid (HBf.out.trans (hb6.mono HBf.out.size))
          have hq : (pz == pz) = true := by simp
          clear hb6
          go_wp2
          go_ret
          exact ⟨rfl, HB6.out⟩
  · have hl' : (1048576 : Int) < (l.length : Int) := by omega
    go_enter Try.func16, Try.ntmps16
    go_wp2
    go_ret
    exact ⟨rfl, Below.refl _ _⟩

set_option maxRecDepth 100000 in
theorem lifted (os : Os) (started : os.Started) (H : Type) (enc : TypeId × Value → H) :
    ReturnsInHanded {} Try.checked os 16 .any (Rows.fnBillLoadsSpec.pre6 enc Try.prog Try.f16 Rows.fnBillLoadsRow.domain false) (Rows.fnBillLoadsSpec.post enc Try.prog Try.f16 false true false false) := by
  refine returnsInHanded_of_change (C := Try.checked) own started (by kernel_rfl) Try.func16
    (ChangeSpec.witness6 (enc := enc) (C := Try.checked) false ⟨#[], #[.slice none 0 0], []⟩ 8 (by kernel_rfl) (by kernel_rfl) (by kernel_rfl) (by kernel_rfl)) ?_
  intro W base args ds gs before hval0 hW hcnd _
  have hval : ∀ (j : Nat) t v, Try.f16.params[j]? = some t → args[j]? = some v → Value.okWide Try.prog W .any base t v := hval0
  have hW' := hW
  obtain ⟨p, q, hA0, hV, rfl, hfz, hnd⟩ := hW
  have hA : DataW.TrodAll enc Try.prog W 0 (fun _ => true) true Try.f16.params.toList args.toList ds p := hA0
  rw [Try.params16] at hA hval
  obtain ⟨v0, vs0, d0, ds0, p0, q0, hargs, rfl, rfl, h0, r0⟩ := trodAll_cons hA
  obtain ⟨rfl, rfl, rfl⟩ := trodAll_nil r0
  obtain rfl : args = #[v0] := by cases args; simp_all
  obtain ⟨rfl, rfl⟩ := trodVars_none hV
  obtain ⟨a0, len0, cap0, rfl⟩ := okWide_slice Try.underlying64 (hval 0 64 v0 rfl rfl)
  have k0 := h0
  have lt0 : ∀ x ∈ p0, x.block < W.heap.size := by obtain ⟨m, hm⟩ := k0; exact DataW.trod_lt m _ _ _ hm
  obtain ⟨z0, hv0, hm0⟩ := open_byteS h0 rfl
  clear hA0 hval0
  refine (walk _ z0 W hv0 hm0).mono fun e W' ⟨he, bel⟩ => ?_
  subst he
  exact ⟨_, rfl, _, _, _, [], _, [], hW', trodAll_mk1 (shut_bool Try.underlying4 _), (trodAll_cons_mk (Below.trod laidOut (by kernel_rfl) (of_decide_eq_true (by kernel_rfl)) k0 bel lt0) trodAll_mk0), rfl, bel.frame _, fun h => by cases h⟩

theorem closed : joinedFacts Try.prog 16 Try.f16 Rows.fnBillLoadsSpec Rows.fnBillLoadsRow = true := by
  delta joinedFacts
  refine and_t (and_t (and_t (and_t (and_t (and_t (and_t ?_ mayE) (liftE rfl)) (makeE rfl)) ?_) ?_) ?_) ?_
  all_goals kernel_rfl
theorem over : Rows.fnBillLoadsRow.holds Try.pinned (OpenSpec.ofChange Rows.fnBillLoadsSpec) :=
  OpenClaim.holds_of_wide 16 Try.f16 rfl rfl rfl rfl rfl rfl rfl ⟨rfl, rfl, rfl, rfl, rfl⟩ rfl rfl rfl rfl rfl (by kernel_rfl) Try.func16 closed
    (of_decide_eq_true (by kernel_rfl)) (by unfold Func.isWrapper; first | (rw [if_pos (by decide +kernel)]; kernel_rfl) | (rw [if_neg (by decide +kernel)]; exact ⟨rfl, rfl⟩))
    (fun os started H enc _ => lifted os started H enc)

theorem proved : Rows.FnBillLoadsSaid := over
#print axioms proved
end Go.Proofs.Ytmdcpigobfhckaa.lawFnBillLoads
