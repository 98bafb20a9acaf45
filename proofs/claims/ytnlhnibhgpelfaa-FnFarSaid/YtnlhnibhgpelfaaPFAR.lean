/- The law FnFar holds at every input. No condition. -/
import Derived.Test.YtnlhnibhgpelfaaWF
import Derived.Test.YtnlhnibhgpelfaaRF
import Derived.Test.YtnlhnibhgpelfaaDS
namespace Go.Proofs.Ytnlhnibhgpelfaa.lawFnFar
open Go.ChangeShapes Go.WideShapes Go.ChangeAt Go.RowKit
set_option linter.unusedVariables false

set_option maxRecDepth 100000 in
set_option maxHeartbeats 2000000 in
theorem walk (v : Value) (l : List Int) (v' : Value) (l' : List Int) (w : World) (hv : BytesIn w v l) (hm : l.length ≤ maxLen) (hv' : BytesIn w v' l') (hm' : l'.length ≤ maxLen) :
    Calls Try.prog 8 #[v, v'] w fun e w' => e = .returned (.bool true) ∧ Below w.heap.size w w' := by
  have Hv := Lib.hid hv
  obtain ⟨av, cv, rfl, hcv, _, _⟩ := hv
  obtain ⟨av', cv', rfl, hcv', _, _⟩ := hv'
  clear hcv hcv'
  by_cases hl : l.length ≤ 1048576
  · have hl' : ¬ (1048576 : Int) < (l.length : Int) := by omega
    by_cases hk : l'.length ≤ 1048576
    · have hk' : ¬ (1048576 : Int) < (l'.length : Int) := by omega
      go_enter Try.func8, Try.ntmps8
      go_wp2_with fail
      refine (drawFar_any _ l _ Hv.out hl).mono ?_; rintro e w1 ⟨n, ad, cap, xs, a, b, rfl, hn2, hn6, hcap, h11, hbd, ha0, ha1, hb0, hb1, hown, hblk, hb⟩
      have Hx1 := Lib.hid (hown.ins hcap).roads
      have HB1 := Lib.hid hb
      have hx : xs.length ≤ 1048576 := by omega
      have Hwf := Lib.hid hbd.wf
      clear hown hblk hb hbd
      have Hf2 := Lib.hid (fun (x y : Int) (hx0 : -1000 ≤ x ∧ x ≤ 1000 ∧ -1000 ≤ y ∧ y ≤ 1000) w' (h : RoadsIn w' (.slice ad xs.length cap) xs) => far2_any n _ xs x y w' h hx Hwf.out (by unfold W64; omega) (by unfold W64; omega))
      have Hf1 := Lib.hid (fun w' (h : RoadsIn w' (.slice ad xs.length cap) xs) => specFar_any n _ xs a b w' h hx)
      have hge := far_ge n xs a b
      by_cases hneg : farOf n xs a b < 0
      · have He := Lib.hid (show farOf n xs a b = -1 by omega)
        clear hge hneg
        go_wp2_with fail
        refine (Hf2.out a b (by omega) _ Hx1.out).mono ?_; rintro e w2 ⟨rfl, hb2⟩
        have Hx2 := Lib.hid (Hx1.out.below hb2)
        have HB2 := Lib.hid (HB1.out.trans (hb2.mono HB1.out.size))
        clear hb2
        rw [He.out]
        go_wp2_with fail
        refine (Hf1.out _ Hx2.out).mono ?_; rintro e w3 ⟨rfl, hb3⟩
        have HB3 := Lib.hid (HB2.out.trans (hb3.mono HB2.out.size))
        clear hb3
        rw [He.out]
        go_wp2
        go_ret
        exact ⟨rfl, HB3.out⟩
      · obtain ⟨r, e1, hr0, hr1⟩ : ∃ r : Int, (l'.length : Int) % n = r ∧ 0 ≤ r ∧ r < n := by
          have h0 := Int.emod_nonneg (l'.length : Int) (show n ≠ 0 by omega)
          have h1 := Int.emod_lt_of_pos (l'.length : Int) (show 0 < n by omega)
          exact ⟨_, rfl, h0, h1⟩
        have hout : 0 ≤ farOf n xs a b := by omega
        have hlaw := far_law hout r
        have hzero := far_zero hout
        have hsym := far_symm n xs a b
        have hgx := far_ge n xs a r
        have hgy := far_ge n xs r b
        have HF1 := Lib.hid (fun w' h => Hf2.out a b (by omega) w' h)
        have HF2 := Lib.hid (fun w' h => Hf2.out a r (by omega) w' h)
        have HF3 := Lib.hid (fun w' h => Hf2.out r b (by omega) w' h)
        have HF4 := Lib.hid (fun w' h => Hf2.out b a (by omega) w' h)
        rw [hsym] at HF4
        clear hsym hneg
        generalize farOf n xs a b = out at *
        generalize farOf n xs a r = x at *
        generalize farOf n xs r b = y at *
        have hz1 : (out == 0 ∧ a == b) ∨ ((out == 0) = false ∧ (a == b) = false) := by
          by_cases h : out = 0
          · exact .inl ⟨by simpa using h, by simpa using hzero.1 h⟩
          · exact .inr ⟨by simpa using h, by simpa using fun e => h (hzero.2 e)⟩
        clear hzero
        have hq : (out != out) = false := by simp
        have hqq : (out == out) = true := by simp
        have hnn : ¬ out < 0 := by omega
        have Hz1 := Lib.hid hz1
        have Hlaw := Lib.hid hlaw
        clear hz1 hlaw
        go_wp2_with fail
        refine (HF1.out _ Hx1.out).mono ?_; rintro e w2 ⟨rfl, hb2⟩
        have Hx2 := Lib.hid (Hx1.out.below hb2)
        have HB2 := Lib.hid (HB1.out.trans (hb2.mono HB1.out.size))
        clear hb2
        go_wp2_with fail
        refine (Hf1.out _ Hx2.out).mono ?_; rintro e w3 ⟨rfl, hb3⟩
        have Hx3 := Lib.hid (Hx2.out.below hb3)
        have HB3 := Lib.hid (HB2.out.trans (hb3.mono HB2.out.size))
        clear hb3
        go_wp2_with fail
        refine (HF2.out _ Hx3.out).mono ?_; rintro e w4 ⟨rfl, hb4⟩
        have Hx4 := Lib.hid (Hx3.out.below hb4)
        have HB4 := Lib.hid (HB3.out.trans (hb4.mono HB3.out.size))
        clear hb4
        go_wp2_with fail
        refine (HF3.out _ Hx4.out).mono ?_; rintro e w5 ⟨rfl, hb5⟩
        have Hx5 := Lib.hid (Hx4.out.below hb5)
        have HB5 := Lib.hid (HB4.out.trans (hb5.mono HB4.out.size))
        clear hb5
        go_wp2_with fail
        refine (HF4.out _ Hx5.out).mono ?_; rintro e w6 ⟨rfl, hb6⟩
        have HB6 := Lib.hid (HB5.out.trans (hb6.mono HB5.out.size))
        clear hb6
        rcases Hlaw.out with ⟨hx0, hy0, hle⟩ | ⟨hx0, hy0⟩
        · have c1 : ¬ x < 0 := by omega
          have c2 : x ≥ 0 := hx0
          have c3 : y ≥ 0 := hy0
          have c4 : wrap64 (x + y) = x + y := by unfold wrap64; omega
          rcases Hz1.out with ⟨z1, z2⟩ | ⟨z1, z2⟩
          · go_wp2
            go_ret
            exact ⟨ret_bool (by first | rfl | (simp; omega)), HB6.out⟩
          · go_wp2
            go_ret
            exact ⟨ret_bool (by first | rfl | (simp; omega)), HB6.out⟩
        · have c2 : ¬ x ≥ 0 := by omega
          have c3 : ¬ y ≥ 0 := by omega
          rcases Hz1.out with ⟨z1, z2⟩ | ⟨z1, z2⟩
          · go_wp2
            go_ret
            exact ⟨ret_bool (by first | rfl | (simp; omega)), HB6.out⟩
          · go_wp2
            go_ret
            exact ⟨ret_bool (by first | rfl | (simp; omega)), HB6.out⟩
    · have hk' : (1048576 : Int) < (l'.length : Int) := by omega
      go_enter Try.func8, Try.ntmps8
      go_wp2
      go_ret
      exact ⟨rfl, Below.refl _ _⟩
  · have hl' : (1048576 : Int) < (l.length : Int) := by omega
    go_enter Try.func8, Try.ntmps8
    go_wp2
    go_ret
    exact ⟨rfl, Below.refl _ _⟩

set_option maxRecDepth 100000 in
theorem lifted (os : Os) (started : os.Started) (H : Type) (enc : TypeId × Value → H) :
    ReturnsInHanded {} Try.checked os 8 .any (Rows.fnFarSpec.pre6 enc Try.prog Try.f8 Rows.fnFarRow.domain false) (Rows.fnFarSpec.post enc Try.prog Try.f8 false true false false) := by
  refine returnsInHanded_of_change (C := Try.checked) own started (by kernel_rfl) Try.func8
    (ChangeSpec.witness6 (enc := enc) (C := Try.checked) false ⟨#[], #[.slice none 0 0, .slice none 0 0], []⟩ 8 (by kernel_rfl) (by kernel_rfl) (by kernel_rfl) (by kernel_rfl)) ?_
  intro W base args ds gs before hval0 hW hcnd _
  have hval : ∀ (j : Nat) t v, Try.f8.params[j]? = some t → args[j]? = some v → Value.okWide Try.prog W .any base t v := hval0
  have hW' := hW
  obtain ⟨p, q, hA0, hV, rfl, hfz, hnd⟩ := hW
  have hA : DataW.TrodAll enc Try.prog W 0 (fun _ => true) true Try.f8.params.toList args.toList ds p := hA0
  rw [Try.params8] at hA hval
  obtain ⟨v0, vs0, d0, ds0, p0, q0, hargs, rfl, rfl, h0, r0⟩ := trodAll_cons hA
  obtain ⟨v1, vs1, d1, ds1, p1, q1, rfl, rfl, rfl, h1, r1⟩ := trodAll_cons r0
  obtain ⟨rfl, rfl, rfl⟩ := trodAll_nil r1
  obtain rfl : args = #[v0, v1] := by cases args; simp_all
  obtain ⟨rfl, rfl⟩ := trodVars_none hV
  obtain ⟨a0, len0, cap0, rfl⟩ := okWide_slice Try.underlying44 (hval 0 44 v0 rfl rfl)
  have k0 := h0
  have lt0 : ∀ x ∈ p0, x.block < W.heap.size := by obtain ⟨m, hm⟩ := k0; exact DataW.trod_lt m _ _ _ hm
  obtain ⟨z0, hv0, hm0⟩ := open_byteS h0 rfl
  obtain ⟨a1, len1, cap1, rfl⟩ := okWide_slice Try.underlying44 (hval 1 44 v1 rfl rfl)
  have k1 := h1
  have lt1 : ∀ x ∈ p1, x.block < W.heap.size := by obtain ⟨m, hm⟩ := k1; exact DataW.trod_lt m _ _ _ hm
  obtain ⟨z1, hv1, hm1⟩ := open_byteS h1 rfl
  clear hA0 hval0
  refine (walk _ z0 _ z1 W hv0 hm0 hv1 hm1).mono fun e W' ⟨he, bel⟩ => ?_
  subst he
  exact ⟨_, rfl, _, _, _, [], _, [], hW', trodAll_mk1 (shut_bool Try.underlying4 _), (trodAll_cons_mk (Below.trod laidOut (by kernel_rfl) (of_decide_eq_true (by kernel_rfl)) k0 bel lt0) (trodAll_cons_mk (Below.trod laidOut (by kernel_rfl) (of_decide_eq_true (by kernel_rfl)) k1 bel lt1) trodAll_mk0)), rfl, bel.frame _, fun h => by cases h⟩

theorem over : Rows.fnFarRow.holds Try.pinned (OpenSpec.ofChange Rows.fnFarSpec) :=
  OpenClaim.holds_of_wide 8 Try.f8 rfl rfl rfl rfl rfl rfl rfl ⟨rfl, rfl, rfl, rfl, rfl⟩ rfl rfl rfl rfl rfl (by kernel_rfl) Try.func8 (by kernel_rfl)
    (of_decide_eq_true (by kernel_rfl)) (by unfold Func.isWrapper; first | (rw [if_pos (by decide +kernel)]; kernel_rfl) | (rw [if_neg (by decide +kernel)]; exact ⟨rfl, rfl⟩))
    (fun os started H enc _ => lifted os started H enc)

theorem proved : Rows.FnFarSaid := over
#print axioms proved
end Go.Proofs.Ytnlhnibhgpelfaa.lawFnFar
