/- The law FnDirect holds at every input. No condition. -/
import Derived.Test.YtfdaaeapfeajjaaDD
import Derived.Test.YtfdaaeapfeajjaaDDF
import Derived.Test.YtfdaaeapfeajjaaRKI
import Derived.Test.YtfdaaeapfeajjaaW7
import Derived.Test.YtfdaaeapfeajjaaWD
import Derived.Test.YtfdaaeapfeajjaaW5
namespace Go.Proofs.Ytfdaaeapfeajjaa.lawFnDirect
open Go.ChangeShapes Go.WideShapes Go.ChangeAt Go.RowKit
set_option linter.unusedVariables false

set_option maxRecDepth 100000 in
set_option maxHeartbeats 2000000 in
theorem walk (v : Value) (l : List Int) (w : World) (hv : BytesIn w v l) (hm : l.length ≤ maxLen) :
    Calls Try.prog 7 #[v] w fun e w' => e = .returned (.bool true) ∧ Below w.heap.size w w' := by
  have Hv := Lib.hid hv
  obtain ⟨av, cv, rfl, hcv, _, _⟩ := hv
  clear hcv
  by_cases hl : l.length ≤ 1048576
  · have hl' : ¬ (1048576 : Int) < (l.length : Int) := by omega
    go_enter Try.func7, Try.ntmps7
    go_wp2_with fail
    refine (drawDirect_any _ l _ Hv.out hl).mono ?_; rintro e w1 ⟨n, ad, cap, xs, a, b, rfl, hn2, hn6, hcap, h11, hbd, ha0, ha1, hb0, hb1, hown, hblk, hb⟩
    have Hx1 := Lib.hid (hown.ins hcap)
    have HB1 := Lib.hid hb
    have hx : xs.length ≤ 1048576 := by omega
    have Hwf := Lib.hid hbd.wf
    have HO := Lib.hid hown
    clear hown hblk hb hbd
    have H2 := Lib.hid (fun w' (h : RoadsIn w' (.slice ad xs.length cap) xs) => direct2_any n _ xs a b w' h hx Hwf.out (by unfold W64; omega) (by unfold W64; omega))
    have H1 := Lib.hid (fun w' (h : RoadsIn w' (.slice ad xs.length cap) xs) => specDirect_any n _ xs a b w' h hx)
    obtain ⟨D, hD⟩ : ∃ D, directOf n xs a b = D := ⟨_, rfl⟩
    rw [hD] at H2 H1
    have q1 : (D != D) = false := by simp
    have q2 : (D == D) = true := by simp
    by_cases h0 : 0 ≤ D
    · obtain ⟨f1, ⟨f2, f3⟩, f4, f5, f6, f7, f8, f9, f10⟩ := direct_facts hD h0
      have hne : xs ≠ [] := by
        rintro rfl
        have : directOf n [] a b = -1 := by unfold directOf; rw [edge_nil]; split <;> rfl
        omega
      obtain ⟨bb, rfl, _, _, _⟩ := HO.out hne
      clear HO hne
      have H3 := Lib.hid (fun w' (h : RoadsIn w' (.slice (some ⟨bb, 0, none⟩) xs.length cap) xs) => direct2_any n _ xs b a w' h hx Hwf.out (by unfold W64; omega) (by unfold W64; omega))
      have H4 := Lib.hid (fun w' (h : RoadsIn w' (.slice (some ⟨bb, 0, none⟩) xs.length cap) xs) => far2_any n _ xs a b w' h hx Hwf.out (by unfold W64; omega) (by unfold W64; omega))
      have H5 := Lib.hid (fun u w' (h : RoadsIn w' (.slice (some ⟨bb, 0, none⟩) xs.length cap) xs) (hu : IntsIn w' u [a, b]) => wlen2_any n _ xs u [a, b] w' h hx Hwf.out hu (by simp) (by intro y hy; simp at hy; rcases hy with rfl | rfl <;> (unfold W64; omega)))
      have H6 := Lib.hid (fun bb w' (h : RzIn w' (.slice (some ⟨bb, 0, none⟩) xs.length cap) xs) => radd2_any n bb xs ⟨min a b, max a b, 1⟩ w' h hx Hwf.out (by show W64 (min a b); unfold W64; omega) (by show W64 (max a b); unfold W64; omega) (by show W64 1; unfold W64; omega))
      rw [f1] at H3
      rw [f5] at H5
      rw [f4] at H6
      have hn0 : ¬ D < 0 := by omega
      generalize farOf n xs a b = R at *
      clear f1 f4 f5 hD
      go_wp2_with fail
      refine (H2.out _ Hx1.out.roads).mono ?_; rintro e w2 ⟨rfl, hb2⟩
      have Hx2 := Lib.hid (Hx1.out.below hb2)
      have HB2 := Lib.hid (HB1.out.trans (hb2.mono HB1.out.size))
      clear hb2
      go_wp2_with fail
      refine (H1.out _ Hx2.out.roads).mono ?_; rintro e w3 ⟨rfl, hb3⟩
      have Hx3 := Lib.hid (Hx2.out.below hb3)
      have HB3 := Lib.hid (HB2.out.trans (hb3.mono HB2.out.size))
      clear hb3 H1 H2
      go_wp2_with fail
      refine (H6.out bb _ Hx3.out).mono ?_; rintro e w4 ⟨ad4, cap4, rfl, _, _, hb4⟩
      have Hx4 := Lib.hid (Hx3.out.below hb4)
      have HB4 := Lib.hid (HB3.out.trans (hb4.mono HB3.out.size))
      clear hb4 H6 Hx3
      go_wp2_with fail
      refine (H4.out _ Hx4.out.roads).mono ?_; rintro e w5 ⟨rfl, hb5⟩
      have Hx5 := Lib.hid (Hx4.out.below hb5)
      have HB5 := Lib.hid (HB4.out.trans (hb5.mono HB4.out.size))
      clear hb5 H4 Hx4
      have HX := Lib.hid (fun w' (h : Below w5.heap.size w5 w') => (Hx5.out.below h).roads)
      have H3' := Lib.hid (fun w' (h : Below w5.heap.size w5 w') => (H3.out w' (HX.out _ h)).mono fun _ _ ⟨he, hb⟩ => And.intro he (h.trans (hb.mono h.size)))
      have H5' := Lib.hid (fun u w' (h : Below w5.heap.size w5 w') (hu : IntsIn w' u [a, b]) => (H5.out u w' (HX.out _ h) hu).mono fun _ _ ⟨he, hb⟩ => And.intro he (h.trans (hb.mono h.size)))
      have d1 : decide (R ≤ D) = true := by simpa using f3
      have d2 : decide (1 ≤ R) = true := by simpa using f2
      clear H3 H5
      go_wp2_with fail
      refine (H3'.out _ (by first | exact Below.refl _ _ | exact (Below.refl _ _).drew | exact (Below.refl _ _).drewN _)).mono ?_; rintro e w6 ⟨rfl, hb6⟩
      go_wp2_with fail
      have hb7 := hb6.alloc hb6.size (.cells #[.int .i64 a, .int .i64 b] 3)
      have hi : IntsIn (w6.alloc (.cells #[.int .i64 a, .int .i64 b] 3)) (.slice (some ⟨w6.heap.size, 0, none⟩) 2 2) [a, b] := by
        refine ⟨_, 2, rfl, by simp, fun _ => ⟨_, 0, rfl, by simp, ?_⟩⟩
        intro i hi
        rcases (show i = 0 ∨ i = 1 by simp at hi; omega) with rfl | rfl <;> simp
      refine (H5'.out _ _ hb7 hi).mono ?_; rintro e w7 ⟨rfl, hb8⟩
      go_wp2
      go_ret
      exact ⟨ret_bool (by first | rfl | (simp; done)), HB5.out.trans (hb8.mono HB5.out.size)⟩
    · have hn0 : D < 0 := by omega
      clear hD h0
      go_wp2_with fail
      refine (H2.out _ Hx1.out.roads).mono ?_; rintro e w2 ⟨rfl, hb2⟩
      have Hx2 := Lib.hid (Hx1.out.below hb2)
      have HB2 := Lib.hid (HB1.out.trans (hb2.mono HB1.out.size))
      clear hb2
      go_wp2_with fail
      refine (H1.out _ Hx2.out.roads).mono ?_; rintro e w3 ⟨rfl, hb3⟩
      have HB3 := Lib.hid (HB2.out.trans (hb3.mono HB2.out.size))
      clear hb3
      go_wp2
      go_ret
      exact ⟨ret_bool (by first | rfl | (simp; done)), HB3.out⟩
  · have hl' : (1048576 : Int) < (l.length : Int) := by omega
    go_enter Try.func7, Try.ntmps7
    go_wp2
    go_ret
    exact ⟨rfl, Below.refl _ _⟩

set_option maxRecDepth 100000 in
theorem lifted (os : Os) (started : os.Started) (H : Type) (enc : TypeId × Value → H) :
    ReturnsInHanded {} Try.checked os 7 .any (Rows.fnDirectSpec.pre6 enc Try.prog Try.f7 Rows.fnDirectRow.domain false) (Rows.fnDirectSpec.post enc Try.prog Try.f7 false true false false) := by
  refine returnsInHanded_of_change (C := Try.checked) own started (by kernel_rfl) Try.func7
    (ChangeSpec.witness6 (enc := enc) (C := Try.checked) false ⟨#[], #[.slice none 0 0], []⟩ 8 (by kernel_rfl) (by kernel_rfl) (by kernel_rfl) (by kernel_rfl)) ?_
  intro W base args ds gs before hval0 hW hcnd _
  have hval : ∀ (j : Nat) t v, Try.f7.params[j]? = some t → args[j]? = some v → Value.okWide Try.prog W .any base t v := hval0
  have hW' := hW
  obtain ⟨p, q, hA0, hV, rfl, hfz, hnd⟩ := hW
  have hA : DataW.TrodAll enc Try.prog W 0 (fun _ => true) true Try.f7.params.toList args.toList ds p := hA0
  rw [Try.params7] at hA hval
  obtain ⟨v0, vs0, d0, ds0, p0, q0, hargs, rfl, rfl, h0, r0⟩ := trodAll_cons hA
  obtain ⟨rfl, rfl, rfl⟩ := trodAll_nil r0
  obtain rfl : args = #[v0] := by cases args; simp_all
  obtain ⟨rfl, rfl⟩ := trodVars_none hV
  obtain ⟨a0, len0, cap0, rfl⟩ := okWide_slice Try.underlying22 (hval 0 22 v0 rfl rfl)
  have k0 := h0
  have lt0 : ∀ x ∈ p0, x.block < W.heap.size := by obtain ⟨m, hm⟩ := k0; exact DataW.trod_lt m _ _ _ hm
  obtain ⟨z0, hv0, hm0⟩ := open_byteS h0 rfl
  clear hA0 hval0
  refine (walk _ z0 W hv0 hm0).mono fun e W' ⟨he, bel⟩ => ?_
  subst he
  exact ⟨_, rfl, _, _, _, [], _, [], hW', trodAll_mk1 (shut_bool Try.underlying4 _), (trodAll_cons_mk (Below.trod laidOut (by kernel_rfl) (of_decide_eq_true (by kernel_rfl)) k0 bel lt0) trodAll_mk0), rfl, bel.frame _, fun h => by cases h⟩

theorem over : Rows.fnDirectRow.holds Try.pinned (OpenSpec.ofChange Rows.fnDirectSpec) :=
  OpenClaim.holds_of_wide 7 Try.f7 rfl rfl rfl rfl rfl rfl rfl ⟨rfl, rfl, rfl, rfl, rfl⟩ rfl rfl rfl rfl rfl (by kernel_rfl) Try.func7 (by kernel_rfl)
    (of_decide_eq_true (by kernel_rfl)) (by unfold Func.isWrapper; first | (rw [if_pos (by decide +kernel)]; kernel_rfl) | (rw [if_neg (by decide +kernel)]; exact ⟨rfl, rfl⟩))
    (fun os started H enc _ => lifted os started H enc)

theorem proved : Rows.FnDirectSaid := over
#print axioms proved
end Go.Proofs.Ytfdaaeapfeajjaa.lawFnDirect
