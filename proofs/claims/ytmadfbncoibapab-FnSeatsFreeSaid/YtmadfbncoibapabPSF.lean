/- The law FnSeatsFree holds at every input. No condition. -/
import Derived.Test.YtmadfbncoibapabDBF
import Derived.Test.YtmadfbncoibapabEFL
import Derived.Test.YtmadfbncoibapabEQ
import Derived.Test.YtmadfbncoibapabEN
import Derived.Test.YtmadfbncoibapabEBI
namespace Go.Proofs.Ytmadfbncoibapab.lawFnSeatsFree
open Go.ChangeShapes Go.WideShapes Go.ChangeAt Go.RowKit
set_option linter.unusedVariables false

set_option maxRecDepth 100000 in
set_option maxHeartbeats 4000000 in
theorem walk (v : Value) (l : List Int) (v' : Value) (l' : List Int) (w : World) (hv : BytesIn w v l) (hm : l.length ≤ maxLen) (hv' : BytesIn w v' l') (hm' : l'.length ≤ maxLen) :
    Calls Try.prog 3 #[v, v'] w fun e w' => e = .returned (.bool true) ∧ Below w.heap.size w w' := by
  have Hv := Lib.hid hv
  obtain ⟨av, cv, rfl, hcv, _, _⟩ := hv
  obtain ⟨av', cv', rfl, hcv', _, _⟩ := hv'
  clear hcv hcv'
  by_cases hl : l.length ≤ 1048576
  · have hl' : ¬ (1048576 : Int) < (l.length : Int) := by omega
    by_cases hk : l'.length ≤ 1048576
    · have hk' : ¬ (1048576 : Int) < (l'.length : Int) := by omega
      go_enter Try.func3, Try.ntmps3
      go_wp2_with fail
      refine (drawFree_any _ l _ Hv.out hl).mono ?_; rintro e w1 ⟨n, ad, cap, xs, x, y, m, rfl, hn1, hn6, hcap, h12, hx0, hx6, hy0, hy13, hown, hb⟩
      have Hx1 := Lib.hid (hown.ins hcap)
      have HB1 := Lib.hid hb
      have hx : xs.length ≤ 1048576 := by omega
      have wn : W64 n := by unfold W64; omega
      have wx : W64 x := by unfold W64; omega
      clear hown hb
      have H2 := Lib.hid (fun (b : Int) w' (h : BkIn w' (.slice (some ad) xs.length cap) xs) => seatsFree2_any n _ xs x b m w' h hx)
      have H1 := Lib.hid (fun w' (h : BkIn w' (.slice (some ad) xs.length cap) xs) => (seatsFree1_any n _ xs x y m w' wn wx h hx).gives)
      by_cases hneg : freeV n xs x y m < 0
      · go_wp2_with fail
        refine (H2.out y _ Hx1.out).mono ?_; rintro e w2 ⟨rfl, hb2⟩
        have Hx2 := Lib.hid (Hx1.out.below hb2)
        have HB2 := Lib.hid (HB1.out.trans (hb2.mono HB1.out.size))
        clear hb2
        go_wp2_with fail
        refine (H1.out _ Hx2.out).mono ?_; rintro e w3 ⟨rfl, hb3⟩
        have HB3 := Lib.hid (HB2.out.trans (hb3.mono HB2.out.size))
        clear hb3 H1 H2
        generalize freeV n xs x y m = o at *
        have hq : (o != o) = false := by simp
        have hq2 : (o == o) = true := by simp
        go_wp2
        go_ret
        exact ⟨ret_bool (by first | rfl | (simp; done)), HB3.out⟩
      · obtain ⟨hz, hf, he⟩ := freeV_neg hneg
        obtain ⟨f0, f1, f2⟩ := fitsB_iff.1 hf
        simp only at f0 f1 f2
        have hbook := book_free hz hf
        have hle := freeUp_le xs m x.toNat (y - x).toNat
        simp only at hbook
        rw [← he] at hbook hle
        have hafter := fun (h : validB n (xs ++ [⟨x, y, m⟩]) = true) => free_after (r := ⟨x, y, m⟩) hf h
        simp only at hafter
        rw [← he] at hafter
        obtain ⟨t, e1, ht0, ht1⟩ : ∃ t : Int, (l'.length : Int) % (y - x) = t ∧ 0 ≤ t ∧ t < y - x := by
          have h0 := Int.emod_nonneg (l'.length : Int) (show y - x ≠ 0 by omega)
          have h1 := Int.emod_lt_of_pos (l'.length : Int) (show 0 < y - x by omega)
          exact ⟨_, rfl, h0, h1⟩
        have hpart := free_part hz hf (c := x + t + 1) (by omega) (by omega)
        rw [← he] at hpart
        have hs6 := seatsB_le m
        have HBk := Lib.hid (fun w' (h : BkIn w' (.slice (some ad) xs.length cap) xs) => book2_out n ad cap xs ⟨x, y, m⟩ w' h hx)
        have H3 := Lib.hid (fun u (ys : List Bk) w' (h : BkIn w' u ys) (hl : ys.length ≤ 1048576) => seatsFree2_any n u ys x y m w' h hl)
        have hyx : (y : Int) - x ≠ 0 := by omega
        have hyx0 : 0 < y - x := by omega
        have hl0 : (0 : Int) ≤ (l'.length : Int) := Int.natCast_nonneg _
        clear he hz hf
        obtain ⟨q, hq⟩ : ∃ q, freeV n xs x (x + t + 1) m = q := ⟨_, rfl⟩
        have H2q := Lib.hid (fun w' h => H2.out (x + t + 1) w' h)
        rw [hq] at hpart H2q
        have H2o := Lib.hid (fun w' h => H2.out y w' h)
        clear H2 hq
        generalize freeV n xs x y m = o at *
        have hoo : (o != o) = false := by simp
        have h16 : (xs.length : Int) < 16 := by omega
        have h16' : xs.length < 16 := by omega
        go_wp2_with fail
        refine (H2o.out _ Hx1.out).mono ?_; rintro e w2 ⟨rfl, hb2⟩
        have Hx2 := Lib.hid (Hx1.out.below hb2)
        have HB2 := Lib.hid (HB1.out.trans (hb2.mono HB1.out.size))
        clear hb2
        go_wp2_with fail
        refine (H1.out _ Hx2.out).mono ?_; rintro e w3 ⟨rfl, hb3⟩
        have Hx3 := Lib.hid (Hx2.out.below hb3)
        have HB3 := Lib.hid (HB2.out.trans (hb3.mono HB2.out.size))
        clear hb3
        go_wp2_with fail
        refine (HBk.out _ Hx3.out).mono ?_; rintro e w4 ⟨ad4, cap4, rfl, hc4, ho4, _, hb4⟩
        have Hx4 := Lib.hid (Hx3.out.below hb4)
        have HB4 := Lib.hid (HB3.out.trans (hb4.mono HB3.out.size))
        have HY4 := Lib.hid (ho4.ins hc4)
        clear hb4 ho4 hc4
        cases hp : validB n (xs ++ [⟨x, y, m⟩]) with
        | false =>
          have ho0 : ¬ 0 < o := by
            intro h; rw [hp] at hbook; simp [h, h16'] at hbook
          clear hbook hafter hp
          go_wp2_with fail
          refine (H2q.out _ Hx4.out).mono ?_; rintro e w5 ⟨rfl, hb5⟩
          have HB5 := Lib.hid (HB4.out.trans (hb5.mono HB4.out.size))
          clear hb5
          go_wp2_with fail
          refine (seatsOf_any m _).mono ?_; rintro e w6 ⟨rfl, m6, rfl⟩
          have HB6 := Lib.hid (HB5.out.drewN m6)
          go_wp2
          go_ret
          exact ⟨ret_bool (by first | rfl | (simp; omega)), HB6.out⟩
        | true =>
          have ho0 : 0 < o := by
            rw [hp] at hbook; simp at hbook; exact hbook.1
          have haf := hafter hp
          have hys := bookL_yes (r := ⟨x, y, m⟩) hp
          obtain ⟨ys, hy⟩ : ∃ ys, xs ++ [(⟨x, y, m⟩ : Bk)] = ys := ⟨_, rfl⟩
          have HYl := Lib.hid (show ys.length = xs.length + 1 by rw [← hy]; simp)
          rw [hys, hy] at HY4 ⊢
          rw [hy] at haf
          clear hbook hafter hp hys hy
          go_wp2_with fail
          refine (H2q.out _ Hx4.out).mono ?_; rintro e w5 ⟨rfl, hb5⟩
          have HB5 := Lib.hid (HB4.out.trans (hb5.mono HB4.out.size))
          have HY5 := Lib.hid (HY4.out.below hb5)
          clear hb5
          have H3o := Lib.hid (fun w' (h : BkIn w' (.slice ad4 ys.length cap4) ys) => H3.out _ ys w' h (by have := HYl.out; omega))
          rw [haf] at H3o
          clear haf H3
          go_wp2_with fail
          refine (H3o.out _ HY5.out).mono ?_; rintro e w6 ⟨rfl, hb6⟩
          have HB6 := Lib.hid (HB5.out.trans (hb6.mono HB5.out.size))
          clear hb6
          go_wp2_with fail
          refine (seatsOf_any m _).mono ?_; rintro e w7 ⟨rfl, m7, rfl⟩
          have HB7 := Lib.hid (HB6.out.drewN m7)
          go_wp2
          go_ret
          exact ⟨ret_bool (by first | rfl | (simp; omega)), HB7.out⟩
    · have hk' : (1048576 : Int) < (l'.length : Int) := by omega
      go_enter Try.func3, Try.ntmps3
      go_wp2
      go_ret
      exact ⟨rfl, Below.refl _ _⟩
  · have hl' : (1048576 : Int) < (l.length : Int) := by omega
    go_enter Try.func3, Try.ntmps3
    go_wp2
    go_ret
    exact ⟨rfl, Below.refl _ _⟩

set_option maxRecDepth 100000 in
theorem lifted (os : Os) (started : os.Started) (H : Type) (enc : TypeId × Value → H) :
    ReturnsInHanded {} Try.checked os 3 .any (Rows.fnSeatsFreeSpec.pre6 enc Try.prog Try.f3 Rows.fnSeatsFreeRow.domain false) (Rows.fnSeatsFreeSpec.post enc Try.prog Try.f3 false true false false) := by
  refine returnsInHanded_of_change (C := Try.checked) own started (by kernel_rfl) Try.func3
    (ChangeSpec.witness6 (enc := enc) (C := Try.checked) false ⟨#[], #[.slice none 0 0, .slice none 0 0], []⟩ 8 (by kernel_rfl) (by kernel_rfl) (by kernel_rfl) (by kernel_rfl)) ?_
  intro W base args ds gs before hval0 hW hcnd _
  have hval : ∀ (j : Nat) t v, Try.f3.params[j]? = some t → args[j]? = some v → Value.okWide Try.prog W .any base t v := hval0
  have hW' := hW
  obtain ⟨p, q, hA0, hV, rfl, hfz, hnd⟩ := hW
  have hA : DataW.TrodAll enc Try.prog W 0 (fun _ => true) true Try.f3.params.toList args.toList ds p := hA0
  rw [Try.params3] at hA hval
  obtain ⟨v0, vs0, d0, ds0, p0, q0, hargs, rfl, rfl, h0, r0⟩ := trodAll_cons hA
  obtain ⟨v1, vs1, d1, ds1, p1, q1, rfl, rfl, rfl, h1, r1⟩ := trodAll_cons r0
  obtain ⟨rfl, rfl, rfl⟩ := trodAll_nil r1
  obtain rfl : args = #[v0, v1] := by cases args; simp_all
  obtain ⟨rfl, rfl⟩ := trodVars_none hV
  obtain ⟨a0, len0, cap0, rfl⟩ := okWide_slice Try.underlying22 (hval 0 22 v0 rfl rfl)
  have k0 := h0
  have lt0 : ∀ x ∈ p0, x.block < W.heap.size := by obtain ⟨m, hm⟩ := k0; exact DataW.trod_lt m _ _ _ hm
  obtain ⟨z0, hv0, hm0⟩ := open_byteS h0 rfl
  obtain ⟨a1, len1, cap1, rfl⟩ := okWide_slice Try.underlying22 (hval 1 22 v1 rfl rfl)
  have k1 := h1
  have lt1 : ∀ x ∈ p1, x.block < W.heap.size := by obtain ⟨m, hm⟩ := k1; exact DataW.trod_lt m _ _ _ hm
  obtain ⟨z1, hv1, hm1⟩ := open_byteS h1 rfl
  clear hA0 hval0
  refine (walk _ z0 _ z1 W hv0 hm0 hv1 hm1).mono fun e W' ⟨he, bel⟩ => ?_
  subst he
  exact ⟨_, rfl, _, _, _, [], _, [], hW', trodAll_mk1 (shut_bool Try.underlying4 _), (trodAll_cons_mk (Below.trod laidOut (by kernel_rfl) (of_decide_eq_true (by kernel_rfl)) k0 bel lt0) (trodAll_cons_mk (Below.trod laidOut (by kernel_rfl) (of_decide_eq_true (by kernel_rfl)) k1 bel lt1) trodAll_mk0)), rfl, bel.frame _, fun h => by cases h⟩

theorem over : Rows.fnSeatsFreeRow.holds Try.pinned (OpenSpec.ofChange Rows.fnSeatsFreeSpec) :=
  OpenClaim.holds_of_wide 3 Try.f3 rfl rfl rfl rfl rfl rfl rfl ⟨rfl, rfl, rfl, rfl, rfl⟩ rfl rfl rfl rfl rfl (by kernel_rfl) Try.func3 (by kernel_rfl)
    (of_decide_eq_true (by kernel_rfl)) (by unfold Func.isWrapper; first | (rw [if_pos (by decide +kernel)]; kernel_rfl) | (rw [if_neg (by decide +kernel)]; exact ⟨rfl, rfl⟩))
    (fun os started H enc _ => lifted os started H enc)

theorem proved : Rows.FnSeatsFreeSaid := over
#print axioms proved
end Go.Proofs.Ytmadfbncoibapab.lawFnSeatsFree
