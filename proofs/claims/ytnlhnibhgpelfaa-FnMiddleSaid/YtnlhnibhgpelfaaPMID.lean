/- The law FnMiddle holds at every input. No condition. -/
import Derived.Test.YtnlhnibhgpelfaaRM
import Derived.Test.YtnlhnibhgpelfaaDT
namespace Go.Proofs.Ytnlhnibhgpelfaa.lawFnMiddle
open Go.ChangeShapes Go.WideShapes Go.ChangeAt Go.RowKit
set_option linter.unusedVariables false

def MidORel (n : Int) (w : World) (iv : Value) (wr : World) : Prop := ∃ i : Nat, (i : Int) ≤ n ∧ iv = .int .i64 i ∧ Below w.heap.size w wr
def MidIRel (n : Int) (d : Int → Int) (w : World) (mv iv : Value) (wr : World) : Prop := ∃ i : Nat, (i : Int) ≤ n ∧ iv = .int .i64 i ∧ mv = .int .i64 (mostTo d i) ∧ Below w.heap.size w wr

set_option maxRecDepth 100000 in
set_option maxHeartbeats 2000000 in
theorem walk (v : Value) (l : List Int) (w : World) (hv : BytesIn w v l) (hm : l.length ≤ maxLen) :
    Calls Try.prog 11 #[v] w fun e w' => e = .returned (.bool true) ∧ Below w.heap.size w w' := by
  have Hv := Lib.hid hv
  obtain ⟨av, cv, rfl, hcv, _, _⟩ := hv
  clear hcv
  by_cases hl : l.length ≤ 1048576
  · have hl' : ¬ (1048576 : Int) < (l.length : Int) := by omega
    go_enter Try.func11, Try.ntmps11
    go_wp2_with fail
    refine (drawMid_any _ l _ Hv.out hl).mono ?_; rintro e w1 ⟨n, ad, cap, xs, rfl, hn2, hn6, hcap, h11, hbd, hown, hblk, hb⟩
    have Hx1 := Lib.hid (hown.ins hcap).roads
    have HB1 := Lib.hid hb
    have hx : xs.length ≤ 1048576 := by omega
    have Hwf := Lib.hid hbd.wf
    clear hown hblk hb hbd
    cases hw : wholeOf n xs with
    | false =>
      have He := Lib.hid (show midVal n xs = .tuple #[.int .i64 0, .int .i64 0, .bool false] from if_neg (by rw [hw]; simp)); clear hw
      go_wp2_with fail
      refine (middle2_any n _ xs _ Hx1.out hx Hwf.out).mono ?_; rintro e w2 ⟨rfl, hb2⟩
      have Hx2 := Lib.hid (Hx1.out.below hb2)
      have HB2 := Lib.hid (HB1.out.trans (hb2.mono HB1.out.size))
      clear hb2
      rw [He.out]
      go_wp2_with fail
      refine (specMiddle_any n _ xs _ Hx2.out hx).mono ?_; rintro e w3 ⟨rfl, hb3⟩
      have HB3 := Lib.hid (HB2.out.trans (hb3.mono HB2.out.size))
      clear hb3
      rw [He.out]
      go_wp2
      go_ret
      exact ⟨rfl, HB3.out⟩
    | true =>
      have He := Lib.hid (show midVal n xs = .tuple #[.int .i64 ((bestTo (mostN n xs) n.toNat : Nat) : Int), .int .i64 (mostN n xs (bestTo (mostN n xs) n.toNat)), .bool true] from if_pos hw)
      have hlaw := mid_law hw (by omega)
      have Hmost := Lib.hid (show ∀ a : Nat, mostN n xs a = mostTo (dst xs a) n.toNat from fun a => by unfold mostN mostOf; rfl)
      clear hw
      generalize bestTo (mostN n xs) n.toNat = B at *
      generalize hgot : mostN n xs B = got at *
      have Hgot := Lib.hid hgot; clear hgot
      obtain ⟨hBn, hg0, hg1, hfar, hmin, hfirst⟩ := hlaw
      have Hfar := Lib.hid hfar; have Hmin := Lib.hid hmin; have Hfirst := Lib.hid hfirst
      clear hfar hmin hfirst
      have hq : (got != got) = false := by simp
      have hq2 : (((B : Nat) : Int) != ((B : Nat) : Int)) = false := by simp
      have hmul : wrap64 (2 * got) = 2 * got := by unfold wrap64; omega
      go_wp2_with fail
      refine (middle2_any n _ xs _ Hx1.out hx Hwf.out).mono ?_; rintro e w2 ⟨rfl, hb2⟩
      have Hx2 := Lib.hid (Hx1.out.below hb2)
      have HB2 := Lib.hid (HB1.out.trans (hb2.mono HB1.out.size))
      clear hb2
      rw [He.out]
      go_wp2_with fail
      refine (specMiddle_any n _ xs _ Hx2.out hx).mono ?_; rintro e w3 ⟨rfl, hb3⟩
      have Hx3 := Lib.hid (Hx2.out.below hb3)
      have HB3 := Lib.hid (HB2.out.trans (hb3.mono HB2.out.size))
      clear hb3
      rw [He.out]
      go_wp2
      go_loopw [11] (fun iv wr => MidORel n w3 iv wr) (fun i _ => 20 - (intOf i).toNat)
      case atStart => exact ⟨0, by omega, rfl, Below.refl _ _⟩
      case round =>
        obtain ⟨a, han, rfl, hbel⟩ := hrel
        have HBw := Lib.hid hbel
        have Hxw := Lib.hid (Hx3.out.below hbel)
        clear hbel
        by_cases hgo : (a : Int) < n
        · go_wp2
          go_loopw [12, 13] (fun mv iv wr2 => MidIRel n (dst xs a) wr mv iv wr2) (fun _ i _ => 20 - (intOf i).toNat)
          case atStart => exact ⟨0, by omega, rfl, rfl, Below.refl _ _⟩
          case round =>
            obtain ⟨b, hbn, rfl, rfl, hbel2⟩ := hrel
            have HBv := Lib.hid hbel2
            have Hxv := Lib.hid (Hxw.out.below hbel2)
            clear hbel2
            by_cases hgo2 : (b : Int) < n
            · obtain ⟨f0, f1, f2⟩ := Hfar.out a b hgo hgo2
              have Hs := Lib.hid (show mostTo (dst xs a) (b + 1) = max (mostTo (dst xs a) b) (dst xs a b) from rfl)
              rw [← f1] at Hs
              clear f1
              go_wp2_with fail
              refine (far2_any n _ xs (a : Int) (b : Int) _ Hxv.out hx Hwf.out (by unfold W64; omega) (by unfold W64; omega)).mono ?_; rintro e w5 ⟨rfl, hb5⟩
              have HB5 := Lib.hid (HBv.out.trans (hb5.mono HBv.out.size))
              clear hb5
              generalize farOf n xs a b = f at *
              have c1 : ¬ f < 0 := by omega
              have c2 : ¬ f > 2 * got := by omega
              generalize mostTo (dst xs a) b = m at *
              go_wp2
              exact ⟨⟨b + 1, by omega, by go_num, by rw [Hs.out], HB5.out⟩, by simp [intOf]; omega⟩
            · have hbn2 : b = n.toNat := by omega
              have Hm := Lib.hid (show mostTo (dst xs a) b = mostN n xs a by rw [hbn2]; exact (Hmost.out a).symm)
              clear hbn2
              rw [Hm.out]
              have m1 := Hmin.out a hgo
              have m2 := Hfirst.out a
              have HBz := Lib.hid (HBw.out.trans (HBv.out.mono HBw.out.size))
              by_cases e : a = B
              · subst e
                rw [Hgot.out]
                clear m1 m2
                have q1 : ((a : Int) == (a : Int)) = true := by simp
                go_wp2
                exact ⟨⟨a + 1, by omega, by go_num, HBz.out⟩, by simp [intOf]; omega⟩
              · have q1 : ((a : Int) == (B : Int)) = false := by simp; omega
                have q2 : ¬ (a : Int) = (B : Int) := by omega
                generalize mostN n xs a = m at *
                have c1 : ¬ m < got := by omega
                by_cases e2 : m = got
                · subst e2
                  have c2 : ¬ (a : Int) < (B : Int) := by intro h; have := m2 (by omega); omega
                  clear m1 m2
                  go_wp2
                  exact ⟨⟨a + 1, by omega, by go_num, HBz.out⟩, by simp [intOf]; omega⟩
                · have q3 : (m == got) = false := by simpa using e2
                  clear m1 m2
                  go_wp2
                  exact ⟨⟨a + 1, by omega, by go_num, HBz.out⟩, by simp [intOf]; omega⟩
        · have hge : n ≤ (a : Int) := by omega
          have HBz := Lib.hid (HB3.out.trans (HBw.out.mono HB3.out.size))
          go_wp2
          go_ret
          exact ⟨rfl, HBz.out⟩
  · have hl' : (1048576 : Int) < (l.length : Int) := by omega
    go_enter Try.func11, Try.ntmps11
    go_wp2
    go_ret
    exact ⟨rfl, Below.refl _ _⟩

set_option maxRecDepth 100000 in
theorem lifted (os : Os) (started : os.Started) (H : Type) (enc : TypeId × Value → H) :
    ReturnsInHanded {} Try.checked os 11 .any (Rows.fnMiddleSpec.pre6 enc Try.prog Try.f11 Rows.fnMiddleRow.domain false) (Rows.fnMiddleSpec.post enc Try.prog Try.f11 false true false false) := by
  refine returnsInHanded_of_change (C := Try.checked) own started (by kernel_rfl) Try.func11
    (ChangeSpec.witness6 (enc := enc) (C := Try.checked) false ⟨#[], #[.slice none 0 0], []⟩ 8 (by kernel_rfl) (by kernel_rfl) (by kernel_rfl) (by kernel_rfl)) ?_
  intro W base args ds gs before hval0 hW hcnd _
  have hval : ∀ (j : Nat) t v, Try.f11.params[j]? = some t → args[j]? = some v → Value.okWide Try.prog W .any base t v := hval0
  have hW' := hW
  obtain ⟨p, q, hA0, hV, rfl, hfz, hnd⟩ := hW
  have hA : DataW.TrodAll enc Try.prog W 0 (fun _ => true) true Try.f11.params.toList args.toList ds p := hA0
  rw [Try.params11] at hA hval
  obtain ⟨v0, vs0, d0, ds0, p0, q0, hargs, rfl, rfl, h0, r0⟩ := trodAll_cons hA
  obtain ⟨rfl, rfl, rfl⟩ := trodAll_nil r0
  obtain rfl : args = #[v0] := by cases args; simp_all
  obtain ⟨rfl, rfl⟩ := trodVars_none hV
  obtain ⟨a0, len0, cap0, rfl⟩ := okWide_slice Try.underlying44 (hval 0 44 v0 rfl rfl)
  have k0 := h0
  have lt0 : ∀ x ∈ p0, x.block < W.heap.size := by obtain ⟨m, hm⟩ := k0; exact DataW.trod_lt m _ _ _ hm
  obtain ⟨z0, hv0, hm0⟩ := open_byteS h0 rfl
  clear hA0 hval0
  refine (walk _ z0 W hv0 hm0).mono fun e W' ⟨he, bel⟩ => ?_
  subst he
  exact ⟨_, rfl, _, _, _, [], _, [], hW', trodAll_mk1 (shut_bool Try.underlying4 _), (trodAll_cons_mk (Below.trod laidOut (by kernel_rfl) (of_decide_eq_true (by kernel_rfl)) k0 bel lt0) trodAll_mk0), rfl, bel.frame _, fun h => by cases h⟩

theorem over : Rows.fnMiddleRow.holds Try.pinned (OpenSpec.ofChange Rows.fnMiddleSpec) :=
  OpenClaim.holds_of_wide 11 Try.f11 rfl rfl rfl rfl rfl rfl rfl ⟨rfl, rfl, rfl, rfl, rfl⟩ rfl rfl rfl rfl rfl (by kernel_rfl) Try.func11 (by kernel_rfl)
    (of_decide_eq_true (by kernel_rfl)) (by unfold Func.isWrapper; first | (rw [if_pos (by decide +kernel)]; kernel_rfl) | (rw [if_neg (by decide +kernel)]; exact ⟨rfl, rfl⟩))
    (fun os started H enc _ => lifted os started H enc)

theorem proved : Rows.FnMiddleSaid := over
#print axioms proved
end Go.Proofs.Ytnlhnibhgpelfaa.lawFnMiddle
