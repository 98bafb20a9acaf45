/- The law FnRoadsWay holds at every input. No condition. -/
import Derived.Test.YtnlhnibhgpelfaaAB
import Derived.Test.YtnlhnibhgpelfaaRW
import Derived.Test.YtnlhnibhgpelfaaSI
import Derived.Test.YtnlhnibhgpelfaaDS
namespace Go.Proofs.Ytnlhnibhgpelfaa.lawFnRoadsWay
open Go.ChangeShapes Go.WideShapes Go.ChangeAt Go.RowKit
set_option linter.unusedVariables false

/-- What a way is that has been found. -/
def WayGot (ys : List Int) (m : Nat) (w : World) (e : Ending) (w' : World) : Prop :=
  ∃ (b cap : Nat), e = .returned (.tuple #[.slice (some ⟨b, 0, none⟩) (m + 1) cap, .bool true]) ∧ m + 1 ≤ cap ∧ w.heap.size ≤ b ∧ b < w'.heap.size ∧ IntAt w' b 0 ys ∧ Below w.heap.size w w'
theorem got_of {ys : List Int} {m : Nat} {w : World} {e : Ending} {w' : World} (hm : ys.length = m + 1) (h : WayOut ys true w e w') : WayGot ys m w e w' := by
  obtain ⟨ad, cap, rfl, hc, ho, hb, hbel⟩ := h
  obtain ⟨b, rfl, hlt, hat, _⟩ := ho (by rintro rfl; simp at hm)
  exact ⟨b, cap, by rw [hm], by omega, (hb b ⟨0, rfl⟩).1, hlt, hat, hbel⟩
theorem wayL_short {n : Int} {l : List Rd} {a b : Int} : (wayOf n l a b).length ≤ 801 := by
  unfold wayOf; split
  · exact wayL_len n l b 800 a
  · simp
theorem nodup_at {ys : List Int} (h : ys.Nodup) {i j : Nat} (hi : i < j) (hj : j < ys.length) : ys.getD j 0 ≠ ys.getD i 0 := by
  rw [getI ys hj, getI ys (by omega)]
  intro e
  have := (List.getElem_inj h).1 e
  omega
theorem last_at : ∀ (a : Int) (r : List Int), (a :: r).getLastD 0 = (a :: r).getD r.length 0
  | a, [] => rfl
  | a, x :: s => by
    rw [List.getLastD_cons, last_at' x s a]
    simp
where last_at' : ∀ (x : Int) (s : List Int) (d : Int), (x :: s).getLastD d = (x :: s).getD s.length 0
  | x, [], d => rfl
  | x, y :: s, d => by
    rw [List.getLastD_cons, last_at' y s x]
    simp

def RwRel (m : Nat) (w : World) (iv : Value) (wr : World) : Prop := ∃ i : Nat, i ≤ m + 1 ∧ iv = .int .i64 i ∧ Below w.heap.size w wr
def RwIRel (i : Nat) (w : World) (kv : Value) (wr : World) : Prop := ∃ k : Nat, k ≤ i ∧ kv = .int .i64 k ∧ Below w.heap.size w wr

set_option maxRecDepth 100000 in
set_option maxHeartbeats 2000000 in
theorem walk (v : Value) (l : List Int) (w : World) (hv : BytesIn w v l) (hm : l.length ≤ maxLen) :
    Calls Try.prog 9 #[v] w fun e w' => e = .returned (.bool true) ∧ Below w.heap.size w w' := by
  have Hv := Lib.hid hv
  obtain ⟨av, cv, rfl, hcv, _, _⟩ := hv
  clear hcv
  by_cases hl : l.length ≤ 1048576
  · have hl' : ¬ (1048576 : Int) < (l.length : Int) := by omega
    go_enter Try.func9, Try.ntmps9
    go_wp2_with fail
    refine (drawWayR_any _ l _ Hv.out hl).mono ?_; rintro e w1 ⟨n, ad, cap, xs, a, b, rfl, hn2, hn6, hcap, h11, hbd, ha0, ha1, hb0, hb1, hown, hblk, hb⟩
    have Hx1 := Lib.hid (hown.ins hcap).roads
    have HB1 := Lib.hid hb
    have hx : xs.length ≤ 1048576 := by omega
    have Hwf := Lib.hid hbd.wf
    clear hown hblk hb hbd
    have HW2 := Lib.hid (fun (x : Int) (hx0 : -1000 ≤ x ∧ x ≤ 1000) w' (h : RoadsIn w' (.slice ad xs.length cap) xs) => way2_any n _ xs x b w' h hx Hwf.out (by unfold W64; omega) (by unfold W64; omega))
    have HW1 := Lib.hid (fun w' (h : RoadsIn w' (.slice ad xs.length cap) xs) => specWay_any n _ xs a b w' h hx)
    have HF := Lib.hid (fun w' (h : RoadsIn w' (.slice ad xs.length cap) xs) => far2_any n _ xs a b w' h hx Hwf.out (by unfold W64; omega) (by unfold W64; omega))
    have HLn := Lib.hid (fun (u : Value) (ys : List Int) w' (h : RoadsIn w' (.slice ad xs.length cap) xs) (hu : IntsIn w' u ys) (h1 : ys.length ≤ 1048576) (h2 : IntWf ys) => wlen2_any n _ xs u ys w' h hx Hwf.out hu h1 h2)
    cases hok : wayOk n xs a b with
    | false =>
      have hws : wayOf n xs a b = [] := if_neg (by rw [hok]; simp)
      have HA := Lib.hid (fun w' h => HW2.out a (by omega) w' h)
      rw [hws, hok] at HA HW1
      clear hws hok
      go_wp2_with fail
      refine (HA.out _ Hx1.out).mono ?_; rintro e w2 ⟨ad2, cap2, rfl, hc2, ho2, _, hb2⟩
      have Hx2 := Lib.hid (Hx1.out.below hb2)
      have HB2 := Lib.hid (HB1.out.trans (hb2.mono HB1.out.size))
      have HI2 := Lib.hid (ho2.ints hc2)
      clear hb2 hc2 ho2
      go_wp2_with fail
      refine (HW1.out _ Hx2.out).mono ?_; rintro e w3 ⟨ad3, cap3, rfl, hc3, ho3, _, hb3⟩
      have HB3 := Lib.hid (HB2.out.trans (hb3.mono HB2.out.size))
      have HI3 := Lib.hid (HI2.out.below hb3)
      have HJ3 := Lib.hid (ho3.ints hc3)
      clear hb3 hc3 ho3
      go_wp2_with fail
      refine (sameInts_any _ _ [] [] _ HI3.out HJ3.out (by simp)).mono ?_; rintro e w4 ⟨⟨x, rfl, hx4⟩, hb4⟩
      obtain rfl : x = true := hx4.2 rfl
      have HB4 := Lib.hid (HB3.out.trans (hb4.mono HB3.out.size))
      have HI4 := Lib.hid (HI3.out.below hb4)
      have HJ4 := Lib.hid (HJ3.out.below hb4)
      clear hb4 hx4
      go_wp2_with fail
      refine (sameInts_any _ _ [] [] _ HI4.out HJ4.out (by simp)).mono ?_; rintro e w5 ⟨⟨x, rfl, hx5⟩, hb5⟩
      obtain rfl : x = true := hx5.2 rfl
      have HB5 := Lib.hid (HB4.out.trans (hb5.mono HB4.out.size))
      clear hb5 hx5
      go_wp2
      go_ret
      exact ⟨rfl, HB5.out⟩
    | true =>
      obtain ⟨r, ew, nd, hlen, hlast, hab, htail, hr0, hin, hbn⟩ := way_law hok
      have hsh := wayL_short (n := n) (l := xs) (a := a) (b := b)
      rw [ew] at hsh
      have HA := Lib.hid (fun w' h => (HW2.out a (by omega) w' h))
      rw [ew, hok] at HA HW1
      have HT := Lib.hid htail
      have HL2 := Lib.hid (fun u w' h hu => HLn.out u (a :: r) w' h hu (by omega) (fun x hx => by have := hin x hx; unfold W64; omega))
      rw [hlen] at HL2
      have HX := Lib.hid (And.intro hr0 hab)
      rw [last_at] at hlast
      have Hnd := Lib.hid nd; have Hin := Lib.hid hin
      clear hok ew htail hlen nd hin hab hr0
      generalize farOf n xs a b = f at *
      obtain ⟨m, hrm⟩ : ∃ m, r.length = m := ⟨_, rfl⟩
      rw [hrm] at hlast
      have hym : (a :: r).length = m + 1 := by simp [hrm]
      have HA2 := Lib.hid (fun w' h => (HA.out w' h).mono fun e w2 h2 => got_of hym h2)
      have HA1 := Lib.hid (fun w' h => (HW1.out w' h).mono fun e w2 h2 => got_of hym h2)
      have H0 := Lib.hid (show (a :: r).getD 0 0 = a from rfl)
      have Hlast := Lib.hid hlast
      have hm8 : m ≤ 800 := by simp at hsh; omega
      have Hr := Lib.hid (show ∀ i, (a :: r).getD (i + 1) 0 = r.getD i 0 from fun i => by simp)
      have Hym := Lib.hid hym; have Hrm := Lib.hid hrm
      clear hsh hlast hym hrm HA HW1
      obtain ⟨ys, hys⟩ : ∃ ys, a :: r = ys := ⟨_, rfl⟩
      rw [hys] at HA2 HA1 H0 Hlast Hr Hym Hnd Hin HL2
      have Hys := Lib.hid hys; clear hys
      have hq : (f != f) = false := by simp
      go_wp2_with fail
      refine (HA2.out _ Hx1.out).mono ?_; rintro e w2 ⟨b0, cap2, rfl, hc2, hg2, hlt2, hat2, hb2⟩
      have Hx2 := Lib.hid (Hx1.out.below hb2)
      have HB2 := Lib.hid (HB1.out.trans (hb2.mono HB1.out.size))
      have HI2 := Lib.hid (show IntsIn w2 (.slice (some ⟨b0, 0, none⟩) (m + 1) cap2) ys by have h := IntsIn.row (cap := cap2) hlt2 (by rw [Hym.out]; exact hc2) hat2; rw [Hym.out] at h; exact h)
      clear hb2 hg2
      go_wp2_with fail
      refine (HA1.out _ Hx2.out).mono ?_; rintro e w3 ⟨b1, cap3, rfl, hc3, hg3, hlt3, hat3, hb3⟩
      have Hx3 := Lib.hid (Hx2.out.below hb3)
      have HB3 := Lib.hid (HB2.out.trans (hb3.mono HB2.out.size))
      have HI3 := Lib.hid (HI2.out.below hb3)
      have HJ3 := Lib.hid (show IntsIn w3 (.slice (some ⟨b1, 0, none⟩) (m + 1) cap3) ys by have h := IntsIn.row (cap := cap3) hlt3 (by rw [Hym.out]; exact hc3) hat3; rw [Hym.out] at h; exact h)
      have HT3 := Lib.hid (hat2.below hb3 hlt2)
      have hlt3' := Nat.lt_of_lt_of_le hlt2 hb3.size
      clear hb3 hg3 hat3 hat2 hlt2 hlt3
      go_wp2_with fail
      refine (sameInts_any _ _ ys ys _ HI3.out HJ3.out (by rw [Hym.out]; omega)).mono ?_; rintro e w4 ⟨⟨x, rfl, hx4⟩, hb4⟩
      obtain rfl : x = true := hx4.2 rfl
      have Hx4 := Lib.hid (Hx3.out.below hb4)
      have HB4 := Lib.hid (HB3.out.trans (hb4.mono HB3.out.size))
      have HT4 := Lib.hid (HT3.out.below hb4 hlt3')
      have HI4 := Lib.hid (HI3.out.below hb4)
      have hlt4 := Nat.lt_of_lt_of_le hlt3' hb4.size
      clear hb4 hx4 hlt3'
      go_wp2
      go_loopw [11] (fun iv wr => RwRel m w4 iv wr) (fun i _ => m + 1 - (intOf i).toNat)
      case atStart => exact ⟨0, by omega, rfl, Below.refl _ _⟩
      case round =>
        obtain ⟨i, him, rfl, hbel⟩ := hrel
        have HBw := Lib.hid hbel
        clear hbel
        by_cases hgo : i < m + 1
        · have hgo' : (i : Int) < (m : Int) + 1 := by omega
          go_wp2
          go_loopw [12] (fun kv wr2 => RwIRel i wr kv wr2) (fun k _ => i - (intOf k).toNat)
          case atStart => exact ⟨0, Nat.zero_le _, rfl, Below.refl _ _⟩
          case round =>
            obtain ⟨k, hki, rfl, hbel2⟩ := hrel
            have HBv := Lib.hid hbel2
            clear hbel2
            have HBz := Lib.hid (HBw.out.trans (HBv.out.mono HBw.out.size))
            by_cases hgo2 : k < i
            · have hgo2' : (k : Int) < (i : Int) := by omega
              have c1 := (HT4.out.below HBz.out hlt4) i (by rw [Hym.out]; exact hgo)
              have c2 := (HT4.out.below HBz.out hlt4) k (by rw [Hym.out]; omega)
              rw [Nat.zero_add] at c1 c2
              have hne := nodup_at Hnd.out hgo2 (by rw [Hym.out]; exact hgo)
              generalize ys.getD i 0 = y at *
              generalize ys.getD k 0 = z at *
              have hq2 : (y == z) = false := by simpa using hne
              have i0 : (0 : Int) ≤ (i : Int) := Int.natCast_nonneg _
              have k0 : (0 : Int) ≤ (k : Int) := Int.natCast_nonneg _
              have k1 : (k : Int) < (m : Int) + 1 := by omega
              clear hne
              go_wp2
              go_quiet (fail)
              go_wp2
              exact ⟨⟨k + 1, hgo2, by go_num, HBv.out.drewN _⟩, by simp [intOf]; omega⟩
            · have hnk : ¬ (k : Int) < (i : Int) := by omega
              go_wp2
              exact ⟨⟨i + 1, hgo, by go_num, HBz.out⟩, by simp [intOf]; omega⟩
        · have hng : ¬ (i : Int) < (m : Int) + 1 := by omega
          have HB5 := Lib.hid (HB4.out.trans (HBw.out.mono HB4.out.size))
          have Hx5 := Lib.hid (Hx4.out.below HBw.out)
          have HI5 := Lib.hid (HI4.out.below HBw.out)
          have HT5 := Lib.hid (HT4.out.below HBw.out hlt4)
          have hlt5 := Nat.lt_of_lt_of_le hlt4 HBw.out.size
          go_wp2_with fail
          refine (HL2.out _ _ Hx5.out HI5.out).mono ?_; rintro e w6 ⟨rfl, hb6⟩
          have HB6 := Lib.hid (HB5.out.trans (hb6.mono HB5.out.size))
          have Hx6 := Lib.hid (Hx5.out.below hb6)
          have HT6 := Lib.hid (HT5.out.below hb6 hlt5)
          have hlt6 := Nat.lt_of_lt_of_le hlt5 hb6.size
          clear hb6
          go_wp2_with fail
          refine (HF.out _ Hx6.out).mono ?_; rintro e w7 ⟨rfl, hb7⟩
          have HB7 := Lib.hid (HB6.out.trans (hb7.mono HB6.out.size))
          have Hx7 := Lib.hid (Hx6.out.below hb7)
          have hat7 := HT6.out.below hb7 hlt6
          have hlt7 := Nat.lt_of_lt_of_le hlt6 hb7.size
          clear hb7
          have c0 := hat7 0 (by rw [Hym.out]; omega)
          have cm := hat7 m (by rw [Hym.out]; omega)
          rw [H0.out, Nat.zero_add] at c0
          rw [Hlast.out, Nat.zero_add] at cm
          have m0 : (0 : Int) ≤ (m : Int) := Int.natCast_nonneg _
          by_cases hm0 : m = 0
          · have hab : a = b := HX.out.1 (List.eq_nil_of_length_eq_zero (by rw [Hrm.out]; exact hm0))
            subst hm0
            subst hab
            have qaa : (a == a) = true := by simp
            clear hat7
            go_wp2
            go_ret
            exact ⟨ret_bool (by first | rfl | (simp; done)), HB7.out⟩
          · obtain ⟨k, rfl⟩ : ∃ k, m = k + 1 := ⟨m - 1, by omega⟩
            have cx := hat7 1 (by rw [Hym.out]; omega)
            rw [Nat.zero_add, Hr.out 0] at cx
            have HIr := Lib.hid (show IntAt w7 b0 1 r from fun i hi => by
              have h := hat7 (i + 1) (by rw [Hym.out]; have := Hrm.out; omega)
              rw [Hr.out i] at h
              rw [show 1 + i = 0 + (i + 1) by omega]
              exact h)
            obtain ⟨x, s, hxs⟩ : ∃ x s, r = x :: s := by
              cases hr : r with
              | nil => have := Hrm.out; rw [hr] at this; simp at this
              | cons x s => exact ⟨x, s, rfl⟩
            have hxin := Hin.out x (by rw [← Hys.out, hxs]; simp)
            have e1 : r.getD 0 0 = x := by rw [hxs]; rfl
            rw [e1] at cx
            obtain ⟨t1, t2⟩ := HT.out x s hxs
            have HR := Lib.hid (fun w' h => HW2.out x (by omega) w' h)
            rw [t2, t1] at HR
            have hnm : ((((k + 1 : Nat) : Int) + 1) == 1) = false := by simp; omega
            have hsl : ∀ wx, (Instr.slice 37 (.slice (some ⟨b0, 0, none⟩) (k + 1 + 1) cap2) (some (.int .i64 1)) none none).run Try.prog wx = .ok (.slice (some ⟨b0, 1, none⟩) (k + 1) (cap2 - 1)) wx := fun wx => by
              rw [run_slice_l wx 37 (some ⟨b0, 0, none⟩) (k + 1 + 1) cap2 rfl .i64 1 (by omega) (by omega)]
              show (Result.ok (sliced (some ⟨b0, 0, none⟩) 1 (k + 1 + 1) cap2 1) wx) = _
              unfold sliced
              rw [if_neg (by omega)]
              simp [Addr.add]
            have hcap1 : ¬ cap2 = 1 := by omega
            clear e1 t1 t2 hat7 hxs
            go_wp2_with fail
            refine (HR.out _ Hx7.out).mono ?_; rintro e w8 ⟨ad8, cap8, rfl, hc8, ho8, _, hb8⟩
            have HB8 := Lib.hid (HB7.out.trans (hb8.mono HB7.out.size))
            have HI8 := Lib.hid (ho8.ints hc8)
            have HJ8 := Lib.hid (show IntsIn w8 (.slice (some ⟨b0, 1, none⟩) (k + 1) (cap2 - 1)) r from ⟨some ⟨b0, 1, none⟩, cap2 - 1, by rw [Hrm.out], by rw [Hrm.out]; omega, fun _ => ⟨b0, 1, rfl, Nat.lt_of_lt_of_le hlt7 hb8.size, HIr.out.below hb8 hlt7⟩⟩)
            clear hc8 ho8 hb8
            go_wp2_with fail
            refine (sameInts_any _ _ r r _ HI8.out HJ8.out (by rw [Hrm.out]; omega)).mono ?_; rintro e w9 ⟨⟨z, rfl, hz9⟩, hb9⟩
            obtain rfl : z = true := hz9.2 rfl
            have HB9 := Lib.hid (HB8.out.trans (hb9.mono HB8.out.size))
            clear hb9 hz9
            go_wp2
            go_ret
            exact ⟨rfl, HB9.out⟩
  · have hl' : (1048576 : Int) < (l.length : Int) := by omega
    go_enter Try.func9, Try.ntmps9
    go_wp2
    go_ret
    exact ⟨rfl, Below.refl _ _⟩

set_option maxRecDepth 100000 in
theorem lifted (os : Os) (started : os.Started) (H : Type) (enc : TypeId × Value → H) :
    ReturnsInHanded {} Try.checked os 9 .any (Rows.fnRoadsWaySpec.pre6 enc Try.prog Try.f9 Rows.fnRoadsWayRow.domain false) (Rows.fnRoadsWaySpec.post enc Try.prog Try.f9 false true false false) := by
  refine returnsInHanded_of_change (C := Try.checked) own started (by kernel_rfl) Try.func9
    (ChangeSpec.witness6 (enc := enc) (C := Try.checked) false ⟨#[], #[.slice none 0 0], []⟩ 8 (by kernel_rfl) (by kernel_rfl) (by kernel_rfl) (by kernel_rfl)) ?_
  intro W base args ds gs before hval0 hW hcnd _
  have hval : ∀ (j : Nat) t v, Try.f9.params[j]? = some t → args[j]? = some v → Value.okWide Try.prog W .any base t v := hval0
  have hW' := hW
  obtain ⟨p, q, hA0, hV, rfl, hfz, hnd⟩ := hW
  have hA : DataW.TrodAll enc Try.prog W 0 (fun _ => true) true Try.f9.params.toList args.toList ds p := hA0
  rw [Try.params9] at hA hval
  obtain ⟨v0, vs0, d0, ds0, p0, q0, hargs, rfl, rfl, h0, r0⟩ := trodAll_cons hA
  obtain ⟨rfl, rfl, rfl⟩ := trodAll_nil r0
  obtain rfl : args = #[v0] := by cases args; simp_all
  obtain ⟨rfl, rfl⟩ := trodVars_none hV
  obtain ⟨a0, len0, cap0, rfl⟩ := okWide_slice Try.underlying44 (hval 0 44 v0 rfl rfl)
  have k0 := h0
  have lt0 : ∀ x ∈ p0, x.block < W.heap.size := by obtain ⟨m, hm⟩ := k0; exact DataW.trod_lt m _ _ _ hm
  obtain ⟨z0, hv0, hm0⟩ := open_byteS h0 rfl
  clear hA0 hval0
  refine (walk _ z0 W hv0 hm0).mono fun e W' ⟨he, bel⟩ => ?_
  subst he
  exact ⟨_, rfl, _, _, _, [], _, [], hW', trodAll_mk1 (shut_bool Try.underlying4 _), (trodAll_cons_mk (Below.trod laidOut (by kernel_rfl) (of_decide_eq_true (by kernel_rfl)) k0 bel lt0) trodAll_mk0), rfl, bel.frame _, fun h => by cases h⟩

theorem over : Rows.fnRoadsWayRow.holds Try.pinned (OpenSpec.ofChange Rows.fnRoadsWaySpec) :=
  OpenClaim.holds_of_wide 9 Try.f9 rfl rfl rfl rfl rfl rfl rfl ⟨rfl, rfl, rfl, rfl, rfl⟩ rfl rfl rfl rfl rfl (by kernel_rfl) Try.func9 (by kernel_rfl)
    (of_decide_eq_true (by kernel_rfl)) (by unfold Func.isWrapper; first | (rw [if_pos (by decide +kernel)]; kernel_rfl) | (rw [if_neg (by decide +kernel)]; exact ⟨rfl, rfl⟩))
    (fun os started H enc _ => lifted os started H enc)

theorem proved : Rows.FnRoadsWaySaid := over
#print axioms proved
end Go.Proofs.Ytnlhnibhgpelfaa.lawFnRoadsWay
