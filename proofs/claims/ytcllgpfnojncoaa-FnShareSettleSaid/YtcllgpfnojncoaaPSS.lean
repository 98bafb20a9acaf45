/- The law FnShareSettle holds at every input. No condition. -/
import Derived.Test.YtcllgpfnojncoaaDST
import Derived.Test.YtcllgpfnojncoaaSUF
import Derived.Test.YtcllgpfnojncoaaQT
import Derived.Test.YtcllgpfnojncoaaQP
import Derived.Test.YtcllgpfnojncoaaQ8
import Derived.Test.YtcllgpfnojncoaaSI
namespace Go.Proofs.Ytcllgpfnojncoaa.lawFnShareSettle
open Go.ChangeShapes Go.WideShapes Go.ChangeAt Go.RowKit
set_option linter.unusedVariables false

theorem okIn {ys : List Int} {ok : Bool} {w w' : World} {e : Ending} (h : IntsOk ys ok w e w') : ∃ v, e = .returned (.tuple #[v, .bool ok]) ∧ IntsIn w' v ys ∧ Below w.heap.size w w' := by
  obtain ⟨ad, cap, rfl, hc, ho, _, hb⟩ := h
  exact ⟨_, rfl, ho.ints hc, hb⟩
theorem six {w : World} {v : Value} {t : List Int} (h : IntsIn w v t) (h6 : t.length = 6) : ∃ b o cap, v = .slice (some ⟨b, o, none⟩) 6 cap ∧ b < w.heap.size ∧ IntAt w b o t := by
  obtain ⟨a, cap, rfl, _, ha⟩ := h
  obtain ⟨b, o, rfl, hb, hr⟩ := ha (by rintro rfl; simp at h6)
  exact ⟨b, o, cap, by rw [h6], hb, hr⟩
def SsRel (w : World) (iv : Value) (wr : World) : Prop := ∃ i : Nat, i ≤ 6 ∧ iv = .int .i64 i ∧ Below w.heap.size w wr

set_option maxRecDepth 100000 in
set_option maxHeartbeats 2000000 in
theorem walk (v : Value) (l : List Int) (w : World) (hv : BytesIn w v l) (hm : l.length ≤ maxLen) :
    Calls Try.prog 15 #[v] w fun e w' => e = .returned (.bool true) ∧ Below w.heap.size w w' := by
  have Hv := Lib.hid hv
  obtain ⟨av, cv, rfl, hcv, _, _⟩ := hv
  clear hcv
  by_cases hl : l.length ≤ 1048576
  · have hl' : ¬ (1048576 : Int) < (l.length : Int) := by omega
    go_enter Try.func15, Try.ntmps15
    go_wp2_with fail
    refine (drawShareSettle_any _ l _ Hv.out hl).mono ?_; rintro e w1 ⟨pv, tv, xs, t, rfl, hp, hx8, ht, ht6, hb⟩
    have Hx1 := Lib.hid hp
    have Ht1 := Lib.hid ht
    have HB1 := Lib.hid hb
    have hx : xs.length ≤ 1048576 := by omega
    have ht' : t.length ≤ 1048576 := by omega
    clear hp ht hb hx8
    have H2 := Lib.hid (fun w' (h : PtIn w' pv xs) (h' : IntsIn w' tv t) => settle2_any pv tv xs t w' h h' hx)
    have H1 := Lib.hid (fun w' (h : PtIn w' pv xs) (h' : IntsIn w' tv t) => settle1_any pv tv xs t w' h h' hx ht')
    cases hok : setOk xs t with
    | false =>
      have hno : setX xs t = [] := by unfold setX; rw [if_no hok]
      rw [hno, hok] at H2 H1
      clear hok hno
      go_wp2_with fail
      refine (H2.out _ Hx1.out Ht1.out).mono ?_; intro e w2 h2
      obtain ⟨v2, rfl, hi2, hb2⟩ := okIn h2
      have Hx2 := Lib.hid (Hx1.out.below hb2)
      have Ht2 := Lib.hid (Ht1.out.below hb2)
      have HB2 := Lib.hid (HB1.out.trans (hb2.mono HB1.out.size))
      have HI2 := Lib.hid hi2
      clear hb2 hi2 h2
      go_wp2_with fail
      refine (H1.out _ Hx2.out Ht2.out).mono ?_; intro e w3 h3
      obtain ⟨v3, rfl, hi3, hb3⟩ := okIn h3
      have HB3 := Lib.hid (HB2.out.trans (hb3.mono HB2.out.size))
      have HI3 := Lib.hid (HI2.out.below hb3)
      have HJ3 := Lib.hid hi3
      clear hb3 hi3 h3
      go_wp2_with fail
      refine (sameInts_any _ _ [] [] _ HI3.out HJ3.out (by simp)).mono ?_; rintro e w4 ⟨⟨x, rfl, hx4⟩, hb4⟩
      obtain rfl : x = true := hx4.2 rfl
      have HB4 := Lib.hid (HB3.out.trans (hb4.mono HB3.out.size))
      have HI4 := Lib.hid (HI3.out.below hb4)
      have HJ4 := Lib.hid (HJ3.out.below hb4)
      clear hb4 hx4
      go_wp2_with fail
      refine (sameInts_any _ _ [] [] _ HI4.out HJ4.out (by simp)).mono ?_; rintro e w5 ⟨⟨x, rfl, hx5⟩, hb5⟩
      obtain rfl : x = true := hx5.2 rfl
      have HB5 := Lib.hid (HB4.out.trans (hb5.mono HB4.out.size))
      clear hb5 hx5
      go_wp2
      go_ret
      exact ⟨rfl, HB5.out⟩
    | true =>
      obtain ⟨sh, F⟩ := set_facts hok
      have hly := F.lx
      have hls := F.lsh
      have hlz := F.lz
      have hlt6 := F.lt
      have H5 := Lib.hid (fun w' (h : PtIn w' pv xs) => make2_any pv xs t.sum w' h hx)
      have H6 := Lib.hid (fun u w' (h : PtIn w' pv xs) (h' : IntsIn w' u sh) => settle2_any pv u xs sh w' h h' hx)
      rw [F.make, F.mok] at H5
      rw [F.sok] at H6
      rw [hok] at H2 H1
      have Fa := Lib.hid F.at_; have Fs := Lib.hid F.sum; have Fz := Lib.hid F.zero; have Ft := Lib.hid F.tb; have Fx := Lib.hid F.xb
      clear hok F
      generalize setX xs t = ys at *
      generalize setX xs sh = zs at *
      go_wp2_with fail
      refine (H2.out _ Hx1.out Ht1.out).mono ?_; intro e w2 h2
      obtain ⟨v2, rfl, hi2, hb2⟩ := okIn h2
      have Hx2 := Lib.hid (Hx1.out.below hb2)
      have Ht2 := Lib.hid (Ht1.out.below hb2)
      have HB2 := Lib.hid (HB1.out.trans (hb2.mono HB1.out.size))
      have HI2 := Lib.hid hi2
      clear hb2 hi2 h2
      go_wp2_with fail
      refine (H1.out _ Hx2.out Ht2.out).mono ?_; intro e w3 h3
      obtain ⟨v3, rfl, hi3, hb3⟩ := okIn h3
      have HB3 := Lib.hid (HB2.out.trans (hb3.mono HB2.out.size))
      have Hx3 := Lib.hid (Hx2.out.below hb3)
      have Ht3 := Lib.hid (Ht2.out.below hb3)
      have HI3 := Lib.hid (HI2.out.below hb3)
      have HJ3 := Lib.hid hi3
      clear hb3 hi3 h3
      go_wp2_with fail
      refine (sameInts_any _ _ ys ys _ HI3.out HJ3.out (by omega)).mono ?_; rintro e w4 ⟨⟨x, rfl, hx4⟩, hb4⟩
      obtain rfl : x = true := hx4.2 rfl
      have HB4 := Lib.hid (HB3.out.trans (hb4.mono HB3.out.size))
      have Hx4 := Lib.hid (Hx3.out.below hb4)
      have Ht4 := Lib.hid (Ht3.out.below hb4)
      have HI4 := Lib.hid (HI3.out.below hb4)
      clear hb4 hx4 HI2 HI3 HJ3 H1 H2 Hx1 Hx2 Hx3 Ht1 Ht2 Ht3 HB1 HB2 HB3
      go_wp2_with fail
      refine (sumOf_any _ t _ Ht4.out (by omega) (fun i => by have := Ft.out i; omega)).mono ?_; rintro e _ ⟨rfl, rfl⟩
      go_wp2_with fail
      refine (H5.out _ Hx4.out).mono ?_; intro e w5 h5
      obtain ⟨v5, rfl, hi5, hb5⟩ := okIn h5
      have HB5 := Lib.hid (HB4.out.trans (hb5.mono HB4.out.size))
      have Hx5 := Lib.hid (Hx4.out.below hb5)
      have Ht5 := Lib.hid (Ht4.out.below hb5)
      have HI5 := Lib.hid (HI4.out.below hb5)
      have HS5 := Lib.hid hi5
      clear hb5 hi5 h5 H5 Hx4 Ht4 HI4 HB4
      obtain ⟨b2, o2, c2, rfl, hb2, hr2⟩ := six HI5.out hly
      obtain ⟨bt, ot, ct, rfl, hbt, hrt⟩ := six Ht5.out hlt6
      obtain ⟨bs, os, cs, rfl, hbs, hrs⟩ := six HS5.out hls
      have HC := Lib.hid (fun (w' : World) (h : Below w5.heap.size w5 w') (i : Nat) (hi : i < 6) => (show w'.cell? ⟨b2, o2 + i, none⟩ = some (.int .i64 (ys.getD i 0)) ∧ w'.cell? ⟨bt, ot + i, none⟩ = some (.int .i64 (t.getD i 0)) ∧ w'.cell? ⟨bs, os + i, none⟩ = some (.int .i64 (sh.getD i 0)) from ⟨(hr2.below h hb2) i (by omega), (hrt.below h hbt) i (by omega), (hrs.below h hbs) i (by omega)⟩))
      clear hb2 hr2 hbt hrt hbs hrs
      go_wp2
      go_loopw [11] (fun iv wr => SsRel w5 iv wr) (fun iv _ => 6 - (intOf iv).toNat)
      case atStart => exact ⟨0, Nat.zero_le _, rfl, Below.refl _ _⟩
      case round =>
        obtain ⟨i, hi, rfl, hb⟩ := hrel
        by_cases hlt : i < 6
        · obtain ⟨k2, kt, ks⟩ := HC.out _ hb i hlt
          have ea := Fa.out i
          have et := Ft.out i
          have ex := Fx.out i
          have HB := Lib.hid hb
          have hi' : (i : Int) < 6 := by omega
          have hi0 : (0 : Int) ≤ (i : Int) := Int.natCast_nonneg _
          generalize ys.getD i 0 = a at *
          generalize t.getD i 0 = c at *
          generalize sh.getD i 0 = s at *
          have hw1 : wrap64 (a + c) = s := by rw [wrap64_ok (by omega) (by omega)]; exact ea
          have hw2 : IntKind.i64.wrap (a + c) = s := by rw [IntWalk.i64_in _ (by omega)]; exact ea
          have hq : (s != s) = false := by simp
          clear hb ea et ex hi
          go_wp2
          go_region
          all_goals
            go_wp2
            go_roundw
            case rel => exact ⟨i + 1, hlt, by go_num, HB.out.drew⟩
            case measure => simp [intOf]; omega
        · obtain rfl : i = 6 := by omega
          have Hx6 := Lib.hid (Hx5.out.below hb)
          have HI6 := Lib.hid (HI5.out.below hb)
          have HS6 := Lib.hid (HS5.out.below hb)
          have HB6 := Lib.hid (HB5.out.trans (hb.mono HB5.out.size))
          clear hb hlt hi HC Hx5 Ht5 HI5 HS5 HB5
          go_wp2_with fail
          refine (H6.out _ _ Hx6.out HS6.out).mono ?_; intro e w7 h7
          obtain ⟨v7, rfl, hi7, hb7⟩ := okIn h7
          have HB7 := Lib.hid (HB6.out.trans (hb7.mono HB6.out.size))
          have HI7 := Lib.hid (HI6.out.below hb7)
          obtain ⟨bz, oz, cz, rfl, hbz, hrz⟩ := six hi7 hlz
          have HZ := Lib.hid (fun (w' : World) (h : Below w7.heap.size w7 w') (i : Nat) (hi : i < 6) => (show w'.cell? ⟨bz, oz + i, none⟩ = some (.int .i64 0) from (Fz.out i) ▸ (hrz.below h hbz) i (by omega)))
          clear hb7 hi7 h7 H6 Hx6 HI6 HS6 HB6 hbz hrz
          go_wp2
          go_loopw [14] (fun iv wr => SsRel w7 iv wr) (fun iv _ => 6 - (intOf iv).toNat)
          case atStart => exact ⟨0, Nat.zero_le _, rfl, Below.refl _ _⟩
          case round =>
            obtain ⟨i, hi, rfl, hb⟩ := hrel
            by_cases hlt : i < 6
            · have k0 := HZ.out _ hb i hlt
              have hi' : (i : Int) < 6 := by omega
              have hi0 : (0 : Int) ≤ (i : Int) := Int.natCast_nonneg _
              have HB := Lib.hid hb
              clear hb hi
              go_wp2
              exact ⟨⟨i + 1, hlt, by go_num, HB.out⟩, by simp [intOf]; omega⟩
            · obtain rfl : i = 6 := by omega
              have HI8 := Lib.hid (HI7.out.below hb)
              have HB8 := Lib.hid (HB7.out.trans (hb.mono HB7.out.size))
              clear hb hlt hi HZ HI7 HB7
              go_wp2_with fail
              refine (sumOf_any _ ys _ HI8.out (by omega) (fun i => by have := Fx.out i; omega)).mono ?_; rintro e _ ⟨rfl, rfl⟩
              rw [Fs.out]
              go_wp2
              go_ret
              exact ⟨rfl, HB8.out⟩
  · have hl' : (1048576 : Int) < (l.length : Int) := by omega
    go_enter Try.func15, Try.ntmps15
    go_wp2
    go_ret
    exact ⟨rfl, Below.refl _ _⟩

set_option maxRecDepth 100000 in
theorem lifted (os : Os) (started : os.Started) (H : Type) (enc : TypeId × Value → H) :
    ReturnsInHanded {} Try.checked os 15 .any (Rows.fnShareSettleSpec.pre6 enc Try.prog Try.f15 Rows.fnShareSettleRow.domain false) (Rows.fnShareSettleSpec.post enc Try.prog Try.f15 false true false false) := by
  refine returnsInHanded_of_change (C := Try.checked) own started (by kernel_rfl) Try.func15
    (ChangeSpec.witness6 (enc := enc) (C := Try.checked) false ⟨#[], #[.slice none 0 0], []⟩ 8 (by kernel_rfl) (by kernel_rfl) (by kernel_rfl) (by kernel_rfl)) ?_
  intro W base args ds gs before hval0 hW hcnd _
  have hval : ∀ (j : Nat) t v, Try.f15.params[j]? = some t → args[j]? = some v → Value.okWide Try.prog W .any base t v := hval0
  have hW' := hW
  obtain ⟨p, q, hA0, hV, rfl, hfz, hnd⟩ := hW
  have hA : DataW.TrodAll enc Try.prog W 0 (fun _ => true) true Try.f15.params.toList args.toList ds p := hA0
  rw [Try.params15] at hA hval
  obtain ⟨v0, vs0, d0, ds0, p0, q0, hargs, rfl, rfl, h0, r0⟩ := trodAll_cons hA
  obtain ⟨rfl, rfl, rfl⟩ := trodAll_nil r0
  obtain rfl : args = #[v0] := by cases args; simp_all
  obtain ⟨rfl, rfl⟩ := trodVars_none hV
  obtain ⟨a0, len0, cap0, rfl⟩ := okWide_slice Try.underlying50 (hval 0 50 v0 rfl rfl)
  have k0 := h0
  have lt0 : ∀ x ∈ p0, x.block < W.heap.size := by obtain ⟨m, hm⟩ := k0; exact DataW.trod_lt m _ _ _ hm
  obtain ⟨z0, hv0, hm0⟩ := open_byteS h0 rfl
  clear hA0 hval0
  refine (walk _ z0 W hv0 hm0).mono fun e W' ⟨he, bel⟩ => ?_
  subst he
  exact ⟨_, rfl, _, _, _, [], _, [], hW', trodAll_mk1 (shut_bool Try.underlying4 _), (trodAll_cons_mk (Below.trod laidOut (by kernel_rfl) (of_decide_eq_true (by kernel_rfl)) k0 bel lt0) trodAll_mk0), rfl, bel.frame _, fun h => by cases h⟩

theorem over : Rows.fnShareSettleRow.holds Try.pinned (OpenSpec.ofChange Rows.fnShareSettleSpec) :=
  OpenClaim.holds_of_wide 15 Try.f15 rfl rfl rfl rfl rfl rfl rfl ⟨rfl, rfl, rfl, rfl, rfl⟩ rfl rfl rfl rfl rfl (by kernel_rfl) Try.func15 (by kernel_rfl)
    (of_decide_eq_true (by kernel_rfl)) (by unfold Func.isWrapper; first | (rw [if_pos (by decide +kernel)]; kernel_rfl) | (rw [if_neg (by decide +kernel)]; exact ⟨rfl, rfl⟩))
    (fun os started H enc _ => lifted os started H enc)

theorem proved : Rows.FnShareSettleSaid := over
#print axioms proved
end Go.Proofs.Ytcllgpfnojncoaa.lawFnShareSettle
