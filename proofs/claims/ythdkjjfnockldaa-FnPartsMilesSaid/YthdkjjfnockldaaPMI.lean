/- The law FnPartsMiles holds at every input. No condition. -/
import Derived.Test.YthdkjjfnockldaaDPX
import Derived.Test.YthdkjjfnockldaaPF
import Derived.Test.YthdkjjfnockldaaLH
import Derived.Test.YthdkjjfnockldaaSI
import Derived.Test.YthdkjjfnockldaaSUF
import Derived.Test.YthdkjjfnockldaaQK
import Derived.Test.YthdkjjfnockldaaQ2
import Derived.Test.YthdkjjfnockldaaQL
import Derived.Test.YthdkjjfnockldaaQO
import Derived.Test.YthdkjjfnockldaaQJ
namespace Go.Proofs.Ythdkjjfnockldaa.lawFnPartsMiles
open Go.ChangeShapes Go.WideShapes Go.ChangeAt Go.RowKit
set_option linter.unusedVariables false

def PmRel (os : List Int) (w : World) (iv : Value) (wr : World) : Prop := ∃ k : Nat, k ≤ os.length ∧ iv = .int .i64 k ∧ IntAt wr w.heap.size 0 (cnt6 (os.take k)) ∧ Room wr w.heap.size 6 ∧ Below w.heap.size w wr
set_option maxRecDepth 100000 in
set_option maxHeartbeats 2000000 in
theorem walk (v : Value) (l : List Int) (w : World) (hv : BytesIn w v l) (hm : l.length ≤ maxLen) :
    Calls Try.prog 3 #[v] w fun e w' => e = .returned (.bool true) ∧ Below w.heap.size w w' := by
  obtain ⟨i0, hi, hz0, hz1, hz2⟩ := info_parts Try.info3
  have hmk : ∀ W, (Instr.makeSlice 25 (.int .i64 6) (.int .i64 6)).run Try.prog W = .ok (.slice (some ⟨W.heap.size, 0, none⟩) 6 6) (W.alloc (.cells (madeCells #[.int .i64 0] (6 * i0.size)) 3)) := fun W =>
    run_make_rowN (P := Try.prog) 25 3 i0 _ Try.underlying25 hi hz0 .i64 .i64 6 6 (Nat.le_refl _) (by rw [hz2]; omega) (by omega) W
  have Hv := Lib.hid hv
  obtain ⟨av, cv, rfl, hcv, _, _⟩ := hv
  clear hcv
  by_cases hl : l.length ≤ 1048576
  · have hl' : ¬ (1048576 : Int) < (l.length : Int) := by omega
    go_enter Try.func3, Try.ntmps3
    go_wp2_with fail
    refine (drawPartsMiles_any _ l _ Hv.out hl).mono ?_; rintro e w1 ⟨pv, xs, rfl, hp, hx8, hb⟩
    have Hx1 := Lib.hid hp
    have HB1 := Lib.hid hb
    have hx : xs.length ≤ 1048576 := by omega
    clear hb hp
    have H2 := Lib.hid (fun w' (h : PtIn w' pv xs) => milesP2_any _ xs w' h hx)
    have H1 := Lib.hid (fun w' (h : PtIn w' pv xs) => milesP1_any _ xs w' h hx)
    cases hok : validP xs with
    | false =>
      have hno : milesX xs = [] := by unfold milesX; rw [if_no hok]
      rw [hno, hok] at H2 H1
      clear hok hno
      go_wp2_with fail
      refine (H2.out _ Hx1.out).mono ?_; intro e w2 h2
      obtain ⟨v2, rfl, hi2, hb2⟩ := okIn h2
      have Hx2 := Lib.hid (Hx1.out.below hb2)
      have HB2 := Lib.hid (HB1.out.trans (hb2.mono HB1.out.size))
      have HI2 := Lib.hid hi2
      clear hb2 hi2 h2
      go_wp2_with fail
      refine (H1.out _ Hx2.out).mono ?_; intro e w3 h3
      obtain ⟨v3, rfl, hi3, hb3⟩ := okIn h3
      have HB3 := Lib.hid (HB2.out.trans (hb3.mono HB2.out.size))
      have HI3 := Lib.hid (HI2.out.below hb3)
      have HJ3 := Lib.hid hi3
      clear hb3 hi3 h3
      go_wp2_with fail
      refine (sameInts_any _ _ [] [] _ HI3.out HJ3.out (by simp)).mono ?_; rintro e w4 ⟨⟨x, rfl, hx4⟩, hb4⟩
      obtain rfl : x = true := hx4.2 rfl
      have HB4 := Lib.hid (HB3.out.trans (hb4.mono HB3.out.size))
      have HI4 := Lib.hid (HI3.out.below hb4)
      have HJ4 := Lib.hid (HJ3.out.below hb4)
      clear hb4 hx4
      go_wp2_with fail
      refine (sameInts_any _ _ [] [] _ HI4.out HJ4.out (by simp)).mono ?_; rintro e w5 ⟨⟨x, rfl, hx5⟩, hb5⟩
      obtain rfl : x = true := hx5.2 rfl
      have HB5 := Lib.hid (HB4.out.trans (hb5.mono HB4.out.size))
      clear hb5 hx5
      go_wp2
      go_ret
      exact ⟨rfl, HB5.out⟩
    | true =>
      have hyes : milesX xs = cnt6 (ownP xs) := by unfold milesX; rw [if_yes hok]
      have hlen : lenX xs = ((ownP xs).length : Int) := lenX_yes hok
      have hN := ownP_len hok
      have hsum := cntP_sum hok
      have HL := Lib.hid (fun w' (h : PtIn w' pv xs) => len2_any _ xs w' h hx)
      have HO := Lib.hid (fun (k : Nat) (hk : k < (ownP xs).length) w' (h : PtIn w' pv xs) => (show Calls _ _ _ _ (Gives (.tuple #[.int .i64 (ownAt xs k), .bool true]) w') from by
        have ho : mileOk xs k = true := mileOk_iff.2 ⟨hok, by omega, by omega⟩
        have h1 := owner2_any _ xs (k : Int) w' h hx
        rw [ho, show mileX xs k = ownAt xs k by unfold mileX; rw [if_yes ho, Int.toNat_natCast]] at h1
        exact h1))
      have Hat := Lib.hid (fun k => ownAt_ok hok k)
      have Hst := Lib.hid (fun (k : Nat) (hk : k < (ownP xs).length) => (show cnt6 ((ownP xs).take (k + 1)) = (cnt6 ((ownP xs).take k)).set (ownAt xs k).toNat ((cnt6 ((ownP xs).take k)).getD (ownAt xs k).toNat 0 + 1) from by
        rw [List.take_succ_eq_append_getElem hk, show (ownP xs)[k] = ownAt xs k by unfold ownAt; rw [List.getD_eq_getElem?_getD, List.getElem?_eq_getElem hk]; rfl]
        exact cnt6_snoc _ _ (ownAt_ok hok k).1 (ownAt_ok hok k).2))
      rw [hyes, hok] at H2 H1
      rw [hlen] at HL
      clear hok hyes hlen
      generalize ownAt xs = own at *
      generalize ownP xs = os at *
      have hms : (cnt6 os).length ≤ 1048576 := by rw [cnt6_len]; omega
      have hm6 : (cnt6 os).length ≤ 100 := by rw [cnt6_len]; omega
      have HMb := Lib.hid (fun i => (show -2000000000 ≤ (cnt6 os).getD i 0 ∧ (cnt6 os).getD i 0 ≤ 2000000000 from by have := cnt6_bd os i; omega))
      have Hsum := Lib.hid hsum
      clear hsum
      go_wp2_with fail
      refine (H2.out _ Hx1.out).mono ?_; intro e w2 h2
      obtain ⟨v2, rfl, hi2, hb2⟩ := okIn h2
      have Hx2 := Lib.hid (Hx1.out.below hb2)
      have HB2 := Lib.hid (HB1.out.trans (hb2.mono HB1.out.size))
      have HI2 := Lib.hid hi2
      clear hb2 hi2 h2
      go_wp2_with fail
      refine (H1.out _ Hx2.out).mono ?_; intro e w3 h3
      obtain ⟨v3, rfl, hi3, hb3⟩ := okIn h3
      have Hx3 := Lib.hid (Hx2.out.below hb3)
      have HB3 := Lib.hid (HB2.out.trans (hb3.mono HB2.out.size))
      have HI3 := Lib.hid (HI2.out.below hb3)
      have HJ3 := Lib.hid hi3
      clear hb3 hi3 h3 H1 H2 Hx1 Hx2 HI2 HB1 HB2
      go_wp2_with fail
      refine (sameInts_any _ _ _ _ _ HI3.out HJ3.out hms).mono ?_; rintro e w4 ⟨⟨x, rfl, hx4⟩, hb4⟩
      obtain rfl : x = true := hx4.2 rfl
      have Hx4 := Lib.hid (Hx3.out.below hb4)
      have HB4 := Lib.hid (HB3.out.trans (hb4.mono HB3.out.size))
      have HI4 := Lib.hid (HI3.out.below hb4)
      clear hb4 hx4 Hx3 HB3 HI3 HJ3
      go_wp2_with fail
      refine (HL.out _ Hx4.out).mono ?_; rintro e w5 ⟨rfl, hb5⟩
      have Hx5 := Lib.hid (Hx4.out.below hb5)
      have HB5 := Lib.hid (HB4.out.trans (hb5.mono HB4.out.size))
      have HI5 := Lib.hid (HI4.out.below hb5)
      clear hb5 HL Hx4 HB4 HI4
      have HZ := Lib.hid (And.intro (IntAt.zeros6 w5 3) (And.intro (Room.made w5 #[.int .i64 0] 6 3 (by simp)) ((Below.refl w5.heap.size w5).alloc (Nat.le_refl _) (.cells (madeCells #[.int .i64 0] 6) 3))))
      go_wp2
      go_loopw [10] (fun iv wr => PmRel os w5 iv wr) (fun iv _ => os.length - (intOf iv).toNat)
      case atStart => exact ⟨0, Nat.zero_le _, rfl, by simpa [cnt6_nil] using HZ.out.1, HZ.out.2.1, HZ.out.2.2⟩
      case round =>
        clear HZ
        obtain ⟨k, hk, rfl, h1, h2, hbel⟩ := hrel
        have Hxr := Lib.hid (Hx5.out.below hbel)
        have HBr := Lib.hid hbel
        by_cases hlt : k < os.length
        · have hlt' : (k : Int) < (os.length : Int) := by omega
          have HOk := Lib.hid (HO.out k hlt wr Hxr.out)
          obtain ⟨o0, o5⟩ := Hat.out k
          have hst := Hst.out k hlt
          generalize own k = x at *
          obtain ⟨m, rfl⟩ : ∃ m : Nat, x = m := ⟨x.toNat, by omega⟩
          rw [Int.toNat_natCast] at hst
          have H1 := Lib.hid h1; have H2 := Lib.hid h2
          have Hst := Lib.hid hst
          clear h1 h2 hbel hst
          go_wp2_with fail
          refine HOk.out.mono ?_; rintro e w6 ⟨rfl, hb6⟩
          have hbk : w5.heap.size < wr.heap.size := World.block_lt_of_cell? _ _ (H1.out 0 (by rw [cnt6_len]; omega))
          have h1 := H1.out.below hb6 hbk
          have h2 := H2.out.below hb6 hbk
          have HB6 := Lib.hid (HBr.out.trans (hb6.mono HBr.out.size))
          clear hb6 HBr Hxr HOk
          have d0 := h1 m (by rw [cnt6_len]; omega)
          rw [Nat.zero_add] at d0
          have hbd := cnt6_bd (os.take k) m
          have htl : (os.take k).length ≤ 1188 := by rw [List.length_take]; omega
          have hfz := h2.2 m
          have hidx : m < (cnt6 (os.take k)).length := by rw [cnt6_len]; omega
          generalize (cnt6 (os.take k)).getD m 0 = x at *
          have hset := h1.setQ (v := x + 1) hidx
          have hws : IntKind.i64.wrap (x + 1) = x + 1 := IntWalk.i64_in _ (by omega)
          have hws2 : wrap64 (x + 1) = x + 1 := wrap64_ok (by omega) (by omega)
          have hm0 : (0 : Int) ≤ (m : Int) := Int.natCast_nonneg _
          have hm6 : (m : Int) < 6 := by omega
          have G1 := Lib.hid hset
          have G2 := Lib.hid h2
          clear hset h1 h2 hbd htl hidx H1 H2
          go_wp2
          refine ⟨⟨k + 1, hlt, by go_num, by rw [Hst.out]; exact G1.out, G2.out.setCell _ _, HB6.out.setCell (p := ⟨w5.heap.size, m, none⟩) (Nat.le_refl _) _⟩, ?_⟩
          simp [intOf]; omega
        · obtain rfl : k = os.length := by omega
          rw [List.take_length] at h1
          have hbk : w5.heap.size < wr.heap.size := World.block_lt_of_cell? _ _ (h1 0 (by rw [cnt6_len]; omega))
          have HC := Lib.hid (show IntsIn wr (.slice (some ⟨w5.heap.size, 0, none⟩) 6 6) (cnt6 os) from ⟨_, 6, by rw [cnt6_len], by rw [cnt6_len]; omega, fun _ => ⟨_, 0, rfl, hbk, h1⟩⟩)
          have HI6 := Lib.hid (HI5.out.below hbel)
          have HBf := Lib.hid (HB5.out.trans (hbel.mono HB5.out.size))
          clear h1 h2 hbel hbk HBr Hxr hlt
          go_wp2_with fail
          refine (sumOf_any _ (cnt6 os) _ HI6.out hm6 HMb.out).mono ?_; rintro e _ ⟨rfl, rfl⟩
          rw [Hsum.out]
          go_wp2_with fail
          refine (sameInts_any _ _ _ _ _ HC.out HI6.out hms).mono ?_; rintro e w7 ⟨⟨x, rfl, hx7⟩, hb7⟩
          obtain rfl : x = true := hx7.2 rfl
          have HB7 := Lib.hid (HBf.out.trans (hb7.mono HBf.out.size))
          clear hb7 hx7
          go_wp2
          go_ret
          exact ⟨rfl, HB7.out⟩
  · have hl' : (1048576 : Int) < (l.length : Int) := by omega
    go_enter Try.func3, Try.ntmps3
    go_wp2
    go_ret
    exact ⟨rfl, Below.refl _ _⟩

set_option maxRecDepth 100000 in
theorem lifted (os : Os) (started : os.Started) (H : Type) (enc : TypeId × Value → H) :
    ReturnsInHanded {} Try.checked os 3 .any (Rows.fnPartsMilesSpec.pre6 enc Try.prog Try.f3 Rows.fnPartsMilesRow.domain false) (Rows.fnPartsMilesSpec.post enc Try.prog Try.f3 false true false false) := by
  refine returnsInHanded_of_change (C := Try.checked) own started (by kernel_rfl) Try.func3
    (ChangeSpec.witness6 (enc := enc) (C := Try.checked) false ⟨#[], #[.slice none 0 0], []⟩ 8 (by kernel_rfl) (by kernel_rfl) (by kernel_rfl) (by kernel_rfl)) ?_
  intro W base args ds gs before hval0 hW hcnd _
  have hval : ∀ (j : Nat) t v, Try.f3.params[j]? = some t → args[j]? = some v → Value.okWide Try.prog W .any base t v := hval0
  have hW' := hW
  obtain ⟨p, q, hA0, hV, rfl, hfz, hnd⟩ := hW
  have hA : DataW.TrodAll enc Try.prog W 0 (fun _ => true) true Try.f3.params.toList args.toList ds p := hA0
  rw [Try.params3] at hA hval
  obtain ⟨v0, vs0, d0, ds0, p0, q0, hargs, rfl, rfl, h0, r0⟩ := trodAll_cons hA
  obtain ⟨rfl, rfl, rfl⟩ := trodAll_nil r0
  obtain rfl : args = #[v0] := by cases args; simp_all
  obtain ⟨rfl, rfl⟩ := trodVars_none hV
  obtain ⟨a0, len0, cap0, rfl⟩ := okWide_slice Try.underlying22 (hval 0 22 v0 rfl rfl)
  have k0 := h0
  have lt0 : ∀ x ∈ p0, x.block < W.heap.size := by obtain ⟨m, hm⟩ := k0; exact DataW.trod_lt m _ _ _ hm
  obtain ⟨z0, hv0, hm0⟩ := open_byteS h0 rfl
  clear hA0 hval0
  refine (walk _ z0 W hv0 hm0).mono fun e W' ⟨he, bel⟩ => ?_
  subst he
  exact ⟨_, rfl, _, _, _, [], _, [], hW', trodAll_mk1 (shut_bool Try.underlying4 _), (trodAll_cons_mk (Below.trod laidOut (by kernel_rfl) (of_decide_eq_true (by kernel_rfl)) k0 bel lt0) trodAll_mk0), rfl, bel.frame _, fun h => by cases h⟩

theorem over : Rows.fnPartsMilesRow.holds Try.pinned (OpenSpec.ofChange Rows.fnPartsMilesSpec) :=
  OpenClaim.holds_of_wide 3 Try.f3 rfl rfl rfl rfl rfl rfl rfl ⟨rfl, rfl, rfl, rfl, rfl⟩ rfl rfl rfl rfl rfl (by kernel_rfl) Try.func3 (by kernel_rfl)
    (of_decide_eq_true (by kernel_rfl)) (by unfold Func.isWrapper; first | (rw [if_pos (by decide +kernel)]; kernel_rfl) | (rw [if_neg (by decide +kernel)]; exact ⟨rfl, rfl⟩))
    (fun os started H enc _ => lifted os started H enc)

theorem proved : Rows.FnPartsMilesSaid := over
#print axioms proved
end Go.Proofs.Ythdkjjfnockldaa.lawFnPartsMiles
