/- The law FnRoadsNet holds at every input. No condition. -/
import Derived.Test.YtlkhgnglblgldaaDT
import Derived.Test.YtlkhgnglblgldaaNX
import Derived.Test.YtlkhgnglblgldaaW5
import Derived.Test.YtlkhgnglblgldaaWG
namespace Go.Proofs.Ytlkhgnglblgldaa.lawFnRoadsNet
open Go.ChangeShapes Go.WideShapes Go.ChangeAt Go.RowKit
set_option linter.unusedVariables false

theorem getD_memI {W : List Int} {k : Nat} (h : k < W.length) : W.getD k 0 ∈ W := by simp [List.getD, h]
theorem pick_wf {l : List Rd} {U : List Nat} (hw : RdWf l) (hU : ∀ i, i ∈ U → i < l.length) : RdWf (pickR l U) := fun r hr => by
  obtain ⟨i, hi, rfl⟩ := List.mem_map.1 hr
  have h := hU i hi
  rw [show l.getD i rd0 = l[i] by simp [List.getD, h]]
  exact hw _ (List.getElem_mem h)
theorem pick_take {l : List Rd} {U : List Nat} {k : Nat} (hk : k < U.length) : pickR l (U.take (k + 1)) = pickR l (U.take k) ++ [l.getD (U.getD k 0) rd0] := by
  rw [List.take_succ_eq_append_getElem hk, pickR_snoc]
  simp [List.getD, hk]
theorem pick_take_len {l : List Rd} {U : List Nat} {k : Nat} (hk : k ≤ U.length) : (pickR l (U.take k)).length = k := by
  rw [pickR_len, List.length_take]; omega
def NtRel (xs : List Rd) (U : List Nat) (w : World) (u iv : Value) (wr : World) : Prop :=
  ∃ (k g cap : Nat), k ≤ U.length ∧ iv = .int .i64 k ∧ u = .slice (some ⟨g, 0, none⟩) k cap ∧ k ≤ cap ∧ RowRz wr w.heap.size u (pickR xs (U.take k)) ∧ Below w.heap.size w wr
def NvRel (N : Nat) (w : World) (iv : Value) (wr : World) : Prop := ∃ i : Nat, i ≤ N ∧ iv = .int .i64 i ∧ Below w.heap.size w wr
def NwRel (N : Nat) (w : World) (kv : Value) (wr : World) : Prop := ∃ k : Nat, 1 ≤ k ∧ k ≤ N ∧ kv = .int .i64 k ∧ Below w.heap.size w wr

set_option maxRecDepth 100000 in
set_option maxHeartbeats 2000000 in
theorem walk (v : Value) (l : List Int) (w : World) (hv : BytesIn w v l) (hm : l.length ≤ maxLen) :
    Calls Try.prog 7 #[v] w fun e w' => e = .returned (.bool true) ∧ Below w.heap.size w w' := by
  have Hv := Lib.hid hv
  obtain ⟨av, cv, rfl, hcv, _, _⟩ := hv
  clear hcv
  by_cases hl : l.length ≤ 1048576
  · have hl' : ¬ (1048576 : Int) < (l.length : Int) := by omega
    obtain ⟨ir, hir, hr0, hr1, hr2⟩ := info_parts infoRz
    go_enter Try.func7, Try.ntmps7
    go_wp2_with fail
    refine (drawNet_any _ l _ Hv.out hl).mono ?_; rintro e w1 ⟨n, ad, cap, xs, rfl, hn2, hn6, hcap, h20, hbd, hown, hblk, hb⟩
    have Hx1 := Lib.hid (hown.ins hcap).roads
    have HB1 := Lib.hid hb
    have hx : xs.length ≤ 1048576 := by omega
    have Hwf := Lib.hid hbd.wf
    clear hown hblk hb hbd hcap
    have H2 := Lib.hid (fun w' (h : RoadsIn w' (.slice ad xs.length cap) xs) => net2_any n _ xs w' h hx Hwf.out)
    have H1 := Lib.hid (fun w' (h : RoadsIn w' (.slice ad xs.length cap) xs) => net1_any n _ xs w' h hx)
    cases hok : wholeOf n xs with
    | false =>
      rw [netL_no hok, hok] at H2 H1
      clear hok
      go_wp2_with fail
      refine (H2.out _ Hx1.out).mono ?_; rintro e w2 ⟨ad2, cap2, rfl, hc2, ho2, _, hb2⟩
      have Hx2 := Lib.hid (Hx1.out.below hb2)
      have HB2 := Lib.hid (HB1.out.trans (hb2.mono HB1.out.size))
      have HI2 := Lib.hid (ho2.ints hc2)
      clear hb2 hc2 ho2
      go_wp2_with fail
      refine (H1.out _ Hx2.out).mono ?_; rintro e w3 ⟨ad3, cap3, rfl, hc3, ho3, _, hb3⟩
      have HB3 := Lib.hid (HB2.out.trans (hb3.mono HB2.out.size))
      have HI3 := Lib.hid (HI2.out.below hb3)
      have HJ3 := Lib.hid (ho3.ints hc3)
      clear hb3 hc3 ho3
      go_wp2_with fail
      refine (sameInts_any _ _ [] [] _ HI3.out HJ3.out (by simp)).mono ?_; rintro e w4 ⟨⟨x, rfl, hx4⟩, hb4⟩
      obtain rfl : x = true := hx4.2 rfl
      have HB4 := Lib.hid (HB3.out.trans (hb4.mono HB3.out.size))
      have HI4 := Lib.hid (HI3.out.below hb4)
      have HJ4 := Lib.hid (HJ3.out.below hb4)
      clear hb4 hx4
      go_wp2_with fail
      refine (sameInts_any _ _ [] [] _ HI4.out HJ4.out (by simp)).mono ?_; rintro e w5 ⟨⟨x, rfl, hx5⟩, hb5⟩
      obtain rfl : x = true := hx5.2 rfl
      have HB5 := Lib.hid (HB4.out.trans (hb5.mono HB4.out.size))
      clear hb5 hx5
      go_wp2
      go_ret
      exact ⟨rfl, HB5.out⟩
    | true =>
      have hz : validR n xs = true := by unfold wholeOf at hok; rw [Bool.and_eq_true] at hok; exact hok.1
      have hlen := up_len hok
      have hwh := up_whole hok
      have hneed := up_need hz
      have hval := up_valid hz
      have HOk := Lib.hid (fun i (hi : i < xs.length) => up_ok hok hi)
      have HMi := Lib.hid (fun i (hi : i < xs.length) k => up_miles hok hi (k := k))
      have HFit := Lib.hid (fun i (hi : i < xs.length) => road_fits hz hi)
      have HUlt := Lib.hid (fun i (h : i ∈ upN n xs) => upN_lt h)
      have h16 := (valid_bounds hz).2.2.1
      rw [netL_yes hok, netUp_upN, hok] at H2 H1
      clear hok hz
      have hUl : (upN n xs).length ≤ 16 := by omega
      generalize upN n xs = U at *
      have e0 : (U.map fun (i : Nat) => (i : Int)).length = U.length := by simp
      have E0 := Lib.hid e0
      clear e0
      have Hget := Lib.hid (show ∀ k, k < U.length → (U.map fun (i : Nat) => (i : Int)).getD k 0 = ((U.getD k 0 : Nat) : Int) from fun k hk => by simp [List.getD, hk])
      generalize (U.map fun (i : Nat) => (i : Int)) = rs at *
      have hrl : rs.length ≤ 1048576 := by rw [E0.out]; omega
      go_wp2_with fail
      refine (H2.out _ Hx1.out).mono ?_; rintro e w2 ⟨ad2, cap2, rfl, hc2, ho2, _, hb2⟩
      have Hx2 := Lib.hid (Hx1.out.below hb2)
      have HB2 := Lib.hid (HB1.out.trans (hb2.mono HB1.out.size))
      have HI2 := Lib.hid (ho2.ints hc2)
      clear hb2 hc2 ho2
      go_wp2_with fail
      refine (H1.out _ Hx2.out).mono ?_; rintro e w3 ⟨ad3, cap3, rfl, hc3, ho3, _, hb3⟩
      have HB3 := Lib.hid (HB2.out.trans (hb3.mono HB2.out.size))
      have Hx3 := Lib.hid (Hx2.out.below hb3)
      have HI3 := Lib.hid (HI2.out.below hb3)
      have HJ3 := Lib.hid (ho3.ints hc3)
      clear hb3 hc3 ho3
      go_wp2_with fail
      refine (sameInts_any _ _ rs rs _ HI3.out HJ3.out hrl).mono ?_; rintro e w4 ⟨⟨x, rfl, hx4⟩, hb4⟩
      obtain rfl : x = true := hx4.2 rfl
      have HB4 := Lib.hid (HB3.out.trans (hb4.mono HB3.out.size))
      have Hx4 := Lib.hid (Hx3.out.below hb4)
      have HI4 := Lib.hid (HI3.out.below hb4)
      clear hb4 hx4 HI2 HI3 HJ3 Hx1 Hx2 Hx3 H1 H2
      have hR4 := Lib.hid (RowRz.made w4 w4.heap.size (Nat.le_refl _))
      have hb40 := Lib.hid ((Below.refl w4.heap.size w4).alloc (Nat.le_refl _) (.cells #[] 49))
      go_wp2
      go_loopw [9, 10] (fun u iv wr => NtRel xs U w4 u iv wr) (fun _ iv _ => U.length - (intOf iv).toNat)
      case atStart => exact ⟨0, _, _, Nat.zero_le _, rfl, rfl, Nat.le_refl _, hR4.out, hb40.out⟩
      case round =>
        clear hR4 hb40
        obtain ⟨k, g, cp, hk, rfl, rfl, hkc, hrow, hb⟩ := hrel
        by_cases hlt : k < U.length
        · have hltr : (k : Int) < (rs.length : Int) := by rw [E0.out]; omega
          have hk0 : (0 : Int) ≤ (k : Int) := Int.natCast_nonneg _
          have hj := HUlt.out _ (getD_memU hlt)
          have hI := HI4.out
          obtain ⟨_, _, he, _, ha⟩ := hI
          cases he
          obtain ⟨rb, ro, rfl, hrb, hrr⟩ := ha (by intro h; rw [h] at hltr; simp at hltr; omega)
          have r0 := (hrr.below hb hrb) k (by rw [E0.out]; exact hlt)
          rw [Hget.out k hlt] at r0
          have hX := Hx4.out
          obtain ⟨_, _, he, hax⟩ := hX
          cases he
          obtain ⟨b, o, rfl, hb0, hrw⟩ := hax (by intro h; rw [h] at hj; simp at hj)
          obtain ⟨c0, c1, c2⟩ := (hrw.below hb hb0) _ hj
          have Hpt := Lib.hid (pick_take (l := xs) hlt)
          have hptl := pick_take_len (l := xs) (U := U) hk
          have HB := Lib.hid hb
          have hown := hrow
          unfold RowRz at hown
          rw [hptl] at hown
          have hszr := hb.size
          have Hptl := Lib.hid hptl
          clear hrow hb hrr ha hrw hax hptl
          generalize U.getD k 0 = j at *
          have hjx : (j : Int) < (xs.length : Int) := by omega
          have hj0 : (0 : Int) ≤ (j : Int) := Int.natCast_nonneg _
          obtain ⟨r, hr⟩ : ∃ r, xs.getD j rd0 = r := ⟨_, rfl⟩
          rw [hr] at c0 c1 c2 Hpt
          clear hr
          obtain ⟨ra, rbb, rm⟩ := r
          simp only at c0 c1 c2
          go_wp2_with (at_builtin; (refine wpList_append_own _ rfl _ _ 37 rfl w4.heap.size 49 ir _ 3 24 Try.underlying37 hir hr0 hr1 hr2 rfl (by omega) _ _ (encRz (pickR xs (U.take k))) rfl (World.ownsRow.alloc hown _) ⟨wr.heap.size, 0, none⟩ 1 1 [.int .i64 ra, .int .i64 rbb, .int .i64 rm] rfl rfl (World.news_of_block (cs := #[.int .i64 ra, .int .i64 rbb, .int .i64 rm]) (t := 49) (fr := (0, 0)) (heap_alloc_new wr _)) (by simp [Value.oneCell']) (by simp only [maxLen]; omega) (by omega) (by simp; omega) ?_; intro v' w8 hown8 hgrow _))
          have HB8 := Lib.hid ((HB.out.alloc hszr (.cells #[.int .i64 ra, .int .i64 rbb, .int .i64 rm] 49)).grown hgrow (by simp; omega) (fun j hj => (hown.lt j hj).1))
          obtain ⟨g8, cp8, rfl, _, _⟩ := hown8.form (by omega)
          have hcp8 : k + 1 ≤ cp8 := by
            obtain ⟨_, h2⟩ := hown8
            rcases h2 with ⟨h0, _⟩ | ⟨_, _, _, hv', _, _, h3, _⟩
            · cases h0
            · cases hv'; exact h3
          have HR8 := Lib.hid (show RowRz w8 w4.heap.size (.slice (some ⟨g8, 0, none⟩) (k + 1) cp8) (pickR xs (U.take (k + 1))) by
            rw [Hpt.out]; refine RowRz.snoc ?_; rw [Hptl.out]; exact hown8)
          clear hown8 hgrow hown
          exact ⟨⟨k + 1, g8, cp8, hlt, by go_num, rfl, hcp8, HR8.out, HB8.out⟩, by simp [intOf]; omega⟩
        · obtain rfl : k = U.length := by omega
          have htk : U.take U.length = U := List.take_length
          rw [htk] at hrow
          have hTl : (pickR xs U).length = U.length := pickR_len xs U
          have HT := Lib.hid (show RoadsIn wr (.slice (some ⟨g, 0, none⟩) U.length cp) (pickR xs U) by have h := RowRz.in_ (l := pickR xs U) (a := some ⟨g, 0, none⟩) (cap := cp) (by rw [hTl]; exact hrow) (by rw [hTl]; exact hkc); rwa [hTl] at h)
          have hTw : RdWf (pickR xs U) := pick_wf Hwf.out HUlt.out
          have hTx : (pickR xs U).length ≤ 1048576 := by omega
          have HWay := Lib.hid (fun (x y : Int) (hx : W64 x) (hy : W64 y) w' (h : RoadsIn w' (.slice (some ⟨g, 0, none⟩) U.length cp) (pickR xs U)) => way2_any n _ (pickR xs U) x y w' h hTx hTw hx hy)
          have HDir := Lib.hid (fun (x y : Int) (hx : W64 x) (hy : W64 y) w' (h : RoadsIn w' (.slice (some ⟨g, 0, none⟩) U.length cp) (pickR xs U)) => direct2_any n _ (pickR xs U) x y w' h hTx hTw hx hy)
          have HWh := Lib.hid (fun w' (h : RoadsIn w' (.slice (some ⟨g, 0, none⟩) U.length cp) (pickR xs U)) => whole2_any n _ (pickR xs U) w' h hTx hTw)
          have HNe := Lib.hid (fun w' (h : RoadsIn w' (.slice (some ⟨g, 0, none⟩) U.length cp) (pickR xs U)) => need2_any n _ (pickR xs U) w' h hTx hTw)
          rw [hwh] at HWh
          have HNl := Lib.hid hneed
          have HB5 := Lib.hid (HB4.out.trans (hb.mono HB4.out.size))
          have Hx5 := Lib.hid (Hx4.out.below hb)
          have Htl := Lib.hid hTl
          clear hrow hb htk hTl hTw hwh hneed hval HI4 Hx4 hkc hlt hk HUlt Hget
          generalize pickR xs U = T at *
          have hnlt : ¬ (U.length : Int) < (rs.length : Int) := by rw [E0.out]; omega
          go_wp2
          clear hnlt
          generalize wr = w5 at *
          go_loopw [11] (fun iv wr => NvRel xs.length w5 iv wr) (fun iv _ => xs.length - (intOf iv).toNat)
          case atStart => exact ⟨0, Nat.zero_le _, rfl, Below.refl _ _⟩
          case round =>
            obtain ⟨i, hi, rfl, hb⟩ := hrel
            have HB := Lib.hid hb
            clear hb
            by_cases hil : i < xs.length
            · have hil' : (i : Int) < (xs.length : Int) := by omega
              have hi0 : (0 : Int) ≤ (i : Int) := Int.natCast_nonneg _
              have hX := Hx5.out
              obtain ⟨_, _, he, hax⟩ := hX
              cases he
              obtain ⟨b, o, rfl, hb0, hrw⟩ := hax (by intro h; rw [h] at hil; simp at hil)
              obtain ⟨c0, c1, c2⟩ := (hrw.below HB.out hb0) _ hil
              have HCm := Lib.hid (fun w' (h : Below w5.heap.size w5 w') => ((hrw.below h hb0) _ hil).2.2)
              have hok := HOk.out i hil
              obtain ⟨f1, f2, f3, f4, f5⟩ := HFit.out i hil
              have HM := Lib.hid (HMi.out i hil)
              have HTr := Lib.hid (HT.out.below HB.out)
              clear hrw hax
              generalize (xs.getD i rd0).a = ra at *
              generalize (xs.getD i rd0).b = rb at *
              generalize (xs.getD i rd0).m = rm at *
              have HWc := Lib.hid (fun w' (h : RoadsIn w' (.slice (some ⟨g, 0, none⟩) U.length cp) T) => HWay.out ra rb (by unfold W64; omega) (by unfold W64; omega) w' h)
              rw [hok] at HWc
              obtain ⟨r, ew, _, _, _, _, _, _, hin, _⟩ := way_law hok
              have Hin := Lib.hid (show ∀ k, k < (wayOf n T ra rb).length → 0 ≤ (wayOf n T ra rb).getD k 0 ∧ (wayOf n T ra rb).getD k 0 < n from fun k hk => by rw [ew] at hk ⊢; exact hin _ (getD_memI hk))
              have hw9 := wayOf_len n T ra rb
              have Hwl := Lib.hid (show 1 ≤ (wayOf n T ra rb).length by rw [ew]; simp)
              clear hok hin ew
              generalize wayOf n T ra rb = W at *
              go_wp2
              refine wp_region_any (by kernel_rfl) ?_
              change wpAny _ _ _ _ 18 #[false, false, false, false, false, false, false, false, false, false, false, false, false, false, false, false, false, false] _ (World.drew _)
              refine with_Q (fun _ _ _ _ _ h => h) (fun Q hQ hN => ?_)
              refine take_op (i := 0) (d := 80) (v := .int .i64 n) rfl rfl (by kernel_rfl) (by kernel_rfl) (by kernel_rfl) hQ (Or.inl ⟨by rfl, fun _ => by first | rfl | (go_simp; done) | (go_simp; rfl) | (go_simp; intro h; exfalso; omega)⟩) ?_
              simp only [Act.put, List.setIfInBounds_toArray, List.set_cons_zero, List.set_cons_succ]
              refine take_op (i := 1) (d := 81) (v := .slice (some ⟨g, 0, none⟩) U.length cp) rfl rfl (by kernel_rfl) (by kernel_rfl) (by kernel_rfl) hQ (Or.inl ⟨by rfl, fun _ => by first | rfl | (go_simp; done) | (go_simp; rfl) | (go_simp; intro h; exfalso; omega)⟩) ?_
              simp only [Act.put, List.setIfInBounds_toArray, List.set_cons_zero, List.set_cons_succ]
              refine take_op (i := 2) (d := 82) (v := .slice (some ⟨b, o, none⟩) xs.length cap) rfl rfl (by kernel_rfl) (by kernel_rfl) (by kernel_rfl) hQ (Or.inl ⟨by rfl, fun _ => by first | rfl | (go_simp; done) | (go_simp; rfl) | (go_simp; intro h; exfalso; omega)⟩) ?_
              simp only [Act.put, List.setIfInBounds_toArray, List.set_cons_zero, List.set_cons_succ]
              refine take_op (i := 3) (d := 83) (v := .int .i64 i) rfl rfl (by kernel_rfl) (by kernel_rfl) (by kernel_rfl) hQ (Or.inl ⟨by rfl, fun _ => by first | rfl | (go_simp; done) | (go_simp; rfl) | (go_simp; intro h; exfalso; omega)⟩) ?_
              simp only [Act.put, List.setIfInBounds_toArray, List.set_cons_zero, List.set_cons_succ]
              refine take_op (i := 4) (d := 84) (v := .pointer (some ⟨b, o + i * 3, none⟩)) rfl rfl (by kernel_rfl) (by kernel_rfl) (by kernel_rfl) hQ (Or.inl ⟨by rfl, fun _ => by first | rfl | (go_simp; done) | (go_simp; rfl) | (go_simp; intro h; exfalso; omega)⟩) ?_
              simp only [Act.put, List.setIfInBounds_toArray, List.set_cons_zero, List.set_cons_succ]
              refine take_op (i := 5) (d := 85) (v := .pointer (some ⟨b, o + i * 3, none⟩)) rfl rfl (by kernel_rfl) (by kernel_rfl) (by kernel_rfl) hQ (Or.inl ⟨by rfl, fun _ => by first | rfl | (go_simp; done) | (go_simp; rfl) | (go_simp; intro h; exfalso; omega)⟩) ?_
              simp only [Act.put, List.setIfInBounds_toArray, List.set_cons_zero, List.set_cons_succ]
              refine take_op (i := 7) (d := 87) (v := .slice (some ⟨b, o, none⟩) xs.length cap) rfl rfl (by kernel_rfl) (by kernel_rfl) (by kernel_rfl) hQ (Or.inl ⟨by rfl, fun _ => by first | rfl | (go_simp; done) | (go_simp; rfl) | (go_simp; intro h; exfalso; omega)⟩) ?_
              simp only [Act.put, List.setIfInBounds_toArray, List.set_cons_zero, List.set_cons_succ]
              refine take_op (i := 8) (d := 88) (v := .int .i64 i) rfl rfl (by kernel_rfl) (by kernel_rfl) (by kernel_rfl) hQ (Or.inl ⟨by rfl, fun _ => by first | rfl | (go_simp; done) | (go_simp; rfl) | (go_simp; intro h; exfalso; omega)⟩) ?_
              simp only [Act.put, List.setIfInBounds_toArray, List.set_cons_zero, List.set_cons_succ]
              refine take_op (i := 9) (d := 89) (v := .pointer (some ⟨b, o + i * 3, none⟩)) rfl rfl (by kernel_rfl) (by kernel_rfl) (by kernel_rfl) hQ (Or.inl ⟨by rfl, fun _ => by first | rfl | (go_simp; done) | (go_simp; rfl) | (go_simp; intro h; exfalso; omega)⟩) ?_
              simp only [Act.put, List.setIfInBounds_toArray, List.set_cons_zero, List.set_cons_succ]
              refine take_op (i := 10) (d := 90) (v := .pointer (some ⟨b, o + i * 3 + 1, none⟩)) rfl rfl (by kernel_rfl) (by kernel_rfl) (by kernel_rfl) hQ (Or.inl ⟨by rfl, fun _ => by first | rfl | (go_simp; done) | (go_simp; rfl) | (go_simp; intro h; exfalso; omega)⟩) ?_
              simp only [Act.put, List.setIfInBounds_toArray, List.set_cons_zero, List.set_cons_succ]
              refine wpAny_ready (rs := [6, 11]) (by kernel_rfl) (by simp) ?_
              refine AllReady.cons rfl (fun K hK => ?_) (AllReady.cons rfl (fun K hK => ?_) AllReady.nil)
              · go_simp
                refine hK _ _ ?_
                try simp only [Act.put, List.setIfInBounds_toArray, List.set_cons_zero, List.set_cons_succ]
                clear hK K
                refine wpAny_ready (rs := [11]) (by kernel_rfl) (by simp) ?_
                refine AllReady.cons rfl (fun K hK => ?_) AllReady.nil
                go_simp
                refine hK _ _ ?_
                try simp only [Act.put, List.setIfInBounds_toArray, List.set_cons_zero, List.set_cons_succ]
                clear hK K
                refine wpAny_ready (rs := [12]) (by kernel_rfl) (by simp) ?_
                refine AllReady.cons rfl (fun K hK => ?_) AllReady.nil
                go_simp
                go_at_call 29
                refine (HWc.out _ (HTr.out.below ((Below.refl _ _).drew))).mono ?_; rintro e w6 ⟨adw, cpw, rfl, hcw, how, _, hb6⟩
                refine hK _ _ ?_
                try simp only [Act.put, List.setIfInBounds_toArray, List.set_cons_zero, List.set_cons_succ]
                clear hK K
                refine take_op (i := 13) (d := 79) (v := .tuple #[.slice adw W.length cpw, .bool true]) rfl rfl (by kernel_rfl) (by kernel_rfl) (by kernel_rfl) hQ (Or.inl ⟨by rfl, fun _ => by first | rfl | (go_simp; done) | (go_simp; rfl) | (go_simp; intro h; exfalso; omega)⟩) ?_
                simp only [Act.put, List.setIfInBounds_toArray, List.set_cons_zero, List.set_cons_succ]
                refine take_op (i := 14) (d := 93) (v := .slice adw W.length cpw) rfl rfl (by kernel_rfl) (by kernel_rfl) (by kernel_rfl) hQ (Or.inl ⟨by rfl, fun _ => by first | rfl | (go_simp; done) | (go_simp; rfl) | (go_simp; intro h; exfalso; omega)⟩) ?_
                simp only [Act.put, List.setIfInBounds_toArray, List.set_cons_zero, List.set_cons_succ]
                refine take_op (i := 15) (d := 94) (v := .bool true) rfl rfl (by kernel_rfl) (by kernel_rfl) (by kernel_rfl) hQ (Or.inl ⟨by rfl, fun _ => by first | rfl | (go_simp; done) | (go_simp; rfl) | (go_simp; intro h; exfalso; omega)⟩) ?_
                simp only [Act.put, List.setIfInBounds_toArray, List.set_cons_zero, List.set_cons_succ]
                refine take_op (i := 16) (d := 12) (v := .slice adw W.length cpw) rfl rfl (by kernel_rfl) (by kernel_rfl) (by kernel_rfl) hQ (Or.inl ⟨by rfl, fun _ => by first | rfl | (go_simp; done) | (go_simp; rfl) | (go_simp; intro h; exfalso; omega)⟩) ?_
                simp only [Act.put, List.setIfInBounds_toArray, List.set_cons_zero, List.set_cons_succ]
                refine take_op (i := 17) (d := 13) (v := .bool true) rfl rfl (by kernel_rfl) (by kernel_rfl) (by kernel_rfl) hQ (Or.inl ⟨by rfl, fun _ => by first | rfl | (go_simp; done) | (go_simp; rfl) | (go_simp; intro h; exfalso; omega)⟩) ?_
                simp only [Act.put, List.setIfInBounds_toArray, List.set_cons_zero, List.set_cons_succ]
                refine wpAny_done (by kernel_rfl) (hN _ _ ?_) _
                have hb6' : Below wr.heap.size wr w6 := ((Below.refl _ _).drew).trans (hb6.mono (Nat.le_refl _))
                have HB6 := Lib.hid (HB.out.trans (hb6'.mono HB.out.size))
                have HWI := Lib.hid (how.ints hcw)
                clear hb6 hb6' how hcw c0 c1 c2 HB HTr HWc
                go_wp2
                go_loopw [14] (fun kv wk => NwRel W.length w6 kv wk) (fun kv _ => W.length - (intOf kv).toNat)
                case atStart => exact ⟨1, Nat.le_refl _, Hwl.out, rfl, Below.refl _ _⟩
                case round =>
                  obtain ⟨k, hk1, hk, rfl, hbk0⟩ := hrel
                  by_cases hkl : k < W.length
                  · have hkl' : (k : Int) < (W.length : Int) := by omega
                    have hk0 : (0 : Int) ≤ (k : Int) := Int.natCast_nonneg _
                    obtain ⟨kk, hkk⟩ : ∃ kk, kk = k - 1 := ⟨_, rfl⟩
                    obtain ⟨km, hkm⟩ : ∃ km : Int, km = (kk : Int) := ⟨_, rfl⟩
                    have hkm1 : wrap64 ((k : Int) - 1) = km := by rw [hkm, hkk]; unfold wrap64; omega
                    have hkm2 : IntKind.i64.wrap ((k : Int) - 1) = km := by rw [hkm, hkk, IntWalk.i64_in _ (by omega)]; omega
                    have hkml : km < (W.length : Int) := by omega
                    have hkm0 : 0 ≤ km := by omega
                    have hd := HM.out k hk1 hkl
                    rw [← hkk] at hd
                    have hI := HWI.out
                    obtain ⟨_, _, he, _, ha⟩ := hI
                    cases he
                    obtain ⟨q, qo, rfl, hq, hrr⟩ := ha (by intro h; rw [h] at hkl; simp at hkl)
                    have d0 := (hrr.below hbk0 hq) kk (by omega)
                    have d1 := (hrr.below hbk0 hq) k hkl
                    have i0 := Hin.out kk (by omega)
                    have i1 := Hin.out k hkl
                    have hbk : Below w5.heap.size w5 wr := HB6.out.trans (hbk0.mono HB6.out.size)
                    have m0 := HCm.out wr hbk
                    have hTk := HT.out.below hbk
                    have Hbk0 := Lib.hid hbk0
                    clear hrr ha hkk hbk0
                    generalize W.getD kk 0 = x at *
                    generalize W.getD k 0 = y at *
                    have HDc := Lib.hid (fun w' (h : Below wr.heap.size wr w') => HDir.out x y (by unfold W64; omega) (by unfold W64; omega) w' (hTk.below h))
                    have HCk := Lib.hid (fun w' (h : Below wr.heap.size wr w') => HCm.out w' (hbk.trans (h.mono hbk.size)))
                    obtain ⟨dv, hdd⟩ : ∃ dv, directOf n T x y = dv := ⟨_, rfl⟩
                    rw [hdd] at hd HDc
                    have hdv : decide (dv > rm) = false := decide_eq_false (by omega)
                    have Hbk := Lib.hid hbk
                    clear hdd hd i0 i1 hTk
                    go_wp2
                    refine wp_region_any (by kernel_rfl) ?_
                    change wpAny _ _ _ _ 18 #[false, false, false, false, false, false, false, false, false, false, false, false, false, false, false, false, false, false] _ (World.drew _)
                    refine with_Q (fun _ _ _ _ _ h => h) (fun Q hQ hN => ?_)
                    refine take_op (i := 0) (d := 103) (v := .int .i64 n) rfl rfl (by kernel_rfl) (by kernel_rfl) (by kernel_rfl) hQ (Or.inl ⟨by rfl, fun _ => by first | rfl | (go_simp; done) | (go_simp; rfl) | (go_simp; intro h; exfalso; omega)⟩) ?_
                    simp only [Act.put, List.setIfInBounds_toArray, List.set_cons_zero, List.set_cons_succ]
                    refine take_op (i := 1) (d := 104) (v := .slice (some ⟨g, 0, none⟩) U.length cp) rfl rfl (by kernel_rfl) (by kernel_rfl) (by kernel_rfl) hQ (Or.inl ⟨by rfl, fun _ => by first | rfl | (go_simp; done) | (go_simp; rfl) | (go_simp; intro h; exfalso; omega)⟩) ?_
                    simp only [Act.put, List.setIfInBounds_toArray, List.set_cons_zero, List.set_cons_succ]
                    refine take_op (i := 2) (d := 105) (v := .slice (some ⟨q, qo, none⟩) W.length cpw) rfl rfl (by kernel_rfl) (by kernel_rfl) (by kernel_rfl) hQ (Or.inl ⟨by rfl, fun _ => by first | rfl | (go_simp; done) | (go_simp; rfl) | (go_simp; intro h; exfalso; omega)⟩) ?_
                    simp only [Act.put, List.setIfInBounds_toArray, List.set_cons_zero, List.set_cons_succ]
                    refine take_op (i := 3) (d := 106) (v := .int .i64 k) rfl rfl (by kernel_rfl) (by kernel_rfl) (by kernel_rfl) hQ (Or.inl ⟨by rfl, fun _ => by first | rfl | (go_simp; done) | (go_simp; rfl) | (go_simp; intro h; exfalso; omega)⟩) ?_
                    simp only [Act.put, List.setIfInBounds_toArray, List.set_cons_zero, List.set_cons_succ]
                    refine take_op (i := 4) (d := 107) (v := .int .i64 km) rfl rfl (by kernel_rfl) (by kernel_rfl) (by kernel_rfl) hQ (Or.inl ⟨by rfl, fun _ => by first | rfl | (go_simp; done) | (go_simp; rfl) | (go_simp; intro h; exfalso; omega)⟩) ?_
                    simp only [Act.put, List.setIfInBounds_toArray, List.set_cons_zero, List.set_cons_succ]
                    refine take_op (i := 5) (d := 108) (v := .pointer (some ⟨q, qo + kk, none⟩)) rfl rfl (by kernel_rfl) (by kernel_rfl) (by kernel_rfl) hQ (Or.inl ⟨by rfl, fun _ => by first | rfl | (go_simp; done) | (go_simp; rfl) | (go_simp; intro h; exfalso; omega)⟩) ?_
                    simp only [Act.put, List.setIfInBounds_toArray, List.set_cons_zero, List.set_cons_succ]
                    refine take_op (i := 7) (d := 110) (v := .slice (some ⟨q, qo, none⟩) W.length cpw) rfl rfl (by kernel_rfl) (by kernel_rfl) (by kernel_rfl) hQ (Or.inl ⟨by rfl, fun _ => by first | rfl | (go_simp; done) | (go_simp; rfl) | (go_simp; intro h; exfalso; omega)⟩) ?_
                    simp only [Act.put, List.setIfInBounds_toArray, List.set_cons_zero, List.set_cons_succ]
                    refine take_op (i := 8) (d := 111) (v := .int .i64 k) rfl rfl (by kernel_rfl) (by kernel_rfl) (by kernel_rfl) hQ (Or.inl ⟨by rfl, fun _ => by first | rfl | (go_simp; done) | (go_simp; rfl) | (go_simp; intro h; exfalso; omega)⟩) ?_
                    simp only [Act.put, List.setIfInBounds_toArray, List.set_cons_zero, List.set_cons_succ]
                    refine take_op (i := 9) (d := 112) (v := .pointer (some ⟨q, qo + k, none⟩)) rfl rfl (by kernel_rfl) (by kernel_rfl) (by kernel_rfl) hQ (Or.inl ⟨by rfl, fun _ => by first | rfl | (go_simp; done) | (go_simp; rfl) | (go_simp; intro h; exfalso; omega)⟩) ?_
                    simp only [Act.put, List.setIfInBounds_toArray, List.set_cons_zero, List.set_cons_succ]
                    refine take_op (i := 12) (d := 115) (v := .slice (some ⟨b, o, none⟩) xs.length cap) rfl rfl (by kernel_rfl) (by kernel_rfl) (by kernel_rfl) hQ (Or.inl ⟨by rfl, fun _ => by first | rfl | (go_simp; done) | (go_simp; rfl) | (go_simp; intro h; exfalso; omega)⟩) ?_
                    simp only [Act.put, List.setIfInBounds_toArray, List.set_cons_zero, List.set_cons_succ]
                    refine take_op (i := 13) (d := 116) (v := .int .i64 i) rfl rfl (by kernel_rfl) (by kernel_rfl) (by kernel_rfl) hQ (Or.inl ⟨by rfl, fun _ => by first | rfl | (go_simp; done) | (go_simp; rfl) | (go_simp; intro h; exfalso; omega)⟩) ?_
                    simp only [Act.put, List.setIfInBounds_toArray, List.set_cons_zero, List.set_cons_succ]
                    refine take_op (i := 14) (d := 117) (v := .pointer (some ⟨b, o + i * 3, none⟩)) rfl rfl (by kernel_rfl) (by kernel_rfl) (by kernel_rfl) hQ (Or.inl ⟨by rfl, fun _ => by first | rfl | (go_simp; done) | (go_simp; rfl) | (go_simp; intro h; exfalso; omega)⟩) ?_
                    simp only [Act.put, List.setIfInBounds_toArray, List.set_cons_zero, List.set_cons_succ]
                    refine take_op (i := 15) (d := 118) (v := .pointer (some ⟨b, o + i * 3 + 2, none⟩)) rfl rfl (by kernel_rfl) (by kernel_rfl) (by kernel_rfl) hQ (Or.inl ⟨by rfl, fun _ => by first | rfl | (go_simp; done) | (go_simp; rfl) | (go_simp; intro h; exfalso; omega)⟩) ?_
                    simp only [Act.put, List.setIfInBounds_toArray, List.set_cons_zero, List.set_cons_succ]
                    refine wpAny_ready (rs := [6, 10, 16]) (by kernel_rfl) (by simp) ?_
                    refine AllReady.cons rfl (fun K hK => ?_) (AllReady.cons rfl (fun K hK => ?_) (AllReady.cons rfl (fun K hK => ?_) AllReady.nil))
                    · go_simp
                      refine hK _ _ ?_
                      try simp only [Act.put, List.setIfInBounds_toArray, List.set_cons_zero, List.set_cons_succ]
                      clear hK K
                      refine wpAny_ready (rs := [10, 16]) (by kernel_rfl) (by simp) ?_
                      refine AllReady.cons rfl (fun K hK => ?_) (AllReady.cons rfl (fun K hK => ?_) AllReady.nil)
                      · go_simp
                        refine hK _ _ ?_
                        try simp only [Act.put, List.setIfInBounds_toArray, List.set_cons_zero, List.set_cons_succ]
                        clear hK K
                        refine wpAny_ready (rs := [11, 16]) (by kernel_rfl) (by simp) ?_
                        refine AllReady.cons rfl (fun K hK => ?_) (AllReady.cons rfl (fun K hK => ?_) AllReady.nil)
                        · go_simp
                          go_at_call 27
                          refine (HDc.out _ ((Below.refl _ _).drew)).mono ?_; rintro e w8 ⟨rfl, hb8⟩
                          refine hK _ _ ?_
                          try simp only [Act.put, List.setIfInBounds_toArray, List.set_cons_zero, List.set_cons_succ]
                          clear hK K
                          have hb8' : Below wr.heap.size wr w8 := ((Below.refl _ _).drew).trans (hb8.mono (Nat.le_refl _))
                          have m8 := HCk.out w8 hb8'
                          refine wpAny_ready (rs := [16]) (by kernel_rfl) (by simp) ?_
                          refine AllReady.cons rfl (fun K hK => ?_) AllReady.nil
                          go_simp
                          refine hK _ _ ?_
                          try simp only [Act.put, List.setIfInBounds_toArray, List.set_cons_zero, List.set_cons_succ]
                          clear hK K
                          refine take_op (i := 17) (d := 120) (v := .bool (decide (dv > rm))) rfl rfl (by kernel_rfl) (by kernel_rfl) (by kernel_rfl) hQ (Or.inl ⟨by rfl, fun _ => by first | rfl | (go_simp; done) | (go_simp; rfl) | (go_simp; intro h; exfalso; omega)⟩) ?_
                          simp only [Act.put, List.setIfInBounds_toArray, List.set_cons_zero, List.set_cons_succ]
                          refine wpAny_done (by kernel_rfl) (hN _ _ ?_) _
                          have HB8 := Lib.hid (Hbk0.out.trans (hb8'.mono Hbk0.out.size))
                          clear hb8 hb8' m8
                          rw [hdv]
                          go_wp2
                          go_roundw
                          case rel => exact ⟨k + 1, by omega, hkl, by go_num, HB8.out⟩
                          case measure => simp [intOf]; omega
                        · go_simp
                          refine hK _ _ ?_
                          try simp only [Act.put, List.setIfInBounds_toArray, List.set_cons_zero, List.set_cons_succ]
                          clear hK K
                          refine wpAny_ready (rs := [11]) (by kernel_rfl) (by simp) ?_
                          refine AllReady.cons rfl (fun K hK => ?_) AllReady.nil
                          go_simp
                          go_at_call 27
                          refine (HDc.out _ ((Below.refl _ _).drew)).mono ?_; rintro e w8 ⟨rfl, hb8⟩
                          refine hK _ _ ?_
                          try simp only [Act.put, List.setIfInBounds_toArray, List.set_cons_zero, List.set_cons_succ]
                          clear hK K
                          have hb8' : Below wr.heap.size wr w8 := ((Below.refl _ _).drew).trans (hb8.mono (Nat.le_refl _))
                          have m8 := HCk.out w8 hb8'
                          refine take_op (i := 17) (d := 120) (v := .bool (decide (dv > rm))) rfl rfl (by kernel_rfl) (by kernel_rfl) (by kernel_rfl) hQ (Or.inl ⟨by rfl, fun _ => by first | rfl | (go_simp; done) | (go_simp; rfl) | (go_simp; intro h; exfalso; omega)⟩) ?_
                          simp only [Act.put, List.setIfInBounds_toArray, List.set_cons_zero, List.set_cons_succ]
                          refine wpAny_done (by kernel_rfl) (hN _ _ ?_) _
                          have HB8 := Lib.hid (Hbk0.out.trans (hb8'.mono Hbk0.out.size))
                          clear hb8 hb8' m8
                          rw [hdv]
                          go_wp2
                          go_roundw
                          case rel => exact ⟨k + 1, by omega, hkl, by go_num, HB8.out⟩
                          case measure => simp [intOf]; omega
                      · go_simp
                        refine hK _ _ ?_
                        try simp only [Act.put, List.setIfInBounds_toArray, List.set_cons_zero, List.set_cons_succ]
                        clear hK K
                        refine wpAny_ready (rs := [10]) (by kernel_rfl) (by simp) ?_
                        refine AllReady.cons rfl (fun K hK => ?_) AllReady.nil
                        go_simp
                        refine hK _ _ ?_
                        try simp only [Act.put, List.setIfInBounds_toArray, List.set_cons_zero, List.set_cons_succ]
                        clear hK K
                        refine wpAny_ready (rs := [11]) (by kernel_rfl) (by simp) ?_
                        refine AllReady.cons rfl (fun K hK => ?_) AllReady.nil
                        go_simp
                        go_at_call 27
                        refine (HDc.out _ ((Below.refl _ _).drew)).mono ?_; rintro e w8 ⟨rfl, hb8⟩
                        refine hK _ _ ?_
                        try simp only [Act.put, List.setIfInBounds_toArray, List.set_cons_zero, List.set_cons_succ]
                        clear hK K
                        have hb8' : Below wr.heap.size wr w8 := ((Below.refl _ _).drew).trans (hb8.mono (Nat.le_refl _))
                        have m8 := HCk.out w8 hb8'
                        refine take_op (i := 17) (d := 120) (v := .bool (decide (dv > rm))) rfl rfl (by kernel_rfl) (by kernel_rfl) (by kernel_rfl) hQ (Or.inl ⟨by rfl, fun _ => by first | rfl | (go_simp; done) | (go_simp; rfl) | (go_simp; intro h; exfalso; omega)⟩) ?_
                        simp only [Act.put, List.setIfInBounds_toArray, List.set_cons_zero, List.set_cons_succ]
                        refine wpAny_done (by kernel_rfl) (hN _ _ ?_) _
                        have HB8 := Lib.hid (Hbk0.out.trans (hb8'.mono Hbk0.out.size))
                        clear hb8 hb8' m8
                        rw [hdv]
                        go_wp2
                        go_roundw
                        case rel => exact ⟨k + 1, by omega, hkl, by go_num, HB8.out⟩
                        case measure => simp [intOf]; omega
                    · go_simp
                      refine hK _ _ ?_
                      try simp only [Act.put, List.setIfInBounds_toArray, List.set_cons_zero, List.set_cons_succ]
                      clear hK K
                      refine wpAny_ready (rs := [6, 16]) (by kernel_rfl) (by simp) ?_
                      refine AllReady.cons rfl (fun K hK => ?_) (AllReady.cons rfl (fun K hK => ?_) AllReady.nil)
                      · go_simp
                        refine hK _ _ ?_
                        try simp only [Act.put, List.setIfInBounds_toArray, List.set_cons_zero, List.set_cons_succ]
                        clear hK K
                        refine wpAny_ready (rs := [11, 16]) (by kernel_rfl) (by simp) ?_
                        refine AllReady.cons rfl (fun K hK => ?_) (AllReady.cons rfl (fun K hK => ?_) AllReady.nil)
                        · go_simp
                          go_at_call 27
                          refine (HDc.out _ ((Below.refl _ _).drew)).mono ?_; rintro e w8 ⟨rfl, hb8⟩
                          refine hK _ _ ?_
                          try simp only [Act.put, List.setIfInBounds_toArray, List.set_cons_zero, List.set_cons_succ]
                          clear hK K
                          have hb8' : Below wr.heap.size wr w8 := ((Below.refl _ _).drew).trans (hb8.mono (Nat.le_refl _))
                          have m8 := HCk.out w8 hb8'
                          refine wpAny_ready (rs := [16]) (by kernel_rfl) (by simp) ?_
                          refine AllReady.cons rfl (fun K hK => ?_) AllReady.nil
                          go_simp
                          refine hK _ _ ?_
                          try simp only [Act.put, List.setIfInBounds_toArray, List.set_cons_zero, List.set_cons_succ]
                          clear hK K
                          refine take_op (i := 17) (d := 120) (v := .bool (decide (dv > rm))) rfl rfl (by kernel_rfl) (by kernel_rfl) (by kernel_rfl) hQ (Or.inl ⟨by rfl, fun _ => by first | rfl | (go_simp; done) | (go_simp; rfl) | (go_simp; intro h; exfalso; omega)⟩) ?_
                          simp only [Act.put, List.setIfInBounds_toArray, List.set_cons_zero, List.set_cons_succ]
                          refine wpAny_done (by kernel_rfl) (hN _ _ ?_) _
                          have HB8 := Lib.hid (Hbk0.out.trans (hb8'.mono Hbk0.out.size))
                          clear hb8 hb8' m8
                          rw [hdv]
                          go_wp2
                          go_roundw
                          case rel => exact ⟨k + 1, by omega, hkl, by go_num, HB8.out⟩
                          case measure => simp [intOf]; omega
                        · go_simp
                          refine hK _ _ ?_
                          try simp only [Act.put, List.setIfInBounds_toArray, List.set_cons_zero, List.set_cons_succ]
                          clear hK K
                          refine wpAny_ready (rs := [11]) (by kernel_rfl) (by simp) ?_
                          refine AllReady.cons rfl (fun K hK => ?_) AllReady.nil
                          go_simp
                          go_at_call 27
                          refine (HDc.out _ ((Below.refl _ _).drew)).mono ?_; rintro e w8 ⟨rfl, hb8⟩
                          refine hK _ _ ?_
                          try simp only [Act.put, List.setIfInBounds_toArray, List.set_cons_zero, List.set_cons_succ]
                          clear hK K
                          have hb8' : Below wr.heap.size wr w8 := ((Below.refl _ _).drew).trans (hb8.mono (Nat.le_refl _))
                          have m8 := HCk.out w8 hb8'
                          refine take_op (i := 17) (d := 120) (v := .bool (decide (dv > rm))) rfl rfl (by kernel_rfl) (by kernel_rfl) (by kernel_rfl) hQ (Or.inl ⟨by rfl, fun _ => by first | rfl | (go_simp; done) | (go_simp; rfl) | (go_simp; intro h; exfalso; omega)⟩) ?_
                          simp only [Act.put, List.setIfInBounds_toArray, List.set_cons_zero, List.set_cons_succ]
                          refine wpAny_done (by kernel_rfl) (hN _ _ ?_) _
                          have HB8 := Lib.hid (Hbk0.out.trans (hb8'.mono Hbk0.out.size))
                          clear hb8 hb8' m8
                          rw [hdv]
                          go_wp2
                          go_roundw
                          case rel => exact ⟨k + 1, by omega, hkl, by go_num, HB8.out⟩
                          case measure => simp [intOf]; omega
                      · go_simp
                        refine hK _ _ ?_
                        try simp only [Act.put, List.setIfInBounds_toArray, List.set_cons_zero, List.set_cons_succ]
                        clear hK K
                        refine wpAny_ready (rs := [6]) (by kernel_rfl) (by simp) ?_
                        refine AllReady.cons rfl (fun K hK => ?_) AllReady.nil
                        go_simp
                        refine hK _ _ ?_
                        try simp only [Act.put, List.setIfInBounds_toArray, List.set_cons_zero, List.set_cons_succ]
                        clear hK K
                        refine wpAny_ready (rs := [11]) (by kernel_rfl) (by simp) ?_
                        refine AllReady.cons rfl (fun K hK => ?_) AllReady.nil
                        go_simp
                        go_at_call 27
                        refine (HDc.out _ ((Below.refl _ _).drew)).mono ?_; rintro e w8 ⟨rfl, hb8⟩
                        refine hK _ _ ?_
                        try simp only [Act.put, List.setIfInBounds_toArray, List.set_cons_zero, List.set_cons_succ]
                        clear hK K
                        have hb8' : Below wr.heap.size wr w8 := ((Below.refl _ _).drew).trans (hb8.mono (Nat.le_refl _))
                        have m8 := HCk.out w8 hb8'
                        refine take_op (i := 17) (d := 120) (v := .bool (decide (dv > rm))) rfl rfl (by kernel_rfl) (by kernel_rfl) (by kernel_rfl) hQ (Or.inl ⟨by rfl, fun _ => by first | rfl | (go_simp; done) | (go_simp; rfl) | (go_simp; intro h; exfalso; omega)⟩) ?_
                        simp only [Act.put, List.setIfInBounds_toArray, List.set_cons_zero, List.set_cons_succ]
                        refine wpAny_done (by kernel_rfl) (hN _ _ ?_) _
                        have HB8 := Lib.hid (Hbk0.out.trans (hb8'.mono Hbk0.out.size))
                        clear hb8 hb8' m8
                        rw [hdv]
                        go_wp2
                        go_roundw
                        case rel => exact ⟨k + 1, by omega, hkl, by go_num, HB8.out⟩
                        case measure => simp [intOf]; omega
                    · go_simp
                      refine hK _ _ ?_
                      try simp only [Act.put, List.setIfInBounds_toArray, List.set_cons_zero, List.set_cons_succ]
                      clear hK K
                      refine wpAny_ready (rs := [6, 10]) (by kernel_rfl) (by simp) ?_
                      refine AllReady.cons rfl (fun K hK => ?_) (AllReady.cons rfl (fun K hK => ?_) AllReady.nil)
                      · go_simp
                        refine hK _ _ ?_
                        try simp only [Act.put, List.setIfInBounds_toArray, List.set_cons_zero, List.set_cons_succ]
                        clear hK K
                        refine wpAny_ready (rs := [10]) (by kernel_rfl) (by simp) ?_
                        refine AllReady.cons rfl (fun K hK => ?_) AllReady.nil
                        go_simp
                        refine hK _ _ ?_
                        try simp only [Act.put, List.setIfInBounds_toArray, List.set_cons_zero, List.set_cons_succ]
                        clear hK K
                        refine wpAny_ready (rs := [11]) (by kernel_rfl) (by simp) ?_
                        refine AllReady.cons rfl (fun K hK => ?_) AllReady.nil
                        go_simp
                        go_at_call 27
                        refine (HDc.out _ ((Below.refl _ _).drew)).mono ?_; rintro e w8 ⟨rfl, hb8⟩
                        refine hK _ _ ?_
                        try simp only [Act.put, List.setIfInBounds_toArray, List.set_cons_zero, List.set_cons_succ]
                        clear hK K
                        have hb8' : Below wr.heap.size wr w8 := ((Below.refl _ _).drew).trans (hb8.mono (Nat.le_refl _))
                        have m8 := HCk.out w8 hb8'
                        refine take_op (i := 17) (d := 120) (v := .bool (decide (dv > rm))) rfl rfl (by kernel_rfl) (by kernel_rfl) (by kernel_rfl) hQ (Or.inl ⟨by rfl, fun _ => by first | rfl | (go_simp; done) | (go_simp; rfl) | (go_simp; intro h; exfalso; omega)⟩) ?_
                        simp only [Act.put, List.setIfInBounds_toArray, List.set_cons_zero, List.set_cons_succ]
                        refine wpAny_done (by kernel_rfl) (hN _ _ ?_) _
                        have HB8 := Lib.hid (Hbk0.out.trans (hb8'.mono Hbk0.out.size))
                        clear hb8 hb8' m8
                        rw [hdv]
                        go_wp2
                        go_roundw
                        case rel => exact ⟨k + 1, by omega, hkl, by go_num, HB8.out⟩
                        case measure => simp [intOf]; omega
                      · go_simp
                        refine hK _ _ ?_
                        try simp only [Act.put, List.setIfInBounds_toArray, List.set_cons_zero, List.set_cons_succ]
                        clear hK K
                        refine wpAny_ready (rs := [6]) (by kernel_rfl) (by simp) ?_
                        refine AllReady.cons rfl (fun K hK => ?_) AllReady.nil
                        go_simp
                        refine hK _ _ ?_
                        try simp only [Act.put, List.setIfInBounds_toArray, List.set_cons_zero, List.set_cons_succ]
                        clear hK K
                        refine wpAny_ready (rs := [11]) (by kernel_rfl) (by simp) ?_
                        refine AllReady.cons rfl (fun K hK => ?_) AllReady.nil
                        go_simp
                        go_at_call 27
                        refine (HDc.out _ ((Below.refl _ _).drew)).mono ?_; rintro e w8 ⟨rfl, hb8⟩
                        refine hK _ _ ?_
                        try simp only [Act.put, List.setIfInBounds_toArray, List.set_cons_zero, List.set_cons_succ]
                        clear hK K
                        have hb8' : Below wr.heap.size wr w8 := ((Below.refl _ _).drew).trans (hb8.mono (Nat.le_refl _))
                        have m8 := HCk.out w8 hb8'
                        refine take_op (i := 17) (d := 120) (v := .bool (decide (dv > rm))) rfl rfl (by kernel_rfl) (by kernel_rfl) (by kernel_rfl) hQ (Or.inl ⟨by rfl, fun _ => by first | rfl | (go_simp; done) | (go_simp; rfl) | (go_simp; intro h; exfalso; omega)⟩) ?_
                        simp only [Act.put, List.setIfInBounds_toArray, List.set_cons_zero, List.set_cons_succ]
                        refine wpAny_done (by kernel_rfl) (hN _ _ ?_) _
                        have HB8 := Lib.hid (Hbk0.out.trans (hb8'.mono Hbk0.out.size))
                        clear hb8 hb8' m8
                        rw [hdv]
                        go_wp2
                        go_roundw
                        case rel => exact ⟨k + 1, by omega, hkl, by go_num, HB8.out⟩
                        case measure => simp [intOf]; omega
                  · obtain rfl : k = W.length := by omega
                    have HB7 := Lib.hid (HB6.out.trans (hbk0.mono HB6.out.size))
                    clear hbk0
                    go_wp2
                    exact ⟨⟨i + 1, hil, by go_num, HB7.out⟩, by simp [intOf]; omega⟩
              · go_simp
                refine hK _ _ ?_
                try simp only [Act.put, List.setIfInBounds_toArray, List.set_cons_zero, List.set_cons_succ]
                clear hK K
                refine wpAny_ready (rs := [6]) (by kernel_rfl) (by simp) ?_
                refine AllReady.cons rfl (fun K hK => ?_) AllReady.nil
                go_simp
                refine hK _ _ ?_
                try simp only [Act.put, List.setIfInBounds_toArray, List.set_cons_zero, List.set_cons_succ]
                clear hK K
                refine wpAny_ready (rs := [12]) (by kernel_rfl) (by simp) ?_
                refine AllReady.cons rfl (fun K hK => ?_) AllReady.nil
                go_simp
                go_at_call 29
                refine (HWc.out _ (HTr.out.below ((Below.refl _ _).drew))).mono ?_; rintro e w6 ⟨adw, cpw, rfl, hcw, how, _, hb6⟩
                refine hK _ _ ?_
                try simp only [Act.put, List.setIfInBounds_toArray, List.set_cons_zero, List.set_cons_succ]
                clear hK K
                refine take_op (i := 13) (d := 79) (v := .tuple #[.slice adw W.length cpw, .bool true]) rfl rfl (by kernel_rfl) (by kernel_rfl) (by kernel_rfl) hQ (Or.inl ⟨by rfl, fun _ => by first | rfl | (go_simp; done) | (go_simp; rfl) | (go_simp; intro h; exfalso; omega)⟩) ?_
                simp only [Act.put, List.setIfInBounds_toArray, List.set_cons_zero, List.set_cons_succ]
                refine take_op (i := 14) (d := 93) (v := .slice adw W.length cpw) rfl rfl (by kernel_rfl) (by kernel_rfl) (by kernel_rfl) hQ (Or.inl ⟨by rfl, fun _ => by first | rfl | (go_simp; done) | (go_simp; rfl) | (go_simp; intro h; exfalso; omega)⟩) ?_
                simp only [Act.put, List.setIfInBounds_toArray, List.set_cons_zero, List.set_cons_succ]
                refine take_op (i := 15) (d := 94) (v := .bool true) rfl rfl (by kernel_rfl) (by kernel_rfl) (by kernel_rfl) hQ (Or.inl ⟨by rfl, fun _ => by first | rfl | (go_simp; done) | (go_simp; rfl) | (go_simp; intro h; exfalso; omega)⟩) ?_
                simp only [Act.put, List.setIfInBounds_toArray, List.set_cons_zero, List.set_cons_succ]
                refine take_op (i := 16) (d := 12) (v := .slice adw W.length cpw) rfl rfl (by kernel_rfl) (by kernel_rfl) (by kernel_rfl) hQ (Or.inl ⟨by rfl, fun _ => by first | rfl | (go_simp; done) | (go_simp; rfl) | (go_simp; intro h; exfalso; omega)⟩) ?_
                simp only [Act.put, List.setIfInBounds_toArray, List.set_cons_zero, List.set_cons_succ]
                refine take_op (i := 17) (d := 13) (v := .bool true) rfl rfl (by kernel_rfl) (by kernel_rfl) (by kernel_rfl) hQ (Or.inl ⟨by rfl, fun _ => by first | rfl | (go_simp; done) | (go_simp; rfl) | (go_simp; intro h; exfalso; omega)⟩) ?_
                simp only [Act.put, List.setIfInBounds_toArray, List.set_cons_zero, List.set_cons_succ]
                refine wpAny_done (by kernel_rfl) (hN _ _ ?_) _
                have hb6' : Below wr.heap.size wr w6 := ((Below.refl _ _).drew).trans (hb6.mono (Nat.le_refl _))
                have HB6 := Lib.hid (HB.out.trans (hb6'.mono HB.out.size))
                have HWI := Lib.hid (how.ints hcw)
                clear hb6 hb6' how hcw c0 c1 c2 HB HTr HWc
                go_wp2
                go_loopw [14] (fun kv wk => NwRel W.length w6 kv wk) (fun kv _ => W.length - (intOf kv).toNat)
                case atStart => exact ⟨1, Nat.le_refl _, Hwl.out, rfl, Below.refl _ _⟩
                case round =>
                  obtain ⟨k, hk1, hk, rfl, hbk0⟩ := hrel
                  by_cases hkl : k < W.length
                  · have hkl' : (k : Int) < (W.length : Int) := by omega
                    have hk0 : (0 : Int) ≤ (k : Int) := Int.natCast_nonneg _
                    obtain ⟨kk, hkk⟩ : ∃ kk, kk = k - 1 := ⟨_, rfl⟩
                    obtain ⟨km, hkm⟩ : ∃ km : Int, km = (kk : Int) := ⟨_, rfl⟩
                    have hkm1 : wrap64 ((k : Int) - 1) = km := by rw [hkm, hkk]; unfold wrap64; omega
                    have hkm2 : IntKind.i64.wrap ((k : Int) - 1) = km := by rw [hkm, hkk, IntWalk.i64_in _ (by omega)]; omega
                    have hkml : km < (W.length : Int) := by omega
                    have hkm0 : 0 ≤ km := by omega
                    have hd := HM.out k hk1 hkl
                    rw [← hkk] at hd
                    have hI := HWI.out
                    obtain ⟨_, _, he, _, ha⟩ := hI
                    cases he
                    obtain ⟨q, qo, rfl, hq, hrr⟩ := ha (by intro h; rw [h] at hkl; simp at hkl)
                    have d0 := (hrr.below hbk0 hq) kk (by omega)
                    have d1 := (hrr.below hbk0 hq) k hkl
                    have i0 := Hin.out kk (by omega)
                    have i1 := Hin.out k hkl
                    have hbk : Below w5.heap.size w5 wr := HB6.out.trans (hbk0.mono HB6.out.size)
                    have m0 := HCm.out wr hbk
                    have hTk := HT.out.below hbk
                    have Hbk0 := Lib.hid hbk0
                    clear hrr ha hkk hbk0
                    generalize W.getD kk 0 = x at *
                    generalize W.getD k 0 = y at *
                    have HDc := Lib.hid (fun w' (h : Below wr.heap.size wr w') => HDir.out x y (by unfold W64; omega) (by unfold W64; omega) w' (hTk.below h))
                    have HCk := Lib.hid (fun w' (h : Below wr.heap.size wr w') => HCm.out w' (hbk.trans (h.mono hbk.size)))
                    obtain ⟨dv, hdd⟩ : ∃ dv, directOf n T x y = dv := ⟨_, rfl⟩
                    rw [hdd] at hd HDc
                    have hdv : decide (dv > rm) = false := decide_eq_false (by omega)
                    have Hbk := Lib.hid hbk
                    clear hdd hd i0 i1 hTk
                    go_wp2
                    refine wp_region_any (by kernel_rfl) ?_
                    change wpAny _ _ _ _ 18 #[false, false, false, false, false, false, false, false, false, false, false, false, false, false, false, false, false, false] _ (World.drew _)
                    refine with_Q (fun _ _ _ _ _ h => h) (fun Q hQ hN => ?_)
                    refine take_op (i := 0) (d := 103) (v := .int .i64 n) rfl rfl (by kernel_rfl) (by kernel_rfl) (by kernel_rfl) hQ (Or.inl ⟨by rfl, fun _ => by first | rfl | (go_simp; done) | (go_simp; rfl) | (go_simp; intro h; exfalso; omega)⟩) ?_
                    simp only [Act.put, List.setIfInBounds_toArray, List.set_cons_zero, List.set_cons_succ]
                    refine take_op (i := 1) (d := 104) (v := .slice (some ⟨g, 0, none⟩) U.length cp) rfl rfl (by kernel_rfl) (by kernel_rfl) (by kernel_rfl) hQ (Or.inl ⟨by rfl, fun _ => by first | rfl | (go_simp; done) | (go_simp; rfl) | (go_simp; intro h; exfalso; omega)⟩) ?_
                    simp only [Act.put, List.setIfInBounds_toArray, List.set_cons_zero, List.set_cons_succ]
                    refine take_op (i := 2) (d := 105) (v := .slice (some ⟨q, qo, none⟩) W.length cpw) rfl rfl (by kernel_rfl) (by kernel_rfl) (by kernel_rfl) hQ (Or.inl ⟨by rfl, fun _ => by first | rfl | (go_simp; done) | (go_simp; rfl) | (go_simp; intro h; exfalso; omega)⟩) ?_
                    simp only [Act.put, List.setIfInBounds_toArray, List.set_cons_zero, List.set_cons_succ]
                    refine take_op (i := 3) (d := 106) (v := .int .i64 k) rfl rfl (by kernel_rfl) (by kernel_rfl) (by kernel_rfl) hQ (Or.inl ⟨by rfl, fun _ => by first | rfl | (go_simp; done) | (go_simp; rfl) | (go_simp; intro h; exfalso; omega)⟩) ?_
                    simp only [Act.put, List.setIfInBounds_toArray, List.set_cons_zero, List.set_cons_succ]
                    refine take_op (i := 4) (d := 107) (v := .int .i64 km) rfl rfl (by kernel_rfl) (by kernel_rfl) (by kernel_rfl) hQ (Or.inl ⟨by rfl, fun _ => by first | rfl | (go_simp; done) | (go_simp; rfl) | (go_simp; intro h; exfalso; omega)⟩) ?_
                    simp only [Act.put, List.setIfInBounds_toArray, List.set_cons_zero, List.set_cons_succ]
                    refine take_op (i := 5) (d := 108) (v := .pointer (some ⟨q, qo + kk, none⟩)) rfl rfl (by kernel_rfl) (by kernel_rfl) (by kernel_rfl) hQ (Or.inl ⟨by rfl, fun _ => by first | rfl | (go_simp; done) | (go_simp; rfl) | (go_simp; intro h; exfalso; omega)⟩) ?_
                    simp only [Act.put, List.setIfInBounds_toArray, List.set_cons_zero, List.set_cons_succ]
                    refine take_op (i := 7) (d := 110) (v := .slice (some ⟨q, qo, none⟩) W.length cpw) rfl rfl (by kernel_rfl) (by kernel_rfl) (by kernel_rfl) hQ (Or.inl ⟨by rfl, fun _ => by first | rfl | (go_simp; done) | (go_simp; rfl) | (go_simp; intro h; exfalso; omega)⟩) ?_
                    simp only [Act.put, List.setIfInBounds_toArray, List.set_cons_zero, List.set_cons_succ]
                    refine take_op (i := 8) (d := 111) (v := .int .i64 k) rfl rfl (by kernel_rfl) (by kernel_rfl) (by kernel_rfl) hQ (Or.inl ⟨by rfl, fun _ => by first | rfl | (go_simp; done) | (go_simp; rfl) | (go_simp; intro h; exfalso; omega)⟩) ?_
                    simp only [Act.put, List.setIfInBounds_toArray, List.set_cons_zero, List.set_cons_succ]
                    refine take_op (i := 9) (d := 112) (v := .pointer (some ⟨q, qo + k, none⟩)) rfl rfl (by kernel_rfl) (by kernel_rfl) (by kernel_rfl) hQ (Or.inl ⟨by rfl, fun _ => by first | rfl | (go_simp; done) | (go_simp; rfl) | (go_simp; intro h; exfalso; omega)⟩) ?_
                    simp only [Act.put, List.setIfInBounds_toArray, List.set_cons_zero, List.set_cons_succ]
                    refine take_op (i := 12) (d := 115) (v := .slice (some ⟨b, o, none⟩) xs.length cap) rfl rfl (by kernel_rfl) (by kernel_rfl) (by kernel_rfl) hQ (Or.inl ⟨by rfl, fun _ => by first | rfl | (go_simp; done) | (go_simp; rfl) | (go_simp; intro h; exfalso; omega)⟩) ?_
                    simp only [Act.put, List.setIfInBounds_toArray, List.set_cons_zero, List.set_cons_succ]
                    refine take_op (i := 13) (d := 116) (v := .int .i64 i) rfl rfl (by kernel_rfl) (by kernel_rfl) (by kernel_rfl) hQ (Or.inl ⟨by rfl, fun _ => by first | rfl | (go_simp; done) | (go_simp; rfl) | (go_simp; intro h; exfalso; omega)⟩) ?_
                    simp only [Act.put, List.setIfInBounds_toArray, List.set_cons_zero, List.set_cons_succ]
                    refine take_op (i := 14) (d := 117) (v := .pointer (some ⟨b, o + i * 3, none⟩)) rfl rfl (by kernel_rfl) (by kernel_rfl) (by kernel_rfl) hQ (Or.inl ⟨by rfl, fun _ => by first | rfl | (go_simp; done) | (go_simp; rfl) | (go_simp; intro h; exfalso; omega)⟩) ?_
                    simp only [Act.put, List.setIfInBounds_toArray, List.set_cons_zero, List.set_cons_succ]
                    refine take_op (i := 15) (d := 118) (v := .pointer (some ⟨b, o + i * 3 + 2, none⟩)) rfl rfl (by kernel_rfl) (by kernel_rfl) (by kernel_rfl) hQ (Or.inl ⟨by rfl, fun _ => by first | rfl | (go_simp; done) | (go_simp; rfl) | (go_simp; intro h; exfalso; omega)⟩) ?_
                    simp only [Act.put, List.setIfInBounds_toArray, List.set_cons_zero, List.set_cons_succ]
                    refine wpAny_ready (rs := [6, 10, 16]) (by kernel_rfl) (by simp) ?_
                    refine AllReady.cons rfl (fun K hK => ?_) (AllReady.cons rfl (fun K hK => ?_) (AllReady.cons rfl (fun K hK => ?_) AllReady.nil))
                    · go_simp
                      refine hK _ _ ?_
                      try simp only [Act.put, List.setIfInBounds_toArray, List.set_cons_zero, List.set_cons_succ]
                      clear hK K
                      refine wpAny_ready (rs := [10, 16]) (by kernel_rfl) (by simp) ?_
                      refine AllReady.cons rfl (fun K hK => ?_) (AllReady.cons rfl (fun K hK => ?_) AllReady.nil)
                      · go_simp
                        refine hK _ _ ?_
                        try simp only [Act.put, List.setIfInBounds_toArray, List.set_cons_zero, List.set_cons_succ]
                        clear hK K
                        refine wpAny_ready (rs := [11, 16]) (by kernel_rfl) (by simp) ?_
                        refine AllReady.cons rfl (fun K hK => ?_) (AllReady.cons rfl (fun K hK => ?_) AllReady.nil)
                        · go_simp
                          go_at_call 27
                          refine (HDc.out _ ((Below.refl _ _).drew)).mono ?_; rintro e w8 ⟨rfl, hb8⟩
                          refine hK _ _ ?_
                          try simp only [Act.put, List.setIfInBounds_toArray, List.set_cons_zero, List.set_cons_succ]
                          clear hK K
                          have hb8' : Below wr.heap.size wr w8 := ((Below.refl _ _).drew).trans (hb8.mono (Nat.le_refl _))
                          have m8 := HCk.out w8 hb8'
                          refine wpAny_ready (rs := [16]) (by kernel_rfl) (by simp) ?_
                          refine AllReady.cons rfl (fun K hK => ?_) AllReady.nil
                          go_simp
                          refine hK _ _ ?_
                          try simp only [Act.put, List.setIfInBounds_toArray, List.set_cons_zero, List.set_cons_succ]
                          clear hK K
                          refine take_op (i := 17) (d := 120) (v := .bool (decide (dv > rm))) rfl rfl (by kernel_rfl) (by kernel_rfl) (by kernel_rfl) hQ (Or.inl ⟨by rfl, fun _ => by first | rfl | (go_simp; done) | (go_simp; rfl) | (go_simp; intro h; exfalso; omega)⟩) ?_
                          simp only [Act.put, List.setIfInBounds_toArray, List.set_cons_zero, List.set_cons_succ]
                          refine wpAny_done (by kernel_rfl) (hN _ _ ?_) _
                          have HB8 := Lib.hid (Hbk0.out.trans (hb8'.mono Hbk0.out.size))
                          clear hb8 hb8' m8
                          rw [hdv]
                          go_wp2
                          go_roundw
                          case rel => exact ⟨k + 1, by omega, hkl, by go_num, HB8.out⟩
                          case measure => simp [intOf]; omega
                        · go_simp
                          refine hK _ _ ?_
                          try simp only [Act.put, List.setIfInBounds_toArray, List.set_cons_zero, List.set_cons_succ]
                          clear hK K
                          refine wpAny_ready (rs := [11]) (by kernel_rfl) (by simp) ?_
                          refine AllReady.cons rfl (fun K hK => ?_) AllReady.nil
                          go_simp
                          go_at_call 27
                          refine (HDc.out _ ((Below.refl _ _).drew)).mono ?_; rintro e w8 ⟨rfl, hb8⟩
                          refine hK _ _ ?_
                          try simp only [Act.put, List.setIfInBounds_toArray, List.set_cons_zero, List.set_cons_succ]
                          clear hK K
                          have hb8' : Below wr.heap.size wr w8 := ((Below.refl _ _).drew).trans (hb8.mono (Nat.le_refl _))
                          have m8 := HCk.out w8 hb8'
                          refine take_op (i := 17) (d := 120) (v := .bool (decide (dv > rm))) rfl rfl (by kernel_rfl) (by kernel_rfl) (by kernel_rfl) hQ (Or.inl ⟨by rfl, fun _ => by first | rfl | (go_simp; done) | (go_simp; rfl) | (go_simp; intro h; exfalso; omega)⟩) ?_
                          simp only [Act.put, List.setIfInBounds_toArray, List.set_cons_zero, List.set_cons_succ]
                          refine wpAny_done (by kernel_rfl) (hN _ _ ?_) _
                          have HB8 := Lib.hid (Hbk0.out.trans (hb8'.mono Hbk0.out.size))
                          clear hb8 hb8' m8
                          rw [hdv]
                          go_wp2
                          go_roundw
                          case rel => exact ⟨k + 1, by omega, hkl, by go_num, HB8.out⟩
                          case measure => simp [intOf]; omega
                      · go_simp
                        refine hK _ _ ?_
                        try simp only [Act.put, List.setIfInBounds_toArray, List.set_cons_zero, List.set_cons_succ]
                        clear hK K
                        refine wpAny_ready (rs := [10]) (by kernel_rfl) (by simp) ?_
                        refine AllReady.cons rfl (fun K hK => ?_) AllReady.nil
                        go_simp
                        refine hK _ _ ?_
                        try simp only [Act.put, List.setIfInBounds_toArray, List.set_cons_zero, List.set_cons_succ]
                        clear hK K
                        refine wpAny_ready (rs := [11]) (by kernel_rfl) (by simp) ?_
                        refine AllReady.cons rfl (fun K hK => ?_) AllReady.nil
                        go_simp
                        go_at_call 27
                        refine (HDc.out _ ((Below.refl _ _).drew)).mono ?_; rintro e w8 ⟨rfl, hb8⟩
                        refine hK _ _ ?_
                        try simp only [Act.put, List.setIfInBounds_toArray, List.set_cons_zero, List.set_cons_succ]
                        clear hK K
                        have hb8' : Below wr.heap.size wr w8 := ((Below.refl _ _).drew).trans (hb8.mono (Nat.le_refl _))
                        have m8 := HCk.out w8 hb8'
                        refine take_op (i := 17) (d := 120) (v := .bool (decide (dv > rm))) rfl rfl (by kernel_rfl) (by kernel_rfl) (by kernel_rfl) hQ (Or.inl ⟨by rfl, fun _ => by first | rfl | (go_simp; done) | (go_simp; rfl) | (go_simp; intro h; exfalso; omega)⟩) ?_
                        simp only [Act.put, List.setIfInBounds_toArray, List.set_cons_zero, List.set_cons_succ]
                        refine wpAny_done (by kernel_rfl) (hN _ _ ?_) _
                        have HB8 := Lib.hid (Hbk0.out.trans (hb8'.mono Hbk0.out.size))
                        clear hb8 hb8' m8
                        rw [hdv]
                        go_wp2
                        go_roundw
                        case rel => exact ⟨k + 1, by omega, hkl, by go_num, HB8.out⟩
                        case measure => simp [intOf]; omega
                    · go_simp
                      refine hK _ _ ?_
                      try simp only [Act.put, List.setIfInBounds_toArray, List.set_cons_zero, List.set_cons_succ]
                      clear hK K
                      refine wpAny_ready (rs := [6, 16]) (by kernel_rfl) (by simp) ?_
                      refine AllReady.cons rfl (fun K hK => ?_) (AllReady.cons rfl (fun K hK => ?_) AllReady.nil)
                      · go_simp
                        refine hK _ _ ?_
                        try simp only [Act.put, List.setIfInBounds_toArray, List.set_cons_zero, List.set_cons_succ]
                        clear hK K
                        refine wpAny_ready (rs := [11, 16]) (by kernel_rfl) (by simp) ?_
                        refine AllReady.cons rfl (fun K hK => ?_) (AllReady.cons rfl (fun K hK => ?_) AllReady.nil)
                        · go_simp
                          go_at_call 27
                          refine (HDc.out _ ((Below.refl _ _).drew)).mono ?_; rintro e w8 ⟨rfl, hb8⟩
                          refine hK _ _ ?_
                          try simp only [Act.put, List.setIfInBounds_toArray, List.set_cons_zero, List.set_cons_succ]
                          clear hK K
                          have hb8' : Below wr.heap.size wr w8 := ((Below.refl _ _).drew).trans (hb8.mono (Nat.le_refl _))
                          have m8 := HCk.out w8 hb8'
                          refine wpAny_ready (rs := [16]) (by kernel_rfl) (by simp) ?_
                          refine AllReady.cons rfl (fun K hK => ?_) AllReady.nil
                          go_simp
                          refine hK _ _ ?_
                          try simp only [Act.put, List.setIfInBounds_toArray, List.set_cons_zero, List.set_cons_succ]
                          clear hK K
                          refine take_op (i := 17) (d := 120) (v := .bool (decide (dv > rm))) rfl rfl (by kernel_rfl) (by kernel_rfl) (by kernel_rfl) hQ (Or.inl ⟨by rfl, fun _ => by first | rfl | (go_simp; done) | (go_simp; rfl) | (go_simp; intro h; exfalso; omega)⟩) ?_
                          simp only [Act.put, List.setIfInBounds_toArray, List.set_cons_zero, List.set_cons_succ]
                          refine wpAny_done (by kernel_rfl) (hN _ _ ?_) _
                          have HB8 := Lib.hid (Hbk0.out.trans (hb8'.mono Hbk0.out.size))
                          clear hb8 hb8' m8
                          rw [hdv]
                          go_wp2
                          go_roundw
                          case rel => exact ⟨k + 1, by omega, hkl, by go_num, HB8.out⟩
                          case measure => simp [intOf]; omega
                        · go_simp
                          refine hK _ _ ?_
                          try simp only [Act.put, List.setIfInBounds_toArray, List.set_cons_zero, List.set_cons_succ]
                          clear hK K
                          refine wpAny_ready (rs := [11]) (by kernel_rfl) (by simp) ?_
                          refine AllReady.cons rfl (fun K hK => ?_) AllReady.nil
                          go_simp
                          go_at_call 27
                          refine (HDc.out _ ((Below.refl _ _).drew)).mono ?_; rintro e w8 ⟨rfl, hb8⟩
                          refine hK _ _ ?_
                          try simp only [Act.put, List.setIfInBounds_toArray, List.set_cons_zero, List.set_cons_succ]
                          clear hK K
                          have hb8' : Below wr.heap.size wr w8 := ((Below.refl _ _).drew).trans (hb8.mono (Nat.le_refl _))
                          have m8 := HCk.out w8 hb8'
                          refine take_op (i := 17) (d := 120) (v := .bool (decide (dv > rm))) rfl rfl (by kernel_rfl) (by kernel_rfl) (by kernel_rfl) hQ (Or.inl ⟨by rfl, fun _ => by first | rfl | (go_simp; done) | (go_simp; rfl) | (go_simp; intro h; exfalso; omega)⟩) ?_
                          simp only [Act.put, List.setIfInBounds_toArray, List.set_cons_zero, List.set_cons_succ]
                          refine wpAny_done (by kernel_rfl) (hN _ _ ?_) _
                          have HB8 := Lib.hid (Hbk0.out.trans (hb8'.mono Hbk0.out.size))
                          clear hb8 hb8' m8
                          rw [hdv]
                          go_wp2
                          go_roundw
                          case rel => exact ⟨k + 1, by omega, hkl, by go_num, HB8.out⟩
                          case measure => simp [intOf]; omega
                      · go_simp
                        refine hK _ _ ?_
                        try simp only [Act.put, List.setIfInBounds_toArray, List.set_cons_zero, List.set_cons_succ]
                        clear hK K
                        refine wpAny_ready (rs := [6]) (by kernel_rfl) (by simp) ?_
                        refine AllReady.cons rfl (fun K hK => ?_) AllReady.nil
                        go_simp
                        refine hK _ _ ?_
                        try simp only [Act.put, List.setIfInBounds_toArray, List.set_cons_zero, List.set_cons_succ]
                        clear hK K
                        refine wpAny_ready (rs := [11]) (by kernel_rfl) (by simp) ?_
                        refine AllReady.cons rfl (fun K hK => ?_) AllReady.nil
                        go_simp
                        go_at_call 27
                        refine (HDc.out _ ((Below.refl _ _).drew)).mono ?_; rintro e w8 ⟨rfl, hb8⟩
                        refine hK _ _ ?_
                        try simp only [Act.put, List.setIfInBounds_toArray, List.set_cons_zero, List.set_cons_succ]
                        clear hK K
                        have hb8' : Below wr.heap.size wr w8 := ((Below.refl _ _).drew).trans (hb8.mono (Nat.le_refl _))
                        have m8 := HCk.out w8 hb8'
                        refine take_op (i := 17) (d := 120) (v := .bool (decide (dv > rm))) rfl rfl (by kernel_rfl) (by kernel_rfl) (by kernel_rfl) hQ (Or.inl ⟨by rfl, fun _ => by first | rfl | (go_simp; done) | (go_simp; rfl) | (go_simp; intro h; exfalso; omega)⟩) ?_
                        simp only [Act.put, List.setIfInBounds_toArray, List.set_cons_zero, List.set_cons_succ]
                        refine wpAny_done (by kernel_rfl) (hN _ _ ?_) _
                        have HB8 := Lib.hid (Hbk0.out.trans (hb8'.mono Hbk0.out.size))
                        clear hb8 hb8' m8
                        rw [hdv]
                        go_wp2
                        go_roundw
                        case rel => exact ⟨k + 1, by omega, hkl, by go_num, HB8.out⟩
                        case measure => simp [intOf]; omega
                    · go_simp
                      refine hK _ _ ?_
                      try simp only [Act.put, List.setIfInBounds_toArray, List.set_cons_zero, List.set_cons_succ]
                      clear hK K
                      refine wpAny_ready (rs := [6, 10]) (by kernel_rfl) (by simp) ?_
                      refine AllReady.cons rfl (fun K hK => ?_) (AllReady.cons rfl (fun K hK => ?_) AllReady.nil)
                      · go_simp
                        refine hK _ _ ?_
                        try simp only [Act.put, List.setIfInBounds_toArray, List.set_cons_zero, List.set_cons_succ]
                        clear hK K
                        refine wpAny_ready (rs := [10]) (by kernel_rfl) (by simp) ?_
                        refine AllReady.cons rfl (fun K hK => ?_) AllReady.nil
                        go_simp
                        refine hK _ _ ?_
                        try simp only [Act.put, List.setIfInBounds_toArray, List.set_cons_zero, List.set_cons_succ]
                        clear hK K
                        refine wpAny_ready (rs := [11]) (by kernel_rfl) (by simp) ?_
                        refine AllReady.cons rfl (fun K hK => ?_) AllReady.nil
                        go_simp
                        go_at_call 27
                        refine (HDc.out _ ((Below.refl _ _).drew)).mono ?_; rintro e w8 ⟨rfl, hb8⟩
                        refine hK _ _ ?_
                        try simp only [Act.put, List.setIfInBounds_toArray, List.set_cons_zero, List.set_cons_succ]
                        clear hK K
                        have hb8' : Below wr.heap.size wr w8 := ((Below.refl _ _).drew).trans (hb8.mono (Nat.le_refl _))
                        have m8 := HCk.out w8 hb8'
                        refine take_op (i := 17) (d := 120) (v := .bool (decide (dv > rm))) rfl rfl (by kernel_rfl) (by kernel_rfl) (by kernel_rfl) hQ (Or.inl ⟨by rfl, fun _ => by first | rfl | (go_simp; done) | (go_simp; rfl) | (go_simp; intro h; exfalso; omega)⟩) ?_
                        simp only [Act.put, List.setIfInBounds_toArray, List.set_cons_zero, List.set_cons_succ]
                        refine wpAny_done (by kernel_rfl) (hN _ _ ?_) _
                        have HB8 := Lib.hid (Hbk0.out.trans (hb8'.mono Hbk0.out.size))
                        clear hb8 hb8' m8
                        rw [hdv]
                        go_wp2
                        go_roundw
                        case rel => exact ⟨k + 1, by omega, hkl, by go_num, HB8.out⟩
                        case measure => simp [intOf]; omega
                      · go_simp
                        refine hK _ _ ?_
                        try simp only [Act.put, List.setIfInBounds_toArray, List.set_cons_zero, List.set_cons_succ]
                        clear hK K
                        refine wpAny_ready (rs := [6]) (by kernel_rfl) (by simp) ?_
                        refine AllReady.cons rfl (fun K hK => ?_) AllReady.nil
                        go_simp
                        refine hK _ _ ?_
                        try simp only [Act.put, List.setIfInBounds_toArray, List.set_cons_zero, List.set_cons_succ]
                        clear hK K
                        refine wpAny_ready (rs := [11]) (by kernel_rfl) (by simp) ?_
                        refine AllReady.cons rfl (fun K hK => ?_) AllReady.nil
                        go_simp
                        go_at_call 27
                        refine (HDc.out _ ((Below.refl _ _).drew)).mono ?_; rintro e w8 ⟨rfl, hb8⟩
                        refine hK _ _ ?_
                        try simp only [Act.put, List.setIfInBounds_toArray, List.set_cons_zero, List.set_cons_succ]
                        clear hK K
                        have hb8' : Below wr.heap.size wr w8 := ((Below.refl _ _).drew).trans (hb8.mono (Nat.le_refl _))
                        have m8 := HCk.out w8 hb8'
                        refine take_op (i := 17) (d := 120) (v := .bool (decide (dv > rm))) rfl rfl (by kernel_rfl) (by kernel_rfl) (by kernel_rfl) hQ (Or.inl ⟨by rfl, fun _ => by first | rfl | (go_simp; done) | (go_simp; rfl) | (go_simp; intro h; exfalso; omega)⟩) ?_
                        simp only [Act.put, List.setIfInBounds_toArray, List.set_cons_zero, List.set_cons_succ]
                        refine wpAny_done (by kernel_rfl) (hN _ _ ?_) _
                        have HB8 := Lib.hid (Hbk0.out.trans (hb8'.mono Hbk0.out.size))
                        clear hb8 hb8' m8
                        rw [hdv]
                        go_wp2
                        go_roundw
                        case rel => exact ⟨k + 1, by omega, hkl, by go_num, HB8.out⟩
                        case measure => simp [intOf]; omega
                  · obtain rfl : k = W.length := by omega
                    have HB7 := Lib.hid (HB6.out.trans (hbk0.mono HB6.out.size))
                    clear hbk0
                    go_wp2
                    exact ⟨⟨i + 1, hil, by go_num, HB7.out⟩, by simp [intOf]; omega⟩
            · obtain rfl : i = xs.length := by omega
              have HB6 := Lib.hid (HB5.out.trans (HB.out.mono HB5.out.size))
              have HT6 := Lib.hid (HT.out.below HB.out)
              clear HB
              have hq : ((rs.length : Int) == n - 1) = true := by rw [E0.out]; simpa using hlen
              go_wp2_with fail
              refine (HWh.out _ HT6.out).mono ?_; rintro e w7 ⟨rfl, hb7⟩
              have HB7 := Lib.hid (HB6.out.trans (hb7.mono HB6.out.size))
              have HT7 := Lib.hid (HT6.out.below hb7)
              clear hb7
              go_wp2_with fail
              refine (HNe.out _ HT7.out).mono ?_; rintro e w8 ⟨ad8, cap8, rfl, _, _, _, hb8⟩
              have HB8 := Lib.hid (HB7.out.trans (hb8.mono HB7.out.size))
              have hq2 : (((needOf n T).length : Int) == n - 1) = true := by rw [HNl.out]; simpa using hlen
              clear hb8
              go_wp2
              go_ret
              exact ⟨ret_bool (by first | rfl | (simp; done) | (simp; omega)), HB8.out⟩
  · have hl' : (1048576 : Int) < (l.length : Int) := by omega
    go_enter Try.func7, Try.ntmps7
    go_wp2
    go_ret
    exact ⟨rfl, Below.refl _ _⟩

set_option maxRecDepth 100000 in
theorem lifted (os : Os) (started : os.Started) (H : Type) (enc : TypeId × Value → H) :
    ReturnsInHanded {} Try.checked os 7 .any (Rows.fnRoadsNetSpec.pre6 enc Try.prog Try.f7 Rows.fnRoadsNetRow.domain false) (Rows.fnRoadsNetSpec.post enc Try.prog Try.f7 false true false false) := by
  refine returnsInHanded_of_change (C := Try.checked) own started (by kernel_rfl) Try.func7
    (ChangeSpec.witness6 (enc := enc) (C := Try.checked) false ⟨#[], #[.slice none 0 0], []⟩ 8 (by kernel_rfl) (by kernel_rfl) (by kernel_rfl) (by kernel_rfl)) ?_
  intro W base args ds gs before hval0 hW hcnd _
  have hval : ∀ (j : Nat) t v, Try.f7.params[j]? = some t → args[j]? = some v → Value.okWide Try.prog W .any base t v := hval0
  have hW' := hW
  obtain ⟨p, q, hA0, hV, rfl, hfz, hnd⟩ := hW
  have hA : DataW.TrodAll enc Try.prog W 0 (fun _ => true) true Try.f7.params.toList args.toList ds p := hA0
  rw [Try.params7] at hA hval
  obtain ⟨v0, vs0, d0, ds0, p0, q0, hargs, rfl, rfl, h0, r0⟩ := trodAll_cons hA
  obtain ⟨rfl, rfl, rfl⟩ := trodAll_nil r0
  obtain rfl : args = #[v0] := by cases args; simp_all
  obtain ⟨rfl, rfl⟩ := trodVars_none hV
  obtain ⟨a0, len0, cap0, rfl⟩ := okWide_slice Try.underlying22 (hval 0 22 v0 rfl rfl)
  have k0 := h0
  have lt0 : ∀ x ∈ p0, x.block < W.heap.size := by obtain ⟨m, hm⟩ := k0; exact DataW.trod_lt m _ _ _ hm
  obtain ⟨z0, hv0, hm0⟩ := open_byteS h0 rfl
  clear hA0 hval0
  refine (walk _ z0 W hv0 hm0).mono fun e W' ⟨he, bel⟩ => ?_
  subst he
  exact ⟨_, rfl, _, _, _, [], _, [], hW', trodAll_mk1 (shut_bool Try.underlying4 _), (trodAll_cons_mk (Below.trod laidOut (by kernel_rfl) (of_decide_eq_true (by kernel_rfl)) k0 bel lt0) trodAll_mk0), rfl, bel.frame _, fun h => by cases h⟩

theorem over : Rows.fnRoadsNetRow.holds Try.pinned (OpenSpec.ofChange Rows.fnRoadsNetSpec) :=
  OpenClaim.holds_of_wide 7 Try.f7 rfl rfl rfl rfl rfl rfl rfl ⟨rfl, rfl, rfl, rfl, rfl⟩ rfl rfl rfl rfl rfl (by kernel_rfl) Try.func7 (by kernel_rfl)
    (of_decide_eq_true (by kernel_rfl)) (by unfold Func.isWrapper; first | (rw [if_pos (by decide +kernel)]; kernel_rfl) | (rw [if_neg (by decide +kernel)]; exact ⟨rfl, rfl⟩))
    (fun os started H enc _ => lifted os started H enc)

theorem proved : Rows.FnRoadsNetSaid := over
#print axioms proved
end Go.Proofs.Ytlkhgnglblgldaa.lawFnRoadsNet
