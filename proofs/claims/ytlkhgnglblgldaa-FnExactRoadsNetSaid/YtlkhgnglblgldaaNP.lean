/- RoadsNet of the program. -/
import Derived.Test.YtlkhgnglblgldaaNS
import Derived.Test.YtlkhgnglblgldaaNK
import Derived.Test.YtlkhgnglblgldaaAH
import Derived.Test.YtlkhgnglblgldaaIO
import Derived.Test.YtlkhgnglblgldaaHD
import Derived.Test.YtlkhgnglblgldaaS
import Derived.Sort.OwnSortedInts
import Derived.Deep.AppendLies
import Derived.Deep.RegionHeld3
import Derived.Deep.RegionWith
namespace Go.Proofs.Ytlkhgnglblgldaa
open Go.RowKit Go.Sort Go.Maps

theorem sortI_own {w : World} {B cap g : Nat} {zs : List Int} (h : w.ownsRow B 3 1 (.slice (some ⟨g, 0, none⟩) zs.length cap) zs.length (zs.map (Value.int .i64))) (hl : zs.length < 1000000) :
    Calls Try.prog 47 #[.slice (some ⟨g, 0, none⟩) zs.length cap] w fun e w' => e = .returned (.tuple #[]) ∧ w'.ownsRow B 3 1 (.slice (some ⟨g, 0, none⟩) zs.length cap) zs.length ((zs.mergeSort fun x y => decide (x ≤ y)).map (Value.int .i64)) ∧ w.grownBy w' (some g) := by
  obtain ⟨_, h2⟩ := h
  rcases h2 with ⟨h0, _⟩ | ⟨g', cap', cur, he, hg, hh, hn, hcap, hsz, htake⟩
  · cases h0
  · cases he
    have hH := holds_of_blockI hh (ss := zs) (by simpa using htake)
    refine (Try.slices_Sort_int g 0 cap zs w hH (Array.getElem?_eq_some_iff.1 hh).1 (by omega)).mono ?_
    rintro e w' ⟨rfl, n, os, rfl⟩
    refine ⟨rfl, ?_, grownBy_sortedI _⟩
    exact ownsRow_sortedI (ss := zs) (ts := zs.mergeSort fun x y => decide (x ≤ y)) (by simp) hg hh hn hcap hsz
def intsOf (xs : List Nat) : List Int := xs.map fun (i : Nat) => (i : Int)
theorem intsOf_len (xs : List Nat) : (intsOf xs).length = xs.length := by simp [intsOf]
theorem intsOf_snoc (xs : List Nat) (i : Nat) : intsOf (xs ++ [i]) = intsOf xs ++ [(i : Int)] := by simp [intsOf]
theorem intsOf_get {cs : List Nat} {k : Nat} (h : k < cs.length) : (intsOf cs).getD k 0 = ((cs.getD k 0 : Nat) : Int) := by
  simp [intsOf, List.getD, h]
theorem IntAt.touchN {w w' : World} {b o : Nat} {l : List Int} {S : Nat → Prop} (h : IntAt w b o l) (ht : Touch S w w') (hb : b < w.heap.size) (hS : ¬ S b) : IntAt w' b o l := fun i hi => by
  rw [World.cell?_of_block (a := ⟨b, o + i, none⟩) (ht.block b hb hS)]; exact h i hi

/-- The row of those taken, and the order beside it. -/
def NpRel (n : Int) (l : List Rd) (w : World) (nb : Nat) (bs : Int → Nat) (ob : Nat) (u iv : Value) (wr : World) : Prop :=
  ∃ (k cn g cap : Nat), k ≤ l.length ∧ iv = .int .i64 k ∧ cn ≤ 2 * k ∧ u = .slice (some ⟨g, 0, none⟩) (netTo n l ((orderM l).take k)).length cap ∧ NetAt wr nb n bs cn (edge (pickR l (netTo n l ((orderM l).take k)))) ∧
    RowI wr w.heap.size u (intsOf (netTo n l ((orderM l).take k))) ∧ (0 < l.length → g ≠ ob ∧ ob < wr.heap.size ∧ IntAt wr ob 0 (intsOf (orderM l))) ∧ Below w.heap.size w wr
theorem order_take {l : List Rd} {k : Nat} (h : k < l.length) : (orderM l).take (k + 1) = (orderM l).take k ++ [(orderM l).getD k 0] ∧ (orderM l).getD k 0 < l.length ∧ ((orderM l).take (k + 1)).Nodup ∧ (∀ i, i ∈ (orderM l).take (k + 1) → i < l.length) := by
  have hk : k < (orderM l).length := by rw [orderM_length]; exact h
  have e : (orderM l).getD k 0 = (orderM l)[k] := by simp [List.getD, hk]
  refine ⟨by rw [List.take_succ_eq_append_getElem hk, e], ?_, (orderM_nodup l).sublist (List.take_sublist _ _), fun i hi => orderM_mem.1 (List.mem_of_mem_take hi)⟩
  rw [e]; exact orderM_mem.1 (List.getElem_mem hk)

set_option maxRecDepth 100000 in
set_option maxHeartbeats 2000000 in
theorem net2_any (n : Int) (v : Value) (l : List Rd) (w : World) (hv : RoadsIn w v l) (hl : l.length ≤ 1048576) (hw : RdWf l) :
    Calls Try.prog 17 #[.int .i64 n, v] w (IntsOk (netL n l) (wholeOf n l) w) := by
  obtain ⟨i0, hinf, hz0, hz1, hz2⟩ := info_parts Try.info3
  have HW := Lib.hid (whole2_any n v l w hv hl hw)
  cases hok : wholeOf n l with
  | false =>
    rw [netL_no hok]
    rw [hok] at HW
    clear hok
    go_enter Try.func17, Try.ntmps17
    go_wp2_with fail
    refine HW.out.mono ?_; rintro e w1 ⟨rfl, hb1⟩
    have HB := Lib.hid hb1; clear hb1
    go_wp2
    go_ret2
    exact IntsOk.no HB.out.size (by simp) (HB.out.alloc HB.out.size _)
  | true =>
    rw [netL_yes hok]
    rw [hok] at HW
    have hz : validR n l = true := by unfold wholeOf at hok; rw [Bool.and_eq_true] at hok; exact hok.1
    obtain ⟨hn1, hn8, h16, hokT⟩ := valid_bounds hz
    have hfit := fun i (hi : i < l.length) => (fits_iff _ _).1 ((okAt_iff n l i).1 (okTo_at n l hokT hi)).1
    have Hfit := Lib.hid hfit
    have hmi : ∀ i, i < l.length → mi99 (l.getD i rd0) := fun i hi => ⟨(hfit i hi).2.2.2.1, (hfit i hi).2.2.2.2⟩
    have HM := Lib.hid (fun w' (hb : Below w.heap.size w w') => byMiles_any v l w' (hv.below hb) h16 hmi)
    have Hz := Lib.hid hz
    obtain ⟨ad, cap, rfl, har⟩ := hv
    have Har := Lib.hid har
    clear hok hz hokT hfit hmi har
    go_enter Try.func17, Try.ntmps17
    go_wp2_with fail
    refine HW.out.mono ?_; rintro e w1 ⟨rfl, hb1⟩
    have HB1 := Lib.hid hb1; clear hb1 HW
    go_wp2_with fail
    refine (newNetwork_any n w1 (by omega) hn8).mono ?_; rintro e w2 ⟨bs, rfl, hnet, hbs, hb2⟩
    have HB2 := Lib.hid (HB1.out.trans (hb2.mono HB1.out.size))
    have hnbs : w1.heap.size < w2.heap.size := hnet.outer.lt
    have hbl := fun t (t0 : 0 ≤ t) (t1 : t < n) => (hnet.inner t t0 t1).lt
    have hb3 : Below w2.heap.size w2 (w2.alloc (.cells #[] 3)) := (Below.refl _ _).alloc (Nat.le_refl _) _
    have HR3 := Lib.hid (RowI.made w2 w.heap.size HB2.out.size)
    have HN3 := Lib.hid (hnet.below hb3)
    have HB3 := Lib.hid (HB2.out.trans (hb3.mono HB2.out.size))
    have hw1s := HB1.out.size
    have Hbs := Lib.hid (fun t (t0 : 0 ≤ t) (t1 : t < n) => And.intro (hbs t t0 t1) (hbl t t0 t1))
    clear hnet hb2 hb3 hbs hbl
    go_wp2_with fail
    refine (HM.out _ HB3.out).mono ?_; rintro e w4 ⟨ao, co, rfl, hord, hb4⟩
    obtain ⟨ob, hob⟩ : ∃ ob : Nat, 0 < l.length → ao = some ⟨ob, 0, none⟩ ∧ w2.heap.size + 1 ≤ ob ∧ ob < w4.heap.size ∧ IntAt w4 ob 0 (intsOf (orderM l)) := by
      by_cases h0 : 0 < l.length
      · obtain ⟨b, e1, e2, e3, e4⟩ := hord (by rintro rfl; simp at h0)
        exact ⟨b, fun _ => ⟨e1, by simpa using e2, e3, e4⟩⟩
      · exact ⟨0, fun h => absurd h h0⟩
    have HR4 := Lib.hid (HR3.out.below hb4)
    have HN4 := Lib.hid (HN3.out.below hb4)
    have HB4 := Lib.hid (HB3.out.trans (hb4.mono HB3.out.size))
    have Hob := Lib.hid (fun h => let q := hob h; And.intro q.1 q.2.1)
    have Hob2 := Lib.hid (show 0 < l.length → w2.heap.size ≠ ob ∧ ob < w4.heap.size ∧ IntAt w4 ob 0 (intsOf (orderM l)) from fun h => ⟨by have := (hob h).2.1; omega, (hob h).2.2⟩)
    clear hord hb4 hob HR3 HN3 HM
    go_wp2
    go_loopw [7, 21] (fun u iv wr => NpRel n l w w1.heap.size bs ob u iv wr) (fun _ iv _ => l.length - (intOf iv).toNat)
    case atStart => exact ⟨0, 0, w2.heap.size, 0, Nat.zero_le _, rfl, Nat.le_refl _, rfl, HN4.out, HR4.out, Hob2.out, HB4.out⟩
    case round =>
      clear HR4 HN4 Hob2 HB4
      obtain ⟨k, cn, g, cp, hk, rfl, hcn, rfl, hnet, hrow, hos, hb⟩ := hrel
      by_cases hlt : k < l.length
      · obtain ⟨hot1, hi, hnd, hmem⟩ := order_take hlt
        obtain ⟨hgo, hobl, hoat⟩ := hos (by omega)
        obtain ⟨rfl, hobn⟩ := Hob.out (by omega)
        have hlt' : (k : Int) < (l.length : Int) := by omega
        have hk0 : (0 : Int) ≤ (k : Int) := Int.natCast_nonneg _
        have c0 := hoat k (by rw [intsOf_len, orderM_length]; exact hlt)
        rw [intsOf_get (by rw [orderM_length]; exact hlt), Nat.zero_add] at c0
        have hmem0 : ∀ j, j ∈ (orderM l).take k → j < l.length := fun j hj => hmem j (by rw [hot1]; exact List.mem_append_left _ hj)
        have hnd0 : ((orderM l).take k).Nodup := (orderM_nodup l).sublist (List.take_sublist _ _)
        obtain ⟨s1, s2, s3⟩ := net_inv (n := n) hnd0 hmem0
        have s4 := (netTo_sub n l ((orderM l).take k)).length_le
        rw [List.length_take, orderM_length] at s4
        have hstep := netTo_snoc n l ((orderM l).take k) ((orderM l).getD k 0)
        rw [← hot1] at hstep
        have hj := fun h => join_pick (n := n) (l := l) Hz.out (S := netTo n l ((orderM l).take k)) (i := (orderM l).getD k 0) h
        obtain ⟨t1, t2, t3⟩ := net_inv (n := n) hnd hmem
        have hE := edges_ok (pickR_valid Hz.out s1 s2 s3)
        have hft := Hfit.out _ hi
        obtain ⟨b, o, rfl, hb0, hrw⟩ := Har.out (by intro h; simp [h] at hlt)
        obtain ⟨c1, c2, c3⟩ := (hrw.below hb hb0) _ hi
        have Hcell := Lib.hid (fun w' (h : Below w.heap.size w w') => (hrw.below h hb0) _ hi)
        have Hy := Lib.hid (fun h => stepK_yes (n := n) (l := l) (S := netTo n l ((orderM l).take k)) (i := (orderM l).getD k 0) h)
        have Hn := Lib.hid (fun h => stepK_no (n := n) (l := l) (S := netTo n l ((orderM l).take k)) (i := (orderM l).getD k 0) h)
        have Hstep := Lib.hid hstep; have Hj := Lib.hid hj; have HE := Lib.hid hE
        have Ht := Lib.hid (And.intro t1 (And.intro t2 t3))
        have Hoat := Lib.hid hoat
        have HB := Lib.hid hb
        have Hnet := Lib.hid hnet
        have Hrow := Lib.hid hrow
        clear hoat hmem0 hnd0 hnd hmem hot1 hstep hj hE t1 t2 t3 s1 s2 s3 hb hnet hrow hrw
        generalize hIx : (orderM l).getD k 0 = i at *
        generalize netTo n l ((orderM l).take k) = S at *
        have Hla := Lib.hid (show ∀ z, (l.getD i rd0) = z → (l.getD i rd0).a = z.a from fun z h => by rw [h])
        generalize (l.getD i rd0).a = ra at *
        generalize (l.getD i rd0).b = rb at *
        generalize (l.getD i rd0).m = rm at *
        obtain ⟨f1, f2, f3, f4, f5⟩ := hft
        have wa : W64 ra := by unfold W64; omega
        have wb : W64 rb := by unfold W64; omega
        have wm : W64 rm := by unfold W64; omega
        have hi' : (i : Int) < (l.length : Int) := by omega
        have hi0 : (0 : Int) ≤ (i : Int) := Int.natCast_nonneg _
        clear Hla hIx
        have HRe := Lib.hid (fun w' (h : Below wr.heap.size wr w') => reaches_any n _ ra rb w1.heap.size bs cn w' (Hnet.out.below h) HE.out wa wb (by omega))
        -- region
        go_wp2
        cases hr : reachB n (edge (pickR l S)) ra rb with
        | true =>
          have Hst := Lib.hid (show netTo n l ((orderM l).take (k + 1)) = S by rw [Hstep.out]; exact Hy.out hr)
          rw [hr] at HRe
          clear Hstep Hy Hn Hj Ht hr
          refine wp_region_any (by kernel_rfl) ?_
          change wpAny _ _ _ _ 13 #[false, false, false, false, false, false, false, false, false, false, false, false, false] _ (World.drew _)
          refine with_Q (fun _ _ _ _ _ h => h) (fun Q hQ hN => ?_)
          refine take_op (i := 0) (d := 25) (v := .map (some w1.heap.size)) rfl rfl (by kernel_rfl) (by kernel_rfl) (by kernel_rfl) hQ (Or.inl ⟨by rfl, fun _ => by first | rfl | (go_simp; done) | (go_simp; rfl)⟩) ?_
          simp only [Act.put, List.setIfInBounds_toArray, List.set_cons_zero, List.set_cons_succ]
          refine take_op (i := 1) (d := 26) (v := .slice (some ⟨b, o, none⟩) l.length cap) rfl rfl (by kernel_rfl) (by kernel_rfl) (by kernel_rfl) hQ (Or.inl ⟨by rfl, fun _ => by first | rfl | (go_simp; done) | (go_simp; rfl)⟩) ?_
          simp only [Act.put, List.setIfInBounds_toArray, List.set_cons_zero, List.set_cons_succ]
          refine take_op (i := 2) (d := 27) (v := .int .i64 i) rfl rfl (by kernel_rfl) (by kernel_rfl) (by kernel_rfl) hQ (Or.inl ⟨by rfl, fun _ => by first | rfl | (go_simp; done) | (go_simp; rfl)⟩) ?_
          simp only [Act.put, List.setIfInBounds_toArray, List.set_cons_zero, List.set_cons_succ]
          refine take_op (i := 3) (d := 28) (v := .pointer (some ⟨b, o + i * 3, none⟩)) rfl rfl (by kernel_rfl) (by kernel_rfl) (by kernel_rfl) hQ (Or.inl ⟨by rfl, fun _ => by first | rfl | (go_simp; done) | (go_simp; rfl)⟩) ?_
          simp only [Act.put, List.setIfInBounds_toArray, List.set_cons_zero, List.set_cons_succ]
          refine take_op (i := 4) (d := 29) (v := .pointer (some ⟨b, o + i * 3, none⟩)) rfl rfl (by kernel_rfl) (by kernel_rfl) (by kernel_rfl) hQ (Or.inl ⟨by rfl, fun _ => by first | rfl | (go_simp; done) | (go_simp; rfl)⟩) ?_
          simp only [Act.put, List.setIfInBounds_toArray, List.set_cons_zero, List.set_cons_succ]
          refine take_op (i := 6) (d := 31) (v := .slice (some ⟨b, o, none⟩) l.length cap) rfl rfl (by kernel_rfl) (by kernel_rfl) (by kernel_rfl) hQ (Or.inl ⟨by rfl, fun _ => by first | rfl | (go_simp; done) | (go_simp; rfl)⟩) ?_
          simp only [Act.put, List.setIfInBounds_toArray, List.set_cons_zero, List.set_cons_succ]
          refine take_op (i := 7) (d := 32) (v := .int .i64 i) rfl rfl (by kernel_rfl) (by kernel_rfl) (by kernel_rfl) hQ (Or.inl ⟨by rfl, fun _ => by first | rfl | (go_simp; done) | (go_simp; rfl)⟩) ?_
          simp only [Act.put, List.setIfInBounds_toArray, List.set_cons_zero, List.set_cons_succ]
          refine take_op (i := 8) (d := 33) (v := .pointer (some ⟨b, o + i * 3, none⟩)) rfl rfl (by kernel_rfl) (by kernel_rfl) (by kernel_rfl) hQ (Or.inl ⟨by rfl, fun _ => by first | rfl | (go_simp; done) | (go_simp; rfl)⟩) ?_
          simp only [Act.put, List.setIfInBounds_toArray, List.set_cons_zero, List.set_cons_succ]
          refine take_op (i := 9) (d := 34) (v := .pointer (some ⟨b, o + i * 3 + 1, none⟩)) rfl rfl (by kernel_rfl) (by kernel_rfl) (by kernel_rfl) hQ (Or.inl ⟨by rfl, fun _ => by first | rfl | (go_simp; done) | (go_simp; rfl)⟩) ?_
          simp only [Act.put, List.setIfInBounds_toArray, List.set_cons_zero, List.set_cons_succ]
          refine wpAny_ready (rs := [5, 10]) (by kernel_rfl) (by simp) ?_
          refine AllReady.cons rfl (fun K hK => ?_) (AllReady.cons rfl (fun K hK => ?_) AllReady.nil)
          · go_simp
            refine hK _ _ ?_
            try simp only [Act.put, List.setIfInBounds_toArray, List.set_cons_zero, List.set_cons_succ]
            clear hK K
            refine wpAny_ready (rs := [10]) (by kernel_rfl) (by simp) ?_
            refine AllReady.cons rfl (fun K hK => ?_) AllReady.nil
            go_simp
            refine hK _ _ ?_
            try simp only [Act.put, List.setIfInBounds_toArray, List.set_cons_zero, List.set_cons_succ]
            clear hK K
            refine wpAny_ready (rs := [11]) (by kernel_rfl) (by simp) ?_
            refine AllReady.cons rfl (fun K hK => ?_) AllReady.nil
            go_simp
            go_at_call 54
            refine (HRe.out _ ((Below.refl _ _).drew)).mono ?_; rintro e w5 ⟨rfl, hb5⟩
            refine hK _ _ ?_
            try simp only [Act.put, List.setIfInBounds_toArray, List.set_cons_zero, List.set_cons_succ]
            clear hK K
            refine take_op (i := 12) (d := 37) (v := .bool false) rfl rfl (by kernel_rfl) (by kernel_rfl) (by kernel_rfl) hQ (Or.inl ⟨by rfl, fun _ => by first | rfl | (go_simp; done) | (go_simp; rfl)⟩) ?_
            simp only [Act.put, List.setIfInBounds_toArray, List.set_cons_zero, List.set_cons_succ]
            refine wpAny_done (by kernel_rfl) (hN _ _ ?_) _
            have hb5' : Below wr.heap.size wr w5 := ((Below.refl _ _).drew).trans (hb5.mono (Nat.le_refl _))
            have HB5 := Lib.hid (HB.out.trans (hb5'.mono HB.out.size))
            have HN5 := Lib.hid (Hnet.out.below hb5')
            have HR5 := Lib.hid (Hrow.out.below hb5')
            have HO5 := Lib.hid (Hoat.out.below hb5' hobl)
            have hs5 := hb5'.size
            clear hb5 hb5' Hnet Hrow Hoat HB c0 c1 c2 c3
            go_wp2
            go_roundw
            case rel => exact ⟨k + 1, cn, g, cp, hlt, by go_num, by omega, by rw [Hst.out], by rw [Hst.out]; exact HN5.out, by rw [Hst.out]; exact HR5.out, fun _ => ⟨hgo, Nat.lt_of_lt_of_le hobl hs5, HO5.out⟩, HB5.out⟩
            case measure => simp [intOf]; omega
          · go_simp
            refine hK _ _ ?_
            try simp only [Act.put, List.setIfInBounds_toArray, List.set_cons_zero, List.set_cons_succ]
            clear hK K
            refine wpAny_ready (rs := [5]) (by kernel_rfl) (by simp) ?_
            refine AllReady.cons rfl (fun K hK => ?_) AllReady.nil
            go_simp
            refine hK _ _ ?_
            try simp only [Act.put, List.setIfInBounds_toArray, List.set_cons_zero, List.set_cons_succ]
            clear hK K
            refine wpAny_ready (rs := [11]) (by kernel_rfl) (by simp) ?_
            refine AllReady.cons rfl (fun K hK => ?_) AllReady.nil
            go_simp
            go_at_call 54
            refine (HRe.out _ ((Below.refl _ _).drew)).mono ?_; rintro e w5 ⟨rfl, hb5⟩
            refine hK _ _ ?_
            try simp only [Act.put, List.setIfInBounds_toArray, List.set_cons_zero, List.set_cons_succ]
            clear hK K
            refine take_op (i := 12) (d := 37) (v := .bool false) rfl rfl (by kernel_rfl) (by kernel_rfl) (by kernel_rfl) hQ (Or.inl ⟨by rfl, fun _ => by first | rfl | (go_simp; done) | (go_simp; rfl)⟩) ?_
            simp only [Act.put, List.setIfInBounds_toArray, List.set_cons_zero, List.set_cons_succ]
            refine wpAny_done (by kernel_rfl) (hN _ _ ?_) _
            have hb5' : Below wr.heap.size wr w5 := ((Below.refl _ _).drew).trans (hb5.mono (Nat.le_refl _))
            have HB5 := Lib.hid (HB.out.trans (hb5'.mono HB.out.size))
            have HN5 := Lib.hid (Hnet.out.below hb5')
            have HR5 := Lib.hid (Hrow.out.below hb5')
            have HO5 := Lib.hid (Hoat.out.below hb5' hobl)
            have hs5 := hb5'.size
            clear hb5 hb5' Hnet Hrow Hoat HB c0 c1 c2 c3
            go_wp2
            go_roundw
            case rel => exact ⟨k + 1, cn, g, cp, hlt, by go_num, by omega, by rw [Hst.out], by rw [Hst.out]; exact HN5.out, by rw [Hst.out]; exact HR5.out, fun _ => ⟨hgo, Nat.lt_of_lt_of_le hobl hs5, HO5.out⟩, HB5.out⟩
            case measure => simp [intOf]; omega
        | false =>
          have Hst := Lib.hid (show netTo n l ((orderM l).take (k + 1)) = S ++ [i] by rw [Hstep.out]; exact Hn.out hr)
          have Hjo := Lib.hid (show joinE (edge (pickR l S)) ra rb rm = edge (pickR l (S ++ [i])) by have h := Ht.out; rw [Hst.out] at h; exact Hj.out h.1 h.2.1 h.2.2)
          rw [hr] at HRe
          clear Hstep Hy Hn Hj hr
          refine wp_region_any (by kernel_rfl) ?_
          change wpAny _ _ _ _ 13 #[false, false, false, false, false, false, false, false, false, false, false, false, false] _ (World.drew _)
          refine with_Q (fun _ _ _ _ _ h => h) (fun Q hQ hN => ?_)
          refine take_op (i := 0) (d := 25) (v := .map (some w1.heap.size)) rfl rfl (by kernel_rfl) (by kernel_rfl) (by kernel_rfl) hQ (Or.inl ⟨by rfl, fun _ => by first | rfl | (go_simp; done) | (go_simp; rfl)⟩) ?_
          simp only [Act.put, List.setIfInBounds_toArray, List.set_cons_zero, List.set_cons_succ]
          refine take_op (i := 1) (d := 26) (v := .slice (some ⟨b, o, none⟩) l.length cap) rfl rfl (by kernel_rfl) (by kernel_rfl) (by kernel_rfl) hQ (Or.inl ⟨by rfl, fun _ => by first | rfl | (go_simp; done) | (go_simp; rfl)⟩) ?_
          simp only [Act.put, List.setIfInBounds_toArray, List.set_cons_zero, List.set_cons_succ]
          refine take_op (i := 2) (d := 27) (v := .int .i64 i) rfl rfl (by kernel_rfl) (by kernel_rfl) (by kernel_rfl) hQ (Or.inl ⟨by rfl, fun _ => by first | rfl | (go_simp; done) | (go_simp; rfl)⟩) ?_
          simp only [Act.put, List.setIfInBounds_toArray, List.set_cons_zero, List.set_cons_succ]
          refine take_op (i := 3) (d := 28) (v := .pointer (some ⟨b, o + i * 3, none⟩)) rfl rfl (by kernel_rfl) (by kernel_rfl) (by kernel_rfl) hQ (Or.inl ⟨by rfl, fun _ => by first | rfl | (go_simp; done) | (go_simp; rfl)⟩) ?_
          simp only [Act.put, List.setIfInBounds_toArray, List.set_cons_zero, List.set_cons_succ]
          refine take_op (i := 4) (d := 29) (v := .pointer (some ⟨b, o + i * 3, none⟩)) rfl rfl (by kernel_rfl) (by kernel_rfl) (by kernel_rfl) hQ (Or.inl ⟨by rfl, fun _ => by first | rfl | (go_simp; done) | (go_simp; rfl)⟩) ?_
          simp only [Act.put, List.setIfInBounds_toArray, List.set_cons_zero, List.set_cons_succ]
          refine take_op (i := 6) (d := 31) (v := .slice (some ⟨b, o, none⟩) l.length cap) rfl rfl (by kernel_rfl) (by kernel_rfl) (by kernel_rfl) hQ (Or.inl ⟨by rfl, fun _ => by first | rfl | (go_simp; done) | (go_simp; rfl)⟩) ?_
          simp only [Act.put, List.setIfInBounds_toArray, List.set_cons_zero, List.set_cons_succ]
          refine take_op (i := 7) (d := 32) (v := .int .i64 i) rfl rfl (by kernel_rfl) (by kernel_rfl) (by kernel_rfl) hQ (Or.inl ⟨by rfl, fun _ => by first | rfl | (go_simp; done) | (go_simp; rfl)⟩) ?_
          simp only [Act.put, List.setIfInBounds_toArray, List.set_cons_zero, List.set_cons_succ]
          refine take_op (i := 8) (d := 33) (v := .pointer (some ⟨b, o + i * 3, none⟩)) rfl rfl (by kernel_rfl) (by kernel_rfl) (by kernel_rfl) hQ (Or.inl ⟨by rfl, fun _ => by first | rfl | (go_simp; done) | (go_simp; rfl)⟩) ?_
          simp only [Act.put, List.setIfInBounds_toArray, List.set_cons_zero, List.set_cons_succ]
          refine take_op (i := 9) (d := 34) (v := .pointer (some ⟨b, o + i * 3 + 1, none⟩)) rfl rfl (by kernel_rfl) (by kernel_rfl) (by kernel_rfl) hQ (Or.inl ⟨by rfl, fun _ => by first | rfl | (go_simp; done) | (go_simp; rfl)⟩) ?_
          simp only [Act.put, List.setIfInBounds_toArray, List.set_cons_zero, List.set_cons_succ]
          refine wpAny_ready (rs := [5, 10]) (by kernel_rfl) (by simp) ?_
          refine AllReady.cons rfl (fun K hK => ?_) (AllReady.cons rfl (fun K hK => ?_) AllReady.nil)
          · go_simp
            refine hK _ _ ?_
            try simp only [Act.put, List.setIfInBounds_toArray, List.set_cons_zero, List.set_cons_succ]
            clear hK K
            refine wpAny_ready (rs := [10]) (by kernel_rfl) (by simp) ?_
            refine AllReady.cons rfl (fun K hK => ?_) AllReady.nil
            go_simp
            refine hK _ _ ?_
            try simp only [Act.put, List.setIfInBounds_toArray, List.set_cons_zero, List.set_cons_succ]
            clear hK K
            refine wpAny_ready (rs := [11]) (by kernel_rfl) (by simp) ?_
            refine AllReady.cons rfl (fun K hK => ?_) AllReady.nil
            go_simp
            go_at_call 54
            refine (HRe.out _ ((Below.refl _ _).drew)).mono ?_; rintro e w5 ⟨rfl, hb5⟩
            refine hK _ _ ?_
            try simp only [Act.put, List.setIfInBounds_toArray, List.set_cons_zero, List.set_cons_succ]
            clear hK K
            refine take_op (i := 12) (d := 37) (v := .bool true) rfl rfl (by kernel_rfl) (by kernel_rfl) (by kernel_rfl) hQ (Or.inl ⟨by rfl, fun _ => by first | rfl | (go_simp; done) | (go_simp; rfl)⟩) ?_
            simp only [Act.put, List.setIfInBounds_toArray, List.set_cons_zero, List.set_cons_succ]
            refine wpAny_done (by kernel_rfl) (hN _ _ ?_) _
            have hb5' : Below wr.heap.size wr w5 := ((Below.refl _ _).drew).trans (hb5.mono (Nat.le_refl _))
            have HB5 := Lib.hid (HB.out.trans (hb5'.mono HB.out.size))
            have HN5 := Lib.hid (Hnet.out.below hb5')
            have HR5 := Lib.hid (Hrow.out.below hb5')
            have HO5 := Lib.hid (Hoat.out.below hb5' hobl)
            have hs5 := hb5'.size
            clear hb5 hb5' Hnet Hrow Hoat HB c0 c1 c2 c3
            obtain ⟨e1, e2, e3⟩ := Hcell.out w5 HB5.out
            obtain ⟨off1, off2⟩ := own_off_net (by have h := HR5.out; unfold RowI at h; rw [intsOf_len] at h; exact h) HN5.out
            go_wp2_with fail
            refine (join_any w1.heap.size n bs cn _ ra rb rm _ HN5.out f1 (by omega) (by omega) f3 hn8 wm (by omega)).mono ?_; rintro e w6 ⟨rfl, hnet6, t6⟩
            rw [Hjo.out] at hnet6
            have hown6 := own_touch HR5.out t6 (fun g' e h => by cases e; rcases h with h | h; exact off2 _ f1 (by omega) h; exact off2 _ (by omega) f3 h)
            rw [intsOf_len] at hown6
            have hba := Hbs.out ra f1 (by omega)
            have hbb := Hbs.out rb (by omega) f3
            have hb6 : Below w.heap.size w w6 := HB5.out.trans (t6.below (by rintro j (h | h) <;> omega) HB5.out.size)
            have ho6 := HO5.out.touchN t6 (by omega) (by rintro (h | h) <;> omega)
            have hs6 : w5.heap.size ≤ w6.heap.size := t6.size
            have hs60 := hb6.size
            obtain ⟨off3, off4⟩ := own_off_net hown6 hnet6
            have HN6 := Lib.hid hnet6; have HB6 := Lib.hid hb6; have HO6 := Lib.hid ho6
            have HF4 := Lib.hid off4
            clear hnet6 t6 hb6 ho6 off1 off2 e1 e2 e3 HN5 HR5 HO5 HB5 HRe off4 HE Ht
            go_wp2_with (at_builtin; refine wpList_append_lies _ rfl _ _ 26 rfl w.heap.size 3 i0 (.int .i64 0) 1 8 Try.underlying26 hinf hz0 hz1 hz2 rfl (by decide) _ _ _ rfl (hown6.alloc _) ⟨w6.heap.size, 0, none⟩ 1 1 [.int .i64 i] rfl rfl (cell_one_new _ _ _) (by simp [Value.oneCell']) (by decide) (by simp only [maxLen]; omega) (by omega) (by simp; omega) (w6.heap.size + 1) (by simp) ?_; intro g8 cp8 w8 hown8 hgrow hat8 hlt8)
            have ha6 : Below w6.heap.size w6 (w6.alloc (.cells #[.int .i64 i] 3)) := (Below.refl _ _).alloc (Nat.le_refl _) _
            have ht8 : Touch (fun j => j = g) (w6.alloc (.cells #[.int .i64 i] 3)) w8 := Touch.grown hgrow rfl
            have HB8 := Lib.hid ((HB6.out.alloc hs60 (.cells #[.int .i64 i] 3)).grown hgrow (by simp; omega) (fun j hj => (hown6.lt j hj).1))
            have HN8 := Lib.hid ((HN6.out.below ha6).touch ht8 (fun h => off3 h.symm) (fun t t0 t1 h => HF4.out t t0 t1 h.symm))
            have HO8 := Lib.hid ((HO6.out.below ha6 (show ob < w6.heap.size by omega)).touchN ht8 (by simp; omega) (fun h => hgo h.symm))
            have hob8 : ob < w8.heap.size := by have := ht8.size; simp at this; omega
            have hgo8 : g8 ≠ ob := hat8.elim (fun h => by injection h with h; exact fun e => hgo (Eq.trans h e)) (fun h => by omega)
            have HR8 := Lib.hid (show RowI w8 w.heap.size (.slice (some ⟨g8, 0, none⟩) (S.length + 1) cp8) (intsOf (S ++ [i])) by rw [intsOf_snoc]; exact RowI.snoc (by rw [intsOf_len]; exact hown8))
            have Hlen := Lib.hid (show (S ++ [i]).length = S.length + 1 by simp)
            go_wp2
            go_roundw
            case rel => exact ⟨k + 1, cn + 2, g8, cp8, hlt, by go_num, by omega, by rw [Hst.out, Hlen.out], by rw [Hst.out]; exact HN8.out, by rw [Hst.out]; exact HR8.out, fun _ => ⟨hgo8, hob8, HO8.out⟩, HB8.out⟩
            case measure => simp [intOf]; omega
          · go_simp
            refine hK _ _ ?_
            try simp only [Act.put, List.setIfInBounds_toArray, List.set_cons_zero, List.set_cons_succ]
            clear hK K
            refine wpAny_ready (rs := [5]) (by kernel_rfl) (by simp) ?_
            refine AllReady.cons rfl (fun K hK => ?_) AllReady.nil
            go_simp
            refine hK _ _ ?_
            try simp only [Act.put, List.setIfInBounds_toArray, List.set_cons_zero, List.set_cons_succ]
            clear hK K
            refine wpAny_ready (rs := [11]) (by kernel_rfl) (by simp) ?_
            refine AllReady.cons rfl (fun K hK => ?_) AllReady.nil
            go_simp
            go_at_call 54
            refine (HRe.out _ ((Below.refl _ _).drew)).mono ?_; rintro e w5 ⟨rfl, hb5⟩
            refine hK _ _ ?_
            try simp only [Act.put, List.setIfInBounds_toArray, List.set_cons_zero, List.set_cons_succ]
            clear hK K
            refine take_op (i := 12) (d := 37) (v := .bool true) rfl rfl (by kernel_rfl) (by kernel_rfl) (by kernel_rfl) hQ (Or.inl ⟨by rfl, fun _ => by first | rfl | (go_simp; done) | (go_simp; rfl)⟩) ?_
            simp only [Act.put, List.setIfInBounds_toArray, List.set_cons_zero, List.set_cons_succ]
            refine wpAny_done (by kernel_rfl) (hN _ _ ?_) _
            have hb5' : Below wr.heap.size wr w5 := ((Below.refl _ _).drew).trans (hb5.mono (Nat.le_refl _))
            have HB5 := Lib.hid (HB.out.trans (hb5'.mono HB.out.size))
            have HN5 := Lib.hid (Hnet.out.below hb5')
            have HR5 := Lib.hid (Hrow.out.below hb5')
            have HO5 := Lib.hid (Hoat.out.below hb5' hobl)
            have hs5 := hb5'.size
            clear hb5 hb5' Hnet Hrow Hoat HB c0 c1 c2 c3
            obtain ⟨e1, e2, e3⟩ := Hcell.out w5 HB5.out
            obtain ⟨off1, off2⟩ := own_off_net (by have h := HR5.out; unfold RowI at h; rw [intsOf_len] at h; exact h) HN5.out
            go_wp2_with fail
            refine (join_any w1.heap.size n bs cn _ ra rb rm _ HN5.out f1 (by omega) (by omega) f3 hn8 wm (by omega)).mono ?_; rintro e w6 ⟨rfl, hnet6, t6⟩
            rw [Hjo.out] at hnet6
            have hown6 := own_touch HR5.out t6 (fun g' e h => by cases e; rcases h with h | h; exact off2 _ f1 (by omega) h; exact off2 _ (by omega) f3 h)
            rw [intsOf_len] at hown6
            have hba := Hbs.out ra f1 (by omega)
            have hbb := Hbs.out rb (by omega) f3
            have hb6 : Below w.heap.size w w6 := HB5.out.trans (t6.below (by rintro j (h | h) <;> omega) HB5.out.size)
            have ho6 := HO5.out.touchN t6 (by omega) (by rintro (h | h) <;> omega)
            have hs6 : w5.heap.size ≤ w6.heap.size := t6.size
            have hs60 := hb6.size
            obtain ⟨off3, off4⟩ := own_off_net hown6 hnet6
            have HN6 := Lib.hid hnet6; have HB6 := Lib.hid hb6; have HO6 := Lib.hid ho6
            have HF4 := Lib.hid off4
            clear hnet6 t6 hb6 ho6 off1 off2 e1 e2 e3 HN5 HR5 HO5 HB5 HRe off4 HE Ht
            go_wp2_with (at_builtin; refine wpList_append_lies _ rfl _ _ 26 rfl w.heap.size 3 i0 (.int .i64 0) 1 8 Try.underlying26 hinf hz0 hz1 hz2 rfl (by decide) _ _ _ rfl (hown6.alloc _) ⟨w6.heap.size, 0, none⟩ 1 1 [.int .i64 i] rfl rfl (cell_one_new _ _ _) (by simp [Value.oneCell']) (by decide) (by simp only [maxLen]; omega) (by omega) (by simp; omega) (w6.heap.size + 1) (by simp) ?_; intro g8 cp8 w8 hown8 hgrow hat8 hlt8)
            have ha6 : Below w6.heap.size w6 (w6.alloc (.cells #[.int .i64 i] 3)) := (Below.refl _ _).alloc (Nat.le_refl _) _
            have ht8 : Touch (fun j => j = g) (w6.alloc (.cells #[.int .i64 i] 3)) w8 := Touch.grown hgrow rfl
            have HB8 := Lib.hid ((HB6.out.alloc hs60 (.cells #[.int .i64 i] 3)).grown hgrow (by simp; omega) (fun j hj => (hown6.lt j hj).1))
            have HN8 := Lib.hid ((HN6.out.below ha6).touch ht8 (fun h => off3 h.symm) (fun t t0 t1 h => HF4.out t t0 t1 h.symm))
            have HO8 := Lib.hid ((HO6.out.below ha6 (show ob < w6.heap.size by omega)).touchN ht8 (by simp; omega) (fun h => hgo h.symm))
            have hob8 : ob < w8.heap.size := by have := ht8.size; simp at this; omega
            have hgo8 : g8 ≠ ob := hat8.elim (fun h => by injection h with h; exact fun e => hgo (Eq.trans h e)) (fun h => by omega)
            have HR8 := Lib.hid (show RowI w8 w.heap.size (.slice (some ⟨g8, 0, none⟩) (S.length + 1) cp8) (intsOf (S ++ [i])) by rw [intsOf_snoc]; exact RowI.snoc (by rw [intsOf_len]; exact hown8))
            have Hlen := Lib.hid (show (S ++ [i]).length = S.length + 1 by simp)
            go_wp2
            go_roundw
            case rel => exact ⟨k + 1, cn + 2, g8, cp8, hlt, by go_num, by omega, by rw [Hst.out, Hlen.out], by rw [Hst.out]; exact HN8.out, by rw [Hst.out]; exact HR8.out, fun _ => ⟨hgo8, hob8, HO8.out⟩, HB8.out⟩
            case measure => simp [intOf]; omega
      · obtain rfl : k = l.length := by omega
        have htk : (orderM l).take l.length = orderM l := by rw [← orderM_length l, List.take_length]
        rw [htk] at hrow hnet ⊢
        have hsort : ((intsOf (netTo n l (orderM l))).mergeSort fun x y => decide (x ≤ y)) = netUp n l l.length := netUp_sort n l
        have hsh := (netS_inv n l).2.2
        unfold netS at hsh
        have hlen := intsOf_len (netTo n l (orderM l))
        have hown := hrow
        unfold RowI at hown
        rw [← hlen] at hown
        have hS := sortI_own hown (by omega)
        rw [hsort, hlen] at hS
        have hpl : (netUp n l l.length).length = (intsOf (netTo n l (orderM l))).length := by rw [← hsort, List.length_mergeSort]
        rw [← hlen] at hS
        have Hgr := Lib.hid (fun w' (h : wr.grownBy w' (some g)) => hb.grown h hb.size (fun j hj => by injection hj with hj; subst hj; exact (hown.lt _ rfl).1))
        have HS := Lib.hid hS
        have Hpl := Lib.hid hpl
        rw [← hlen]
        clear hsort hsh hlen hown hS hpl hrow hb hnet hos htk
        generalize intsOf (netTo n l (orderM l)) = zs at *
        generalize netUp n l l.length = ps at *
        go_wp2_with fail
        refine HS.out.mono ?_; rintro e w4 ⟨rfl, ho4, hg4⟩
        have HR4 := Lib.hid (show RowI w4 w.heap.size (.slice (some ⟨g, 0, none⟩) zs.length cp) ps by unfold RowI; rw [Hpl.out]; exact ho4)
        have HI := Lib.hid (IntsOk.row (w := w) true HR4.out (Nat.le_refl _) (Hgr.out w4 hg4))
        clear ho4 hg4 HR4
        go_wp2
        go_ret2
        exact HI.out

end Go.Proofs.Ytlkhgnglblgldaa
