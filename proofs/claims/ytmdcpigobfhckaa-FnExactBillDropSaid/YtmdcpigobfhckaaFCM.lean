/- BillDrop of the model. -/
import Derived.Test.YtmdcpigobfhckaaFCN
import Derived.Test.YtmdcpigobfhckaaFM
import Derived.Test.YtmdcpigobfhckaaAP
namespace Go.Proofs.Ytmdcpigobfhckaa
open Go.RowKit

set_option maxRecDepth 100000 in
set_option maxHeartbeats 2000000 in
theorem cancel1_any (n : Int) (b o cap : Nat) (l : List Fr) (x : Int) (w : World) (wn : W64 n) (hv : FrIn w (.slice (some ⟨b, o, none⟩) l.length cap) l) (hm : l.length ≤ 1048576) :
    Calls Try.prog 38 #[.int .i64 n, .slice (some ⟨b, o, none⟩) l.length cap, .int .i64 x] w (FrRow (cancelL n l x) (atOk n l x) w) := by
  obtain ⟨i0, hi0, hz0, hz1, hz2⟩ := info_parts infoFr
  have HV := Lib.hid (bill1_any n _ l w wn hv (by omega))
  have Hv := Lib.hid hv
  have hcap : l.length ≤ cap := by obtain ⟨a, c, he, hc, _⟩ := hv; cases he; exact hc
  clear hv
  have hwl : IntKind.i64.wrap ((l.length : Int) - 1) = (l.length : Int) - 1 := IntWalk.i64_in _ (by omega)
  cases hz : validF n l with
  | false =>
    have HOK := Lib.hid (show atOk n l x = false by unfold atOk; rw [hz]; rfl)
    rw [hz] at HV
    go_enter Try.func38, Try.ntmps38
    go_wp2_with fail
    refine HV.out.mono ?_; rintro e w1 ⟨rfl, hb1⟩; have HB1 := Lib.hid hb1; clear hb1
    go_wp2
    go_ret2
    rw [cancelL_no HOK.out, HOK.out]
    exact FrRow.no HB1.out.size HB1.out
  | true =>
    rw [hz] at HV
    by_cases hx : 0 ≤ x ∧ x ≤ (l.length : Int) - 1
    · have P1 := Lib.hid (show inB x 0 ((l.length : Int) - 1) = true from (inB_iff _ _ _).2 hx)
      obtain ⟨k, rfl⟩ : ∃ k : Nat, x = k := ⟨x.toNat, by omega⟩
      have hk : k < l.length := by omega
      have HOK := Lib.hid (show atOk n l (k : Int) = true from atOk_iff.2 ⟨hz, by omega, by omega⟩)
      have Hcl := Lib.hid (cancelL_yes HOK.out)
      have hl16 := (headF_iff.1 (valid_head hz)).2
      clear hz hx
      have hx0 : (0 : Int) ≤ (k : Int) := by omega
      have hx1 : (k : Int) < (l.length : Int) := by omega
      have hx2 : (k : Int) ≤ (cap : Int) := by omega
      have hx3 : (0 : Int) ≤ (k : Int) + 1 := by omega
      have hx4 : (k : Int) + 1 ≤ (l.length : Int) := by omega
      have hx5 : ((k : Int) + 1).toNat = k + 1 := by omega
      have hw1 : IntKind.i64.wrap ((k : Int) + 1) = (k : Int) + 1 := IntWalk.i64_in _ (by omega)
      have hw2 : wrap64 ((k : Int) + 1) = (k : Int) + 1 := by unfold wrap64; omega
      have hlen1 : (encFr (l.take k)).length = k * 3 := by rw [encFr_len, List.length_take]; congr 1; omega
      have hlen2 : (encFr (l.drop (k + 1))).length = (l.length - (k + 1)) * 3 := by rw [encFr_len, List.length_drop]
      have Hrow := Lib.hid (show ∀ v w', (∀ v' n' xs', some (v, 0 + k + (l.length - (k + 1)), [] ++ encFr (l.take k) ++ encFr (l.drop (k + 1))) = some (v', n', xs') → w'.ownsRow w.heap.size 41 3 v' n' xs') → RowFr w' w.heap.size v (cutL l k) from fun v w' h => by
        have h1 := h _ _ _ rfl
        rw [Nat.zero_add, List.nil_append, ← encFr_append] at h1
        have e : (cutL l k).length = k + (l.length - (k + 1)) := by simp only [cutL, List.length_append, List.length_take, List.length_drop]; omega
        unfold RowFr
        rw [e]
        exact h1)
      rw [show ((k : Int).toNat) = k from rfl] at Hcl
      by_cases hck : cap = k + 1
      · subst hck
        have ht : tailA b o (k + 1) (k + 1) = ⟨b, o, none⟩ := if_pos rfl
        have hl0 : l.length - (k + 1) = 0 := by omega
        rw [hl0] at hlen2 Hrow
        go_enter Try.func38, Try.ntmps38
        go_wp2_with fail
        refine HV.out.mono ?_; rintro e w1 ⟨rfl, hb1⟩
        have HB1 := Lib.hid hb1; clear hb1
        go_wp2_with fail
        refine (l6In_any _ _ _ _).mono ?_; rintro e w2 ⟨rfl, rfl⟩
        rw [P1.out]
        go_wp2_with fail
        have HK0 := Lib.hid (Mk.start w1.drew w.heap.size 41 3 (by have := HB1.out.size; simpa using this))
        have HB0 := Lib.hid (show Below w.heap.size w w1.drew from HB1.out.drew)
        have Hn1 := Lib.hid (fun w' (h : Below w.heap.size w1.drew w') => (Hv.out.below (HB0.out.trans h)).front k)
        have hn2 := fun w' (h : Below w.heap.size w1.drew w') => (Hv.out.below (HB0.out.trans h)).back (k + 1) (by omega)
        rw [ht] at hn2
        have Hn2 := Lib.hid hn2
        clear hn2 ht
        refine wp_region_any (by kernel_rfl) ?_
        change wpAny _ _ _ _ 12 #[false, false, false, false, false, false, false, false, false, false, false, false] _ (World.drew _)
        refine with_Q (fun _ _ _ _ _ h => h) (fun Q hQ hN => ?_)
        generalize World.drew (w1) = w0 at *
        refine take_op (i := 1) (d := 22) (v := .slice (some ⟨b, o, none⟩) l.length (k + 1)) rfl rfl (by kernel_rfl) (by kernel_rfl) (by kernel_rfl) hQ (Or.inl ⟨by rfl, fun _ => by first | rfl | (go_simp; done) | (go_simp; rfl) | (go_simp; intro h; exfalso; omega)⟩) ?_
        simp only [Act.put, List.setIfInBounds_toArray, List.set_cons_zero, List.set_cons_succ]
        refine take_op (i := 2) (d := 23) (v := .int .i64 k) rfl rfl (by kernel_rfl) (by kernel_rfl) (by kernel_rfl) hQ (Or.inl ⟨by rfl, fun _ => by first | rfl | (go_simp; done) | (go_simp; rfl) | (go_simp; intro h; exfalso; omega)⟩) ?_
        simp only [Act.put, List.setIfInBounds_toArray, List.set_cons_zero, List.set_cons_succ]
        refine take_op (i := 3) (d := 24) (v := .slice (some ⟨b, o, none⟩) k (k + 1)) rfl rfl (by kernel_rfl) (by kernel_rfl) (by kernel_rfl) hQ (Or.inl ⟨by rfl, fun _ => by first | rfl | (go_simp; done) | (go_simp; rfl) | (go_simp; intro h; exfalso; omega)⟩) ?_
        simp only [Act.put, List.setIfInBounds_toArray, List.set_cons_zero, List.set_cons_succ]
        refine take_op (i := 5) (d := 26) (v := .slice (some ⟨b, o, none⟩) l.length (k + 1)) rfl rfl (by kernel_rfl) (by kernel_rfl) (by kernel_rfl) hQ (Or.inl ⟨by rfl, fun _ => by first | rfl | (go_simp; done) | (go_simp; rfl) | (go_simp; intro h; exfalso; omega)⟩) ?_
        simp only [Act.put, List.setIfInBounds_toArray, List.set_cons_zero, List.set_cons_succ]
        refine take_op (i := 6) (d := 27) (v := .int .i64 k) rfl rfl (by kernel_rfl) (by kernel_rfl) (by kernel_rfl) hQ (Or.inl ⟨by rfl, fun _ => by first | rfl | (go_simp; done) | (go_simp; rfl) | (go_simp; intro h; exfalso; omega)⟩) ?_
        simp only [Act.put, List.setIfInBounds_toArray, List.set_cons_zero, List.set_cons_succ]
        refine take_op (i := 7) (d := 28) (v := .int .i64 ((k : Int) + 1)) rfl rfl (by kernel_rfl) (by kernel_rfl) (by kernel_rfl) hQ (Or.inl ⟨by rfl, fun _ => by first | rfl | (go_simp; done) | (go_simp; rfl) | (go_simp; intro h; exfalso; omega)⟩) ?_
        simp only [Act.put, List.setIfInBounds_toArray, List.set_cons_zero, List.set_cons_succ]
        refine take_op (i := 8) (d := 29) (v := .slice (some ⟨b, o, none⟩) 0 0) rfl rfl (by kernel_rfl) (by kernel_rfl) (by kernel_rfl) hQ (Or.inl ⟨by rfl, fun _ => by first | rfl | (go_simp; done) | (go_simp; rfl) | (go_simp; intro h; exfalso; omega)⟩) ?_
        simp only [Act.put, List.setIfInBounds_toArray, List.set_cons_zero, List.set_cons_succ]
        refine wpAny_ready (rs := [0]) (by kernel_rfl) (by simp) ?_
        refine AllReady.cons rfl (fun K hK => ?_) AllReady.nil
        go_simp
        refine hK _ _ ?_
        try simp only [Act.put, List.setIfInBounds_toArray, List.set_cons_zero, List.set_cons_succ]
        have hk1 := Mk.zero HK0.out
        generalize World.alloc w0 (.cells #[] 41) = wz1 at *
        clear hK K
        refine wpAny_ready (rs := [4]) (by kernel_rfl) (by simp) ?_
        refine AllReady.cons rfl (fun K hK => ?_) AllReady.nil
        refine step_app hk1 (by rfl) _ _ 25 (by rfl) i0 _ 24 Try.underlying25 hi0 hz0 hz1 hz2 rfl (by omega) (by rfl) ⟨b, o, none⟩ k (k + 1) (encFr (l.take k)) (by rfl) hlen1 (Hn1.out _ hk1.bel) (encFr_one _) (by simp only [maxLen]; omega) (by omega) ?_
        intro va2 wz2 hk2 hn2
        change K (Act.put _ (some 25) va2) wz2
        refine hK _ _ ?_
        try simp only [Act.put, List.setIfInBounds_toArray, List.set_cons_zero, List.set_cons_succ]
        clear hK K
        refine wpAny_ready (rs := [9]) (by kernel_rfl) (by simp) ?_
        refine AllReady.cons rfl (fun K hK => ?_) AllReady.nil
        refine step_app hk2 (by rfl) _ _ 25 (by rfl) i0 _ 24 Try.underlying25 hi0 hz0 hz1 hz2 rfl (by omega) (by rfl) ⟨b, o, none⟩ 0 0 (encFr (l.drop (k + 1))) (by rfl) hlen2 (Hn2.out _ hk2.bel) (encFr_one _) (by simp only [maxLen]; omega) (by omega) ?_
        intro va3 wz3 hk3 hn3
        change K (Act.put _ (some 30) va3) wz3
        refine hK _ _ ?_
        try simp only [Act.put, List.setIfInBounds_toArray, List.set_cons_zero, List.set_cons_succ]
        clear hK K
        refine take_op (i := 10) (d := 6) (v := va3) rfl rfl (by kernel_rfl) (by kernel_rfl) (by kernel_rfl) hQ (Or.inl ⟨by rfl, fun _ => by first | rfl | (go_simp; done) | (go_simp; rfl) | (go_simp; intro h; exfalso; omega)⟩) ?_
        simp only [Act.put, List.setIfInBounds_toArray, List.set_cons_zero, List.set_cons_succ]
        refine take_op (i := 11) (d := 7) (v := .bool true) rfl rfl (by kernel_rfl) (by kernel_rfl) (by kernel_rfl) hQ (Or.inl ⟨by rfl, fun _ => by first | rfl | (go_simp; done) | (go_simp; rfl) | (go_simp; intro h; exfalso; omega)⟩) ?_
        simp only [Act.put, List.setIfInBounds_toArray, List.set_cons_zero, List.set_cons_succ]
        refine wpAny_done (by kernel_rfl) (hN _ _ ?_) _
        have HR := Lib.hid (Hrow.out _ _ hk3.own)
        have HB := Lib.hid (HB0.out.trans hk3.bel)
        clear Hn1 Hn2
        go_wp2
        go_ret2
        rw [Hcl.out, HOK.out]
        exact ⟨_, rfl, HR.out, HB.out⟩
      · have ht : tailA b o cap (k + 1) = ⟨b, o + (k + 1) * 3, none⟩ := if_neg hck
        go_enter Try.func38, Try.ntmps38
        go_wp2_with fail
        refine HV.out.mono ?_; rintro e w1 ⟨rfl, hb1⟩
        have HB1 := Lib.hid hb1; clear hb1
        go_wp2_with fail
        refine (l6In_any _ _ _ _).mono ?_; rintro e w2 ⟨rfl, rfl⟩
        rw [P1.out]
        go_wp2_with fail
        have HK0 := Lib.hid (Mk.start w1.drew w.heap.size 41 3 (by have := HB1.out.size; simpa using this))
        have HB0 := Lib.hid (show Below w.heap.size w w1.drew from HB1.out.drew)
        have Hn1 := Lib.hid (fun w' (h : Below w.heap.size w1.drew w') => (Hv.out.below (HB0.out.trans h)).front k)
        have hn2 := fun w' (h : Below w.heap.size w1.drew w') => (Hv.out.below (HB0.out.trans h)).back (k + 1) (by omega)
        rw [ht] at hn2
        have Hn2 := Lib.hid hn2
        clear hn2 ht
        refine wp_region_any (by kernel_rfl) ?_
        change wpAny _ _ _ _ 12 #[false, false, false, false, false, false, false, false, false, false, false, false] _ (World.drew _)
        refine with_Q (fun _ _ _ _ _ h => h) (fun Q hQ hN => ?_)
        generalize World.drew (w1) = w0 at *
        refine take_op (i := 1) (d := 22) (v := .slice (some ⟨b, o, none⟩) l.length cap) rfl rfl (by kernel_rfl) (by kernel_rfl) (by kernel_rfl) hQ (Or.inl ⟨by rfl, fun _ => by first | rfl | (go_simp; done) | (go_simp; rfl) | (go_simp; intro h; exfalso; omega)⟩) ?_
        simp only [Act.put, List.setIfInBounds_toArray, List.set_cons_zero, List.set_cons_succ]
        refine take_op (i := 2) (d := 23) (v := .int .i64 k) rfl rfl (by kernel_rfl) (by kernel_rfl) (by kernel_rfl) hQ (Or.inl ⟨by rfl, fun _ => by first | rfl | (go_simp; done) | (go_simp; rfl) | (go_simp; intro h; exfalso; omega)⟩) ?_
        simp only [Act.put, List.setIfInBounds_toArray, List.set_cons_zero, List.set_cons_succ]
        refine take_op (i := 3) (d := 24) (v := .slice (some ⟨b, o, none⟩) k cap) rfl rfl (by kernel_rfl) (by kernel_rfl) (by kernel_rfl) hQ (Or.inl ⟨by rfl, fun _ => by first | rfl | (go_simp; done) | (go_simp; rfl) | (go_simp; intro h; exfalso; omega)⟩) ?_
        simp only [Act.put, List.setIfInBounds_toArray, List.set_cons_zero, List.set_cons_succ]
        refine take_op (i := 5) (d := 26) (v := .slice (some ⟨b, o, none⟩) l.length cap) rfl rfl (by kernel_rfl) (by kernel_rfl) (by kernel_rfl) hQ (Or.inl ⟨by rfl, fun _ => by first | rfl | (go_simp; done) | (go_simp; rfl) | (go_simp; intro h; exfalso; omega)⟩) ?_
        simp only [Act.put, List.setIfInBounds_toArray, List.set_cons_zero, List.set_cons_succ]
        refine take_op (i := 6) (d := 27) (v := .int .i64 k) rfl rfl (by kernel_rfl) (by kernel_rfl) (by kernel_rfl) hQ (Or.inl ⟨by rfl, fun _ => by first | rfl | (go_simp; done) | (go_simp; rfl) | (go_simp; intro h; exfalso; omega)⟩) ?_
        simp only [Act.put, List.setIfInBounds_toArray, List.set_cons_zero, List.set_cons_succ]
        refine take_op (i := 7) (d := 28) (v := .int .i64 ((k : Int) + 1)) rfl rfl (by kernel_rfl) (by kernel_rfl) (by kernel_rfl) hQ (Or.inl ⟨by rfl, fun _ => by first | rfl | (go_simp; done) | (go_simp; rfl) | (go_simp; intro h; exfalso; omega)⟩) ?_
        simp only [Act.put, List.setIfInBounds_toArray, List.set_cons_zero, List.set_cons_succ]
        refine take_op (i := 8) (d := 29) (v := .slice (some ⟨b, o + (k + 1) * 3, none⟩) (l.length - (k + 1)) (cap - (k + 1))) rfl rfl (by kernel_rfl) (by kernel_rfl) (by kernel_rfl) hQ (Or.inl ⟨by rfl, fun _ => by first | rfl | (go_simp; done) | (go_simp; rfl) | (go_simp; intro h; exfalso; omega)⟩) ?_
        simp only [Act.put, List.setIfInBounds_toArray, List.set_cons_zero, List.set_cons_succ]
        refine wpAny_ready (rs := [0]) (by kernel_rfl) (by simp) ?_
        refine AllReady.cons rfl (fun K hK => ?_) AllReady.nil
        go_simp
        refine hK _ _ ?_
        try simp only [Act.put, List.setIfInBounds_toArray, List.set_cons_zero, List.set_cons_succ]
        have hk1 := Mk.zero HK0.out
        generalize World.alloc w0 (.cells #[] 41) = wz1 at *
        clear hK K
        refine wpAny_ready (rs := [4]) (by kernel_rfl) (by simp) ?_
        refine AllReady.cons rfl (fun K hK => ?_) AllReady.nil
        refine step_app hk1 (by rfl) _ _ 25 (by rfl) i0 _ 24 Try.underlying25 hi0 hz0 hz1 hz2 rfl (by omega) (by rfl) ⟨b, o, none⟩ k cap (encFr (l.take k)) (by rfl) hlen1 (Hn1.out _ hk1.bel) (encFr_one _) (by simp only [maxLen]; omega) (by omega) ?_
        intro va2 wz2 hk2 hn2
        change K (Act.put _ (some 25) va2) wz2
        refine hK _ _ ?_
        try simp only [Act.put, List.setIfInBounds_toArray, List.set_cons_zero, List.set_cons_succ]
        clear hK K
        refine wpAny_ready (rs := [9]) (by kernel_rfl) (by simp) ?_
        refine AllReady.cons rfl (fun K hK => ?_) AllReady.nil
        refine step_app hk2 (by rfl) _ _ 25 (by rfl) i0 _ 24 Try.underlying25 hi0 hz0 hz1 hz2 rfl (by omega) (by rfl) ⟨b, o + (k + 1) * 3, none⟩ (l.length - (k + 1)) (cap - (k + 1)) (encFr (l.drop (k + 1))) (by rfl) hlen2 (Hn2.out _ hk2.bel) (encFr_one _) (by simp only [maxLen]; omega) (by omega) ?_
        intro va3 wz3 hk3 hn3
        change K (Act.put _ (some 30) va3) wz3
        refine hK _ _ ?_
        try simp only [Act.put, List.setIfInBounds_toArray, List.set_cons_zero, List.set_cons_succ]
        clear hK K
        refine take_op (i := 10) (d := 6) (v := va3) rfl rfl (by kernel_rfl) (by kernel_rfl) (by kernel_rfl) hQ (Or.inl ⟨by rfl, fun _ => by first | rfl | (go_simp; done) | (go_simp; rfl) | (go_simp; intro h; exfalso; omega)⟩) ?_
        simp only [Act.put, List.setIfInBounds_toArray, List.set_cons_zero, List.set_cons_succ]
        refine take_op (i := 11) (d := 7) (v := .bool true) rfl rfl (by kernel_rfl) (by kernel_rfl) (by kernel_rfl) hQ (Or.inl ⟨by rfl, fun _ => by first | rfl | (go_simp; done) | (go_simp; rfl) | (go_simp; intro h; exfalso; omega)⟩) ?_
        simp only [Act.put, List.setIfInBounds_toArray, List.set_cons_zero, List.set_cons_succ]
        refine wpAny_done (by kernel_rfl) (hN _ _ ?_) _
        have HR := Lib.hid (Hrow.out _ _ hk3.own)
        have HB := Lib.hid (HB0.out.trans hk3.bel)
        clear Hn1 Hn2
        go_wp2
        go_ret2
        rw [Hcl.out, HOK.out]
        exact ⟨_, rfl, HR.out, HB.out⟩
    · have P1 := Lib.hid (show inB x 0 ((l.length : Int) - 1) = false from Bool.eq_false_iff.2 fun h => hx ((inB_iff _ _ _).1 h))
      have HOK := Lib.hid (show atOk n l x = false from Bool.eq_false_iff.2 fun h => by have := atOk_iff.1 h; omega)
      go_enter Try.func38, Try.ntmps38
      go_wp2_with fail
      refine HV.out.mono ?_; rintro e w1 ⟨rfl, hb1⟩; have HB1 := Lib.hid hb1; clear hb1
      go_wp2_with fail
      refine (l6In_any _ _ _ _).mono ?_; rintro e w2 ⟨rfl, rfl⟩
      rw [P1.out]
      go_wp2
      go_ret2
      rw [cancelL_no HOK.out, HOK.out]
      exact FrRow.no HB1.out.size HB1.out

theorem cancel1_out (n : Int) (wn : W64 n) (b o cap : Nat) (l : List Fr) (x : Int) (w : World) (hv : FrIn w (.slice (some ⟨b, o, none⟩) l.length cap) l) (hm : l.length ≤ 1048576) :
    Calls Try.prog 38 #[.int .i64 n, .slice (some ⟨b, o, none⟩) l.length cap, .int .i64 x] w (FrOut (cancelL n l x) (atOk n l x) w) :=
  (cancel1_any n b o cap l x w wn hv hm).mono fun _ _ h => h.out

end Go.Proofs.Ytmdcpigobfhckaa
