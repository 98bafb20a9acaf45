/- BillAdd of the model. -/
import Derived.Test.YtmdcpigobfhckaaFEB
import Derived.Test.YtmdcpigobfhckaaFM
import Derived.Test.YtmdcpigobfhckaaAP
namespace Go.Proofs.Ytmdcpigobfhckaa
open Go.RowKit

theorem FrIn.newsB {w : World} {ad : Addr} {cap : Nat} {l : List Fr} (h : FrIn w (.slice (some ad) l.length cap) l) {B : Nat} (hB : w.heap.size ≤ B) {X : World} (hX : Below w.heap.size w X) : ∀ w', Below B X w' → ∀ j u, (encFr l)[j]? = some u → w'.cell? (ad.add j) = some u := fun w' hb j u hj => by
  obtain ⟨h1, h2⟩ := h.news rfl
  have hl : l ≠ [] := by rintro rfl; simp [encFr] at hj
  rw [hb.cell (p := ad.add j) (by rw [addr_blk]; exact Nat.lt_of_lt_of_le (h1 hl) hB), hX.cell (p := ad.add j) (by rw [addr_blk]; exact h1 hl)]
  exact h2 j u hj

set_option maxRecDepth 100000 in
set_option maxHeartbeats 2000000 in
theorem book1_any (n : Int) (ad : Addr) (cap : Nat) (l : List Fr) (r : Fr) (w : World) (wn : W64 n) (hv : FrIn w (.slice (some ad) l.length cap) l) (hm : l.length ≤ 1048576) :
    Calls Try.prog 34 #[.int .i64 n, .slice (some ad) l.length cap, .agg #[.int .i64 r.a, .int .i64 r.b, .int .i64 r.m]] w (FrRow (bookL n l r) (validF n (l ++ [r])) w) := by
  obtain ⟨i0, hi0, hz0, hz1, hz2⟩ := info_parts infoFr
  obtain ⟨ra, rb, rm⟩ := r
  dsimp only
  have hB0 : Below w.heap.size w (w.alloc (.cells #[.int .i64 ra, .int .i64 rb, .int .i64 rm] 41)).drew := ((Below.refl _ _).alloc (Nat.le_refl _) _).drew
  have HB0 := Lib.hid hB0; clear hB0
  have HVl := Lib.hid (fun w' (h : Below w.heap.size w w') => bill1_any n _ l w' wn (hv.below h) (by omega))
  have Hnews := Lib.hid (hv.newsB (B := w.heap.size + 1) (by omega) HB0.out)
  have HL := Lib.hid (show ∀ w', Below (w.heap.size + 1) (w.alloc (.cells #[.int .i64 ra, .int .i64 rb, .int .i64 rm] 41)).drew w' → w'.cell? ⟨w.heap.size, 0, none⟩ = some (.int .i64 ra) ∧ w'.cell? ⟨w.heap.size, 1, none⟩ = some (.int .i64 rb) ∧ w'.cell? ⟨w.heap.size, 2, none⟩ = some (.int .i64 rm) from fun w' hb =>
    ⟨(hb.cell (p := ⟨w.heap.size, 0, none⟩) (by simp)).trans (by go_simp), (hb.cell (p := ⟨w.heap.size, 1, none⟩) (by simp)).trans (by go_simp), (hb.cell (p := ⟨w.heap.size, 2, none⟩) (by simp)).trans (by go_simp)⟩)
  have HK0 := Lib.hid (Mk.start (w.alloc (.cells #[.int .i64 ra, .int .i64 rb, .int .i64 rm] 41)).drew (w.heap.size + 1) 41 3 (by simp))
  obtain ⟨xs, hxs⟩ : ∃ xs, l ++ [(⟨ra, rb, rm⟩ : Fr)] = xs := ⟨_, rfl⟩
  have Hxs := Lib.hid hxs; clear hxs
  have Hlen := Lib.hid (show xs.length = l.length + 1 by rw [← Hxs.out]; simp)
  have Hrow := Lib.hid (show ∀ v w', (∀ v' n' xs', some (v, 0 + l.length + 1, [] ++ encFr l ++ [.int .i64 ra, .int .i64 rb, .int .i64 rm]) = some (v', n', xs') → w'.ownsRow (w.heap.size + 1) 41 3 v' n' xs') → RowFr w' (w.heap.size + 1) v xs from fun v w' h => by
    have h1 := h _ _ _ rfl
    rw [Nat.zero_add, List.nil_append] at h1
    rw [← Hxs.out]
    unfold RowFr
    rw [encFr_snoc, List.length_append]
    exact h1)
  have Hsz := Lib.hid (show ((w.alloc (.cells #[.int .i64 ra, .int .i64 rb, .int .i64 rm] 41)).drew).heap.size = w.heap.size + 1 by simp)
  clear hv
  go_enter Try.func34, Try.ntmps34
  go_wp2
  refine wp_region_any (by kernel_rfl) ?_
  change wpAny _ _ _ _ 7 #[false, false, false, false, false, false, false] _ (World.drew _)
  refine with_Q (fun _ _ _ _ _ h => h) (fun Q hQ hN => ?_)
  generalize World.drew (w.alloc (.cells #[.int .i64 ra, .int .i64 rb, .int .i64 rm] 41)) = w0 at *
  refine take_op (i := 1) (d := 10) (v := .slice (some ad) l.length cap) rfl rfl (by kernel_rfl) (by kernel_rfl) (by kernel_rfl) hQ (Or.inl ⟨by rfl, fun _ => by first | rfl | (go_simp; done) | (go_simp; rfl)⟩) ?_
  simp only [Act.put, List.setIfInBounds_toArray, List.set_cons_zero, List.set_cons_succ]
  refine wpAny_ready (rs := [0, 3]) (by kernel_rfl) (by simp) ?_
  refine AllReady.cons rfl (fun K hK => ?_) (AllReady.cons rfl (fun K hK => ?_) AllReady.nil)
  · go_simp
    refine hK _ _ ?_
    try simp only [Act.put, List.setIfInBounds_toArray, List.set_cons_zero, List.set_cons_succ]
    have hk1 := Mk.zero HK0.out
    generalize World.alloc w0 (.cells #[] 41) = wz1 at *
    clear hK K
    refine wpAny_ready (rs := [2, 3]) (by kernel_rfl) (by simp) ?_
    refine AllReady.cons rfl (fun K hK => ?_) (AllReady.cons rfl (fun K hK => ?_) AllReady.nil)
    · refine step_app hk1 (by rfl) _ _ 25 (by rfl) i0 _ 24 Try.underlying25 hi0 hz0 hz1 hz2 rfl (by omega) (by rfl) ad l.length cap (encFr l) (by rfl) (encFr_len _) (Hnews.out _ hk1.bel) (encFr_one _) (by simp only [maxLen]; omega) (by omega) ?_
      intro va2 wz2 hk2 hn2
      change K (Act.put _ (some 11) va2) wz2
      refine hK _ _ ?_
      try simp only [Act.put, List.setIfInBounds_toArray, List.set_cons_zero, List.set_cons_succ]
      clear hK K
      refine wpAny_ready (rs := [3]) (by kernel_rfl) (by simp) ?_
      refine AllReady.cons rfl (fun K hK => ?_) AllReady.nil
      have hl3 := HL.out _ hk2.bel
      obtain ⟨k0_3, k1_3, k2_3⟩ := hl3
      go_simp
      refine hK _ _ ?_
      try simp only [Act.put, List.setIfInBounds_toArray, List.set_cons_zero, List.set_cons_succ]
      clear hK K k0_3 k1_3 k2_3
      refine wpAny_ready (rs := [4]) (by kernel_rfl) (by simp) ?_
      refine AllReady.cons rfl (fun K hK => ?_) AllReady.nil
      go_simp
      refine hK _ _ ?_
      try simp only [Act.put, List.setIfInBounds_toArray, List.set_cons_zero, List.set_cons_succ]
      have hk4 := Mk.one hk2 #[.int .i64 ra, .int .i64 rb, .int .i64 rm] 41
      generalize World.alloc wz2 (.cells #[.int .i64 ra, .int .i64 rb, .int .i64 rm] 41) = wz4 at *
      clear hK K
      refine wpAny_ready (rs := [5]) (by kernel_rfl) (by simp) ?_
      refine AllReady.cons rfl (fun K hK => ?_) AllReady.nil
      refine step_app hk4 (by rfl) _ _ 25 (by rfl) i0 _ 24 Try.underlying25 hi0 hz0 hz1 hz2 rfl (by omega) (by rfl) ⟨wz2.heap.size, 0, none⟩ 1 1 [.int .i64 ra, .int .i64 rb, .int .i64 rm] (by rfl) rfl (hk4.new _ _ rfl).2.2.1 (by simp [Value.oneCell']) (by simp only [maxLen]; omega) (by omega) ?_
      intro va5 wz5 hk5 hn5
      change K (Act.put _ (some 14) va5) wz5
      refine hK _ _ ?_
      try simp only [Act.put, List.setIfInBounds_toArray, List.set_cons_zero, List.set_cons_succ]
      clear hK K
      refine take_op (i := 6) (d := 8) (v := va5) rfl rfl (by kernel_rfl) (by kernel_rfl) (by kernel_rfl) hQ (Or.inl ⟨by rfl, fun _ => by first | rfl | (go_simp; done) | (go_simp; rfl)⟩) ?_
      simp only [Act.put, List.setIfInBounds_toArray, List.set_cons_zero, List.set_cons_succ]
      refine wpAny_done (by kernel_rfl) (hN _ _ ?_) _
      have HF := Lib.hid (Hrow.out _ _ hk5.own)
      have HB := Lib.hid (HB0.out.trans (Below.mono hk5.bel (by omega)))
      clear Hnews HL
      cases hz : validF n l with
      | false =>
        have Hz := Lib.hid hz
        have HOK := Lib.hid (show validF n (l ++ [⟨ra, rb, rm⟩]) = false from Bool.eq_false_iff.2 fun h => by have := validF_front h; rw [hz] at this; cases this)
        clear hz
        go_wp2_with fail
        refine (HVl.out _ HB.out).mono ?_; rintro e w5 ⟨rfl, hb5⟩
        have HB5 := Lib.hid (HB.out.trans (hb5.mono HB.out.size))
        rw [Hz.out]
        go_wp2
        go_ret2
        rw [bookL_no HOK.out, HOK.out]
        exact FrRow.no HB5.out.size HB5.out
      | true =>
        have Hz := Lib.hid hz
        clear hz
        go_wp2_with fail
        refine (HVl.out _ HB.out).mono ?_; rintro e w5 ⟨rfl, hb5⟩
        have HB5 := Lib.hid (HB.out.trans (hb5.mono HB.out.size))
        rw [Hz.out]
        have HFd := Lib.hid (HF.out.below hb5)
        go_wp2_with fail
        refine (bill1_any n _ xs _ wn HFd.out.in_ (by rw [Hlen.out]; omega)).mono ?_; rintro e w6 ⟨rfl, hb6⟩
        have HB6 := Lib.hid (HB5.out.trans (hb6.mono HB5.out.size))
        have HF6 := Lib.hid (HFd.out.below hb6)
        cases hy : validF n xs with
        | false =>
          have HOK := Lib.hid (show validF n (l ++ [⟨ra, rb, rm⟩]) = false by rw [Hxs.out]; exact hy)
          go_wp2
          go_ret2
          rw [bookL_no HOK.out, HOK.out]
          exact FrRow.no HB6.out.size HB6.out
        | true =>
          have HOK := Lib.hid (show validF n (l ++ [⟨ra, rb, rm⟩]) = true by rw [Hxs.out]; exact hy)
          go_wp2
          go_ret2
          rw [bookL_yes HOK.out, HOK.out, Hxs.out]
          exact ⟨_, rfl, HF6.out.mono (by omega), HB6.out⟩
    · have hl6 := HL.out _ hk1.bel
      obtain ⟨k0_6, k1_6, k2_6⟩ := hl6
      go_simp
      refine hK _ _ ?_
      try simp only [Act.put, List.setIfInBounds_toArray, List.set_cons_zero, List.set_cons_succ]
      clear hK K k0_6 k1_6 k2_6
      refine wpAny_ready (rs := [2, 4]) (by kernel_rfl) (by simp) ?_
      refine AllReady.cons rfl (fun K hK => ?_) (AllReady.cons rfl (fun K hK => ?_) AllReady.nil)
      · refine step_app hk1 (by rfl) _ _ 25 (by rfl) i0 _ 24 Try.underlying25 hi0 hz0 hz1 hz2 rfl (by omega) (by rfl) ad l.length cap (encFr l) (by rfl) (encFr_len _) (Hnews.out _ hk1.bel) (encFr_one _) (by simp only [maxLen]; omega) (by omega) ?_
        intro va7 wz7 hk7 hn7
        change K (Act.put _ (some 11) va7) wz7
        refine hK _ _ ?_
        try simp only [Act.put, List.setIfInBounds_toArray, List.set_cons_zero, List.set_cons_succ]
        clear hK K
        refine wpAny_ready (rs := [4]) (by kernel_rfl) (by simp) ?_
        refine AllReady.cons rfl (fun K hK => ?_) AllReady.nil
        go_simp
        refine hK _ _ ?_
        try simp only [Act.put, List.setIfInBounds_toArray, List.set_cons_zero, List.set_cons_succ]
        have hk8 := Mk.one hk7 #[.int .i64 ra, .int .i64 rb, .int .i64 rm] 41
        generalize World.alloc wz7 (.cells #[.int .i64 ra, .int .i64 rb, .int .i64 rm] 41) = wz8 at *
        clear hK K
        refine wpAny_ready (rs := [5]) (by kernel_rfl) (by simp) ?_
        refine AllReady.cons rfl (fun K hK => ?_) AllReady.nil
        refine step_app hk8 (by rfl) _ _ 25 (by rfl) i0 _ 24 Try.underlying25 hi0 hz0 hz1 hz2 rfl (by omega) (by rfl) ⟨wz7.heap.size, 0, none⟩ 1 1 [.int .i64 ra, .int .i64 rb, .int .i64 rm] (by rfl) rfl (hk8.new _ _ rfl).2.2.1 (by simp [Value.oneCell']) (by simp only [maxLen]; omega) (by omega) ?_
        intro va9 wz9 hk9 hn9
        change K (Act.put _ (some 14) va9) wz9
        refine hK _ _ ?_
        try simp only [Act.put, List.setIfInBounds_toArray, List.set_cons_zero, List.set_cons_succ]
        clear hK K
        refine take_op (i := 6) (d := 8) (v := va9) rfl rfl (by kernel_rfl) (by kernel_rfl) (by kernel_rfl) hQ (Or.inl ⟨by rfl, fun _ => by first | rfl | (go_simp; done) | (go_simp; rfl)⟩) ?_
        simp only [Act.put, List.setIfInBounds_toArray, List.set_cons_zero, List.set_cons_succ]
        refine wpAny_done (by kernel_rfl) (hN _ _ ?_) _
        have HF := Lib.hid (Hrow.out _ _ hk9.own)
        have HB := Lib.hid (HB0.out.trans (Below.mono hk9.bel (by omega)))
        clear Hnews HL
        cases hz : validF n l with
        | false =>
          have Hz := Lib.hid hz
          have HOK := Lib.hid (show validF n (l ++ [⟨ra, rb, rm⟩]) = false from Bool.eq_false_iff.2 fun h => by have := validF_front h; rw [hz] at this; cases this)
          clear hz
          go_wp2_with fail
          refine (HVl.out _ HB.out).mono ?_; rintro e w5 ⟨rfl, hb5⟩
          have HB5 := Lib.hid (HB.out.trans (hb5.mono HB.out.size))
          rw [Hz.out]
          go_wp2
          go_ret2
          rw [bookL_no HOK.out, HOK.out]
          exact FrRow.no HB5.out.size HB5.out
        | true =>
          have Hz := Lib.hid hz
          clear hz
          go_wp2_with fail
          refine (HVl.out _ HB.out).mono ?_; rintro e w5 ⟨rfl, hb5⟩
          have HB5 := Lib.hid (HB.out.trans (hb5.mono HB.out.size))
          rw [Hz.out]
          have HFd := Lib.hid (HF.out.below hb5)
          go_wp2_with fail
          refine (bill1_any n _ xs _ wn HFd.out.in_ (by rw [Hlen.out]; omega)).mono ?_; rintro e w6 ⟨rfl, hb6⟩
          have HB6 := Lib.hid (HB5.out.trans (hb6.mono HB5.out.size))
          have HF6 := Lib.hid (HFd.out.below hb6)
          cases hy : validF n xs with
          | false =>
            have HOK := Lib.hid (show validF n (l ++ [⟨ra, rb, rm⟩]) = false by rw [Hxs.out]; exact hy)
            go_wp2
            go_ret2
            rw [bookL_no HOK.out, HOK.out]
            exact FrRow.no HB6.out.size HB6.out
          | true =>
            have HOK := Lib.hid (show validF n (l ++ [⟨ra, rb, rm⟩]) = true by rw [Hxs.out]; exact hy)
            go_wp2
            go_ret2
            rw [bookL_yes HOK.out, HOK.out, Hxs.out]
            exact ⟨_, rfl, HF6.out.mono (by omega), HB6.out⟩
      · go_simp
        refine hK _ _ ?_
        try simp only [Act.put, List.setIfInBounds_toArray, List.set_cons_zero, List.set_cons_succ]
        have hk10 := Mk.one hk1 #[.int .i64 ra, .int .i64 rb, .int .i64 rm] 41
        generalize World.alloc wz1 (.cells #[.int .i64 ra, .int .i64 rb, .int .i64 rm] 41) = wz10 at *
        clear hK K
        refine wpAny_ready (rs := [2]) (by kernel_rfl) (by simp) ?_
        refine AllReady.cons rfl (fun K hK => ?_) AllReady.nil
        refine step_app hk10 (by rfl) _ _ 25 (by rfl) i0 _ 24 Try.underlying25 hi0 hz0 hz1 hz2 rfl (by omega) (by rfl) ad l.length cap (encFr l) (by rfl) (encFr_len _) (Hnews.out _ hk10.bel) (encFr_one _) (by simp only [maxLen]; omega) (by omega) ?_
        intro va11 wz11 hk11 hn11
        change K (Act.put _ (some 11) va11) wz11
        refine hK _ _ ?_
        try simp only [Act.put, List.setIfInBounds_toArray, List.set_cons_zero, List.set_cons_succ]
        clear hK K
        refine wpAny_ready (rs := [5]) (by kernel_rfl) (by simp) ?_
        refine AllReady.cons rfl (fun K hK => ?_) AllReady.nil
        refine step_app hk11 (by rfl) _ _ 25 (by rfl) i0 _ 24 Try.underlying25 hi0 hz0 hz1 hz2 rfl (by omega) (by rfl) ⟨wz1.heap.size, 0, none⟩ 1 1 [.int .i64 ra, .int .i64 rb, .int .i64 rm] (by rfl) rfl (hk11.new _ _ rfl).2.2.1 (by simp [Value.oneCell']) (by simp only [maxLen]; omega) (by omega) ?_
        intro va12 wz12 hk12 hn12
        change K (Act.put _ (some 14) va12) wz12
        refine hK _ _ ?_
        try simp only [Act.put, List.setIfInBounds_toArray, List.set_cons_zero, List.set_cons_succ]
        clear hK K
        refine take_op (i := 6) (d := 8) (v := va12) rfl rfl (by kernel_rfl) (by kernel_rfl) (by kernel_rfl) hQ (Or.inl ⟨by rfl, fun _ => by first | rfl | (go_simp; done) | (go_simp; rfl)⟩) ?_
        simp only [Act.put, List.setIfInBounds_toArray, List.set_cons_zero, List.set_cons_succ]
        refine wpAny_done (by kernel_rfl) (hN _ _ ?_) _
        have HF := Lib.hid (Hrow.out _ _ hk12.own)
        have HB := Lib.hid (HB0.out.trans (Below.mono hk12.bel (by omega)))
        clear Hnews HL
        cases hz : validF n l with
        | false =>
          have Hz := Lib.hid hz
          have HOK := Lib.hid (show validF n (l ++ [⟨ra, rb, rm⟩]) = false from Bool.eq_false_iff.2 fun h => by have := validF_front h; rw [hz] at this; cases this)
          clear hz
          go_wp2_with fail
          refine (HVl.out _ HB.out).mono ?_; rintro e w5 ⟨rfl, hb5⟩
          have HB5 := Lib.hid (HB.out.trans (hb5.mono HB.out.size))
          rw [Hz.out]
          go_wp2
          go_ret2
          rw [bookL_no HOK.out, HOK.out]
          exact FrRow.no HB5.out.size HB5.out
        | true =>
          have Hz := Lib.hid hz
          clear hz
          go_wp2_with fail
          refine (HVl.out _ HB.out).mono ?_; rintro e w5 ⟨rfl, hb5⟩
          have HB5 := Lib.hid (HB.out.trans (hb5.mono HB.out.size))
          rw [Hz.out]
          have HFd := Lib.hid (HF.out.below hb5)
          go_wp2_with fail
          refine (bill1_any n _ xs _ wn HFd.out.in_ (by rw [Hlen.out]; omega)).mono ?_; rintro e w6 ⟨rfl, hb6⟩
          have HB6 := Lib.hid (HB5.out.trans (hb6.mono HB5.out.size))
          have HF6 := Lib.hid (HFd.out.below hb6)
          cases hy : validF n xs with
          | false =>
            have HOK := Lib.hid (show validF n (l ++ [⟨ra, rb, rm⟩]) = false by rw [Hxs.out]; exact hy)
            go_wp2
            go_ret2
            rw [bookL_no HOK.out, HOK.out]
            exact FrRow.no HB6.out.size HB6.out
          | true =>
            have HOK := Lib.hid (show validF n (l ++ [⟨ra, rb, rm⟩]) = true by rw [Hxs.out]; exact hy)
            go_wp2
            go_ret2
            rw [bookL_yes HOK.out, HOK.out, Hxs.out]
            exact ⟨_, rfl, HF6.out.mono (by omega), HB6.out⟩
  · have hl13 := HL.out _ HK0.out.bel
    obtain ⟨k0_13, k1_13, k2_13⟩ := hl13
    go_simp
    refine hK _ _ ?_
    try simp only [Act.put, List.setIfInBounds_toArray, List.set_cons_zero, List.set_cons_succ]
    clear hK K k0_13 k1_13 k2_13
    refine wpAny_ready (rs := [0, 4]) (by kernel_rfl) (by simp) ?_
    refine AllReady.cons rfl (fun K hK => ?_) (AllReady.cons rfl (fun K hK => ?_) AllReady.nil)
    · go_simp
      refine hK _ _ ?_
      try simp only [Act.put, List.setIfInBounds_toArray, List.set_cons_zero, List.set_cons_succ]
      have hk14 := Mk.zero HK0.out
      generalize World.alloc w0 (.cells #[] 41) = wz14 at *
      clear hK K
      refine wpAny_ready (rs := [2, 4]) (by kernel_rfl) (by simp) ?_
      refine AllReady.cons rfl (fun K hK => ?_) (AllReady.cons rfl (fun K hK => ?_) AllReady.nil)
      · refine step_app hk14 (by rfl) _ _ 25 (by rfl) i0 _ 24 Try.underlying25 hi0 hz0 hz1 hz2 rfl (by omega) (by rfl) ad l.length cap (encFr l) (by rfl) (encFr_len _) (Hnews.out _ hk14.bel) (encFr_one _) (by simp only [maxLen]; omega) (by omega) ?_
        intro va15 wz15 hk15 hn15
        change K (Act.put _ (some 11) va15) wz15
        refine hK _ _ ?_
        try simp only [Act.put, List.setIfInBounds_toArray, List.set_cons_zero, List.set_cons_succ]
        clear hK K
        refine wpAny_ready (rs := [4]) (by kernel_rfl) (by simp) ?_
        refine AllReady.cons rfl (fun K hK => ?_) AllReady.nil
        go_simp
        refine hK _ _ ?_
        try simp only [Act.put, List.setIfInBounds_toArray, List.set_cons_zero, List.set_cons_succ]
        have hk16 := Mk.one hk15 #[.int .i64 ra, .int .i64 rb, .int .i64 rm] 41
        generalize World.alloc wz15 (.cells #[.int .i64 ra, .int .i64 rb, .int .i64 rm] 41) = wz16 at *
        clear hK K
        refine wpAny_ready (rs := [5]) (by kernel_rfl) (by simp) ?_
        refine AllReady.cons rfl (fun K hK => ?_) AllReady.nil
        refine step_app hk16 (by rfl) _ _ 25 (by rfl) i0 _ 24 Try.underlying25 hi0 hz0 hz1 hz2 rfl (by omega) (by rfl) ⟨wz15.heap.size, 0, none⟩ 1 1 [.int .i64 ra, .int .i64 rb, .int .i64 rm] (by rfl) rfl (hk16.new _ _ rfl).2.2.1 (by simp [Value.oneCell']) (by simp only [maxLen]; omega) (by omega) ?_
        intro va17 wz17 hk17 hn17
        change K (Act.put _ (some 14) va17) wz17
        refine hK _ _ ?_
        try simp only [Act.put, List.setIfInBounds_toArray, List.set_cons_zero, List.set_cons_succ]
        clear hK K
        refine take_op (i := 6) (d := 8) (v := va17) rfl rfl (by kernel_rfl) (by kernel_rfl) (by kernel_rfl) hQ (Or.inl ⟨by rfl, fun _ => by first | rfl | (go_simp; done) | (go_simp; rfl)⟩) ?_
        simp only [Act.put, List.setIfInBounds_toArray, List.set_cons_zero, List.set_cons_succ]
        refine wpAny_done (by kernel_rfl) (hN _ _ ?_) _
        have HF := Lib.hid (Hrow.out _ _ hk17.own)
        have HB := Lib.hid (HB0.out.trans (Below.mono hk17.bel (by omega)))
        clear Hnews HL
        cases hz : validF n l with
        | false =>
          have Hz := Lib.hid hz
          have HOK := Lib.hid (show validF n (l ++ [⟨ra, rb, rm⟩]) = false from Bool.eq_false_iff.2 fun h => by have := validF_front h; rw [hz] at this; cases this)
          clear hz
          go_wp2_with fail
          refine (HVl.out _ HB.out).mono ?_; rintro e w5 ⟨rfl, hb5⟩
          have HB5 := Lib.hid (HB.out.trans (hb5.mono HB.out.size))
          rw [Hz.out]
          go_wp2
          go_ret2
          rw [bookL_no HOK.out, HOK.out]
          exact FrRow.no HB5.out.size HB5.out
        | true =>
          have Hz := Lib.hid hz
          clear hz
          go_wp2_with fail
          refine (HVl.out _ HB.out).mono ?_; rintro e w5 ⟨rfl, hb5⟩
          have HB5 := Lib.hid (HB.out.trans (hb5.mono HB.out.size))
          rw [Hz.out]
          have HFd := Lib.hid (HF.out.below hb5)
          go_wp2_with fail
          refine (bill1_any n _ xs _ wn HFd.out.in_ (by rw [Hlen.out]; omega)).mono ?_; rintro e w6 ⟨rfl, hb6⟩
          have HB6 := Lib.hid (HB5.out.trans (hb6.mono HB5.out.size))
          have HF6 := Lib.hid (HFd.out.below hb6)
          cases hy : validF n xs with
          | false =>
            have HOK := Lib.hid (show validF n (l ++ [⟨ra, rb, rm⟩]) = false by rw [Hxs.out]; exact hy)
            go_wp2
            go_ret2
            rw [bookL_no HOK.out, HOK.out]
            exact FrRow.no HB6.out.size HB6.out
          | true =>
            have HOK := Lib.hid (show validF n (l ++ [⟨ra, rb, rm⟩]) = true by rw [Hxs.out]; exact hy)
            go_wp2
            go_ret2
            rw [bookL_yes HOK.out, HOK.out, Hxs.out]
            exact ⟨_, rfl, HF6.out.mono (by omega), HB6.out⟩
      · go_simp
        refine hK _ _ ?_
        try simp only [Act.put, List.setIfInBounds_toArray, List.set_cons_zero, List.set_cons_succ]
        have hk18 := Mk.one hk14 #[.int .i64 ra, .int .i64 rb, .int .i64 rm] 41
        generalize World.alloc wz14 (.cells #[.int .i64 ra, .int .i64 rb, .int .i64 rm] 41) = wz18 at *
        clear hK K
        refine wpAny_ready (rs := [2]) (by kernel_rfl) (by simp) ?_
        refine AllReady.cons rfl (fun K hK => ?_) AllReady.nil
        refine step_app hk18 (by rfl) _ _ 25 (by rfl) i0 _ 24 Try.underlying25 hi0 hz0 hz1 hz2 rfl (by omega) (by rfl) ad l.length cap (encFr l) (by rfl) (encFr_len _) (Hnews.out _ hk18.bel) (encFr_one _) (by simp only [maxLen]; omega) (by omega) ?_
        intro va19 wz19 hk19 hn19
        change K (Act.put _ (some 11) va19) wz19
        refine hK _ _ ?_
        try simp only [Act.put, List.setIfInBounds_toArray, List.set_cons_zero, List.set_cons_succ]
        clear hK K
        refine wpAny_ready (rs := [5]) (by kernel_rfl) (by simp) ?_
        refine AllReady.cons rfl (fun K hK => ?_) AllReady.nil
        refine step_app hk19 (by rfl) _ _ 25 (by rfl) i0 _ 24 Try.underlying25 hi0 hz0 hz1 hz2 rfl (by omega) (by rfl) ⟨wz14.heap.size, 0, none⟩ 1 1 [.int .i64 ra, .int .i64 rb, .int .i64 rm] (by rfl) rfl (hk19.new _ _ rfl).2.2.1 (by simp [Value.oneCell']) (by simp only [maxLen]; omega) (by omega) ?_
        intro va20 wz20 hk20 hn20
        change K (Act.put _ (some 14) va20) wz20
        refine hK _ _ ?_
        try simp only [Act.put, List.setIfInBounds_toArray, List.set_cons_zero, List.set_cons_succ]
        clear hK K
        refine take_op (i := 6) (d := 8) (v := va20) rfl rfl (by kernel_rfl) (by kernel_rfl) (by kernel_rfl) hQ (Or.inl ⟨by rfl, fun _ => by first | rfl | (go_simp; done) | (go_simp; rfl)⟩) ?_
        simp only [Act.put, List.setIfInBounds_toArray, List.set_cons_zero, List.set_cons_succ]
        refine wpAny_done (by kernel_rfl) (hN _ _ ?_) _
        have HF := Lib.hid (Hrow.out _ _ hk20.own)
        have HB := Lib.hid (HB0.out.trans (Below.mono hk20.bel (by omega)))
        clear Hnews HL
        cases hz : validF n l with
        | false =>
          have Hz := Lib.hid hz
          have HOK := Lib.hid (show validF n (l ++ [⟨ra, rb, rm⟩]) = false from Bool.eq_false_iff.2 fun h => by have := validF_front h; rw [hz] at this; cases this)
          clear hz
          go_wp2_with fail
          refine (HVl.out _ HB.out).mono ?_; rintro e w5 ⟨rfl, hb5⟩
          have HB5 := Lib.hid (HB.out.trans (hb5.mono HB.out.size))
          rw [Hz.out]
          go_wp2
          go_ret2
          rw [bookL_no HOK.out, HOK.out]
          exact FrRow.no HB5.out.size HB5.out
        | true =>
          have Hz := Lib.hid hz
          clear hz
          go_wp2_with fail
          refine (HVl.out _ HB.out).mono ?_; rintro e w5 ⟨rfl, hb5⟩
          have HB5 := Lib.hid (HB.out.trans (hb5.mono HB.out.size))
          rw [Hz.out]
          have HFd := Lib.hid (HF.out.below hb5)
          go_wp2_with fail
          refine (bill1_any n _ xs _ wn HFd.out.in_ (by rw [Hlen.out]; omega)).mono ?_; rintro e w6 ⟨rfl, hb6⟩
          have HB6 := Lib.hid (HB5.out.trans (hb6.mono HB5.out.size))
          have HF6 := Lib.hid (HFd.out.below hb6)
          cases hy : validF n xs with
          | false =>
            have HOK := Lib.hid (show validF n (l ++ [⟨ra, rb, rm⟩]) = false by rw [Hxs.out]; exact hy)
            go_wp2
            go_ret2
            rw [bookL_no HOK.out, HOK.out]
            exact FrRow.no HB6.out.size HB6.out
          | true =>
            have HOK := Lib.hid (show validF n (l ++ [⟨ra, rb, rm⟩]) = true by rw [Hxs.out]; exact hy)
            go_wp2
            go_ret2
            rw [bookL_yes HOK.out, HOK.out, Hxs.out]
            exact ⟨_, rfl, HF6.out.mono (by omega), HB6.out⟩
    · go_simp
      refine hK _ _ ?_
      try simp only [Act.put, List.setIfInBounds_toArray, List.set_cons_zero, List.set_cons_succ]
      have hk21 := Mk.one HK0.out #[.int .i64 ra, .int .i64 rb, .int .i64 rm] 41
      generalize World.alloc w0 (.cells #[.int .i64 ra, .int .i64 rb, .int .i64 rm] 41) = wz21 at *
      clear hK K
      refine wpAny_ready (rs := [0]) (by kernel_rfl) (by simp) ?_
      refine AllReady.cons rfl (fun K hK => ?_) AllReady.nil
      go_simp
      refine hK _ _ ?_
      try simp only [Act.put, List.setIfInBounds_toArray, List.set_cons_zero, List.set_cons_succ]
      have hk22 := Mk.zero hk21
      generalize World.alloc wz21 (.cells #[] 41) = wz22 at *
      clear hK K
      refine wpAny_ready (rs := [2]) (by kernel_rfl) (by simp) ?_
      refine AllReady.cons rfl (fun K hK => ?_) AllReady.nil
      refine step_app hk22 (by rfl) _ _ 25 (by rfl) i0 _ 24 Try.underlying25 hi0 hz0 hz1 hz2 rfl (by omega) (by rfl) ad l.length cap (encFr l) (by rfl) (encFr_len _) (Hnews.out _ hk22.bel) (encFr_one _) (by simp only [maxLen]; omega) (by omega) ?_
      intro va23 wz23 hk23 hn23
      change K (Act.put _ (some 11) va23) wz23
      refine hK _ _ ?_
      try simp only [Act.put, List.setIfInBounds_toArray, List.set_cons_zero, List.set_cons_succ]
      clear hK K
      refine wpAny_ready (rs := [5]) (by kernel_rfl) (by simp) ?_
      refine AllReady.cons rfl (fun K hK => ?_) AllReady.nil
      refine step_app hk23 (by rfl) _ _ 25 (by rfl) i0 _ 24 Try.underlying25 hi0 hz0 hz1 hz2 rfl (by omega) (by rfl) ⟨w0.heap.size, 0, none⟩ 1 1 [.int .i64 ra, .int .i64 rb, .int .i64 rm] (by rfl) rfl (hk23.new _ _ rfl).2.2.1 (by simp [Value.oneCell']) (by simp only [maxLen]; omega) (by omega) ?_
      intro va24 wz24 hk24 hn24
      change K (Act.put _ (some 14) va24) wz24
      refine hK _ _ ?_
      try simp only [Act.put, List.setIfInBounds_toArray, List.set_cons_zero, List.set_cons_succ]
      clear hK K
      refine take_op (i := 6) (d := 8) (v := va24) rfl rfl (by kernel_rfl) (by kernel_rfl) (by kernel_rfl) hQ (Or.inl ⟨by rfl, fun _ => by first | rfl | (go_simp; done) | (go_simp; rfl)⟩) ?_
      simp only [Act.put, List.setIfInBounds_toArray, List.set_cons_zero, List.set_cons_succ]
      refine wpAny_done (by kernel_rfl) (hN _ _ ?_) _
      have HF := Lib.hid (Hrow.out _ _ hk24.own)
      have HB := Lib.hid (HB0.out.trans (Below.mono hk24.bel (by omega)))
      clear Hnews HL
      cases hz : validF n l with
      | false =>
        have Hz := Lib.hid hz
        have HOK := Lib.hid (show validF n (l ++ [⟨ra, rb, rm⟩]) = false from Bool.eq_false_iff.2 fun h => by have := validF_front h; rw [hz] at this; cases this)
        clear hz
        go_wp2_with fail
        refine (HVl.out _ HB.out).mono ?_; rintro e w5 ⟨rfl, hb5⟩
        have HB5 := Lib.hid (HB.out.trans (hb5.mono HB.out.size))
        rw [Hz.out]
        go_wp2
        go_ret2
        rw [bookL_no HOK.out, HOK.out]
        exact FrRow.no HB5.out.size HB5.out
      | true =>
        have Hz := Lib.hid hz
        clear hz
        go_wp2_with fail
        refine (HVl.out _ HB.out).mono ?_; rintro e w5 ⟨rfl, hb5⟩
        have HB5 := Lib.hid (HB.out.trans (hb5.mono HB.out.size))
        rw [Hz.out]
        have HFd := Lib.hid (HF.out.below hb5)
        go_wp2_with fail
        refine (bill1_any n _ xs _ wn HFd.out.in_ (by rw [Hlen.out]; omega)).mono ?_; rintro e w6 ⟨rfl, hb6⟩
        have HB6 := Lib.hid (HB5.out.trans (hb6.mono HB5.out.size))
        have HF6 := Lib.hid (HFd.out.below hb6)
        cases hy : validF n xs with
        | false =>
          have HOK := Lib.hid (show validF n (l ++ [⟨ra, rb, rm⟩]) = false by rw [Hxs.out]; exact hy)
          go_wp2
          go_ret2
          rw [bookL_no HOK.out, HOK.out]
          exact FrRow.no HB6.out.size HB6.out
        | true =>
          have HOK := Lib.hid (show validF n (l ++ [⟨ra, rb, rm⟩]) = true by rw [Hxs.out]; exact hy)
          go_wp2
          go_ret2
          rw [bookL_yes HOK.out, HOK.out, Hxs.out]
          exact ⟨_, rfl, HF6.out.mono (by omega), HB6.out⟩

theorem book1_out (n : Int) (wn : W64 n) (ad : Addr) (cap : Nat) (l : List Fr) (r : Fr) (w : World) (hv : FrIn w (.slice (some ad) l.length cap) l) (hm : l.length ≤ 1048576) :
    Calls Try.prog 34 #[.int .i64 n, .slice (some ad) l.length cap, .agg #[.int .i64 r.a, .int .i64 r.b, .int .i64 r.m]] w (FrOut (bookL n l r) (validF n (l ++ [r])) w) :=
  (book1_any n ad cap l r w wn hv hm).mono fun _ _ h => h.out

end Go.Proofs.Ytmdcpigobfhckaa
