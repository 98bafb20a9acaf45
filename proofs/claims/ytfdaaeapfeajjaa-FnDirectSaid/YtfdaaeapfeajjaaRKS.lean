/- RoadsAdd of the model. -/
import Derived.Test.YtfdaaeapfeajjaaRP
import Derived.Test.YtfdaaeapfeajjaaAP
namespace Go.Proofs.Ytfdaaeapfeajjaa
open Go.RowKit

theorem RzIn.roads {w : World} {v : Value} {l : List Rz} (h : RzIn w v l) : RoadsIn w v l := by
  obtain ⟨a, cap, rfl, _, ha⟩ := h
  exact ⟨a, cap, rfl, ha⟩
theorem RzIn.news {w : World} {ad : Addr} {cap : Nat} {l : List Rz} (h : RzIn w (.slice (some ad) l.length cap) l) : (l ≠ [] → ad.block < w.heap.size) ∧ ∀ j u, (encRz l)[j]? = some u → w.cell? (ad.add j) = some u := by
  obtain ⟨a, c, he, _, ha⟩ := h
  cases he
  by_cases hl : l = []
  · subst hl; exact ⟨fun h => absurd rfl h, fun j u hj => by simp [encRz] at hj⟩
  · obtain ⟨b, o, he, hb, hr⟩ := ha hl
    cases he
    refine ⟨fun _ => hb, fun j u hj => ?_⟩
    have h1 := hr.news (f := 0) (n := l.length) (by omega)
    rw [Nat.zero_mul, Nat.add_zero, List.drop_zero, List.take_length] at h1
    exact h1 j u hj
theorem RzIn.newsB {w : World} {ad : Addr} {cap : Nat} {l : List Rz} (h : RzIn w (.slice (some ad) l.length cap) l) {B : Nat} (hB : w.heap.size ≤ B) {X : World} (hX : Below w.heap.size w X) : ∀ w', Below B X w' → ∀ j u, (encRz l)[j]? = some u → w'.cell? (ad.add j) = some u := fun w' hb j u hj => by
  obtain ⟨h1, h2⟩ := h.news
  have hl : l ≠ [] := by rintro rfl; simp [encRz] at hj
  rw [hb.cell (p := ad.add j) (by rw [addr_blk]; exact Nat.lt_of_lt_of_le (h1 hl) hB), hX.cell (p := ad.add j) (by rw [addr_blk]; exact h1 hl)]
  exact h2 j u hj

/-- A row of the call's own, not nil, and a bool. -/
def RzRow (xs : List Rz) (ok : Bool) (w : World) (e : Ending) (w' : World) : Prop :=
  ∃ (ad : Addr) (cap : Nat), e = .returned (.tuple #[.slice (some ad) xs.length cap, .bool ok]) ∧ xs.length ≤ cap ∧ RowRz w' w.heap.size (.slice (some ad) xs.length cap) xs ∧ Below w.heap.size w w'

theorem RzRow.out {xs : List Rz} {ok : Bool} {w : World} {e : Ending} {w' : World} (h : RzRow xs ok w e w') : RzOut xs ok w e w' := by
  obtain ⟨ad, cap, rfl, hc, hr, hb⟩ := h
  obtain ⟨ad', cap', he, hc', ho, hblk⟩ := hr.row
  cases he
  exact ⟨_, _, rfl, hc, ho, hblk, hb⟩
theorem RzRow.no {w w' : World} (hs : w.heap.size ≤ w'.heap.size) (hb : Below w.heap.size w w') : RzRow [] false w (.returned (.tuple #[.slice (some ⟨w'.heap.size, 0, none⟩) 0 0, .bool false])) (w'.alloc (.cells #[] 50)) :=
  ⟨_, _, rfl, Nat.le_refl _, RowRz.made w' _ hs, hb.alloc hs _⟩

theorem RowRz.mono {w : World} {B B' : Nat} {v : Value} {l : List Rz} (h : RowRz w B v l) (hB : B' ≤ B) : RowRz w B' v l := by
  obtain ⟨h1, h2⟩ := h
  refine ⟨h1, ?_⟩
  rcases h2 with h0 | ⟨g, cap, cur, hv, hg, r⟩
  · exact .inl h0
  · exact .inr ⟨g, cap, cur, hv, Nat.le_trans hB hg, r⟩
theorem RowRz.in_ {w : World} {B : Nat} {a : Option Addr} {cap : Nat} {l : List Rz} (h : RowRz w B (.slice a l.length cap) l) (hc : l.length ≤ cap) : RoadsIn w (.slice a l.length cap) l := by
  obtain ⟨ad', cap', he, _, ho, _⟩ := h.row
  cases he
  exact (ho.ins hc).roads
theorem RowRz.full {w : World} {B : Nat} {v : Value} {l : List Rz} (h : RowRz w B v l) (hl : 0 < l.length) : ∃ (ad : Addr) (cap : Nat), v = .slice (some ad) l.length cap ∧ l.length ≤ cap := by
  obtain ⟨ad, cap, rfl, hc, ho, _⟩ := h.row
  obtain ⟨b, rfl, _⟩ := ho (by rintro rfl; simp at hl)
  exact ⟨_, _, rfl, hc⟩

set_option maxRecDepth 100000 in
set_option maxHeartbeats 1000000 in
theorem radd1_any (n : Int) (ad : Addr) (cap : Nat) (l : List Rd) (r : Rd) (w : World) (hv : RzIn w (.slice (some ad) l.length cap) l) (hm : l.length ≤ 1048576) :
    Calls Try.prog 88 #[.int .i64 n, .slice (some ad) l.length cap, .agg #[.int .i64 r.a, .int .i64 r.b, .int .i64 r.m]] w (RzRow (addR n l r) (addROk n l r) w) := by
  obtain ⟨i0, hi0, hz0, hz1, hz2⟩ := info_parts infoRz
  obtain ⟨ra, rb, rm⟩ := r
  dsimp only
  have hB0 : Below w.heap.size w (w.alloc (.cells #[.int .i64 ra, .int .i64 rb, .int .i64 rm] 50)).drew := ((Below.refl _ _).alloc (Nat.le_refl _) _).drew
  have HB0 := Lib.hid hB0; clear hB0
  have Hnews := Lib.hid (hv.newsB (B := w.heap.size + 1) (by omega) HB0.out)
  have HL := Lib.hid (show ∀ w', Below (w.heap.size + 1) (w.alloc (.cells #[.int .i64 ra, .int .i64 rb, .int .i64 rm] 50)).drew w' → w'.cell? ⟨w.heap.size, 0, none⟩ = some (.int .i64 ra) ∧ w'.cell? ⟨w.heap.size, 1, none⟩ = some (.int .i64 rb) ∧ w'.cell? ⟨w.heap.size, 2, none⟩ = some (.int .i64 rm) from fun w' hb =>
    ⟨(hb.cell (p := ⟨w.heap.size, 0, none⟩) (by simp)).trans (by go_simp), (hb.cell (p := ⟨w.heap.size, 1, none⟩) (by simp)).trans (by go_simp), (hb.cell (p := ⟨w.heap.size, 2, none⟩) (by simp)).trans (by go_simp)⟩)
  have HK0 := Lib.hid (Mk.start (w.alloc (.cells #[.int .i64 ra, .int .i64 rb, .int .i64 rm] 50)).drew (w.heap.size + 1) 50 3 (by simp))
  obtain ⟨xs, hxs⟩ : ∃ xs, l ++ [(⟨ra, rb, rm⟩ : Rd)] = xs := ⟨_, rfl⟩
  have Hxs := Lib.hid hxs; clear hxs
  have Hlen := Lib.hid (show xs.length = l.length + 1 by rw [← Hxs.out]; simp)
  have Hpos := Lib.hid (show 0 < xs.length by rw [Hlen.out]; omega)
  have Hrow := Lib.hid (show ∀ v w', (∀ v' n' xs', some (v, 0 + l.length + 1, [] ++ encRz l ++ [.int .i64 ra, .int .i64 rb, .int .i64 rm]) = some (v', n', xs') → w'.ownsRow (w.heap.size + 1) 50 3 v' n' xs') → RowRz w' (w.heap.size + 1) v xs from fun v w' h => by
    have h1 := h _ _ _ rfl
    rw [Nat.zero_add, List.nil_append] at h1
    rw [← Hxs.out]
    unfold RowRz
    rw [encRz_snoc, List.length_append]
    exact h1)
  have Hsz := Lib.hid (show ((w.alloc (.cells #[.int .i64 ra, .int .i64 rb, .int .i64 rm] 50)).drew).heap.size = w.heap.size + 1 by simp)
  clear hv
  go_enter Try.func88, Try.ntmps88
  go_wp2
  refine wp_region_any (by kernel_rfl) ?_
  change wpAny _ _ _ _ 7 #[false, false, false, false, false, false, false] _ (World.drew _)
  refine with_Q (fun _ _ _ _ _ h => h) (fun Q hQ hN => ?_)
  generalize World.drew (w.alloc (.cells #[.int .i64 ra, .int .i64 rb, .int .i64 rm] 50)) = w0 at *
  refine take_op (i := 1) (d := 10) (v := .slice (some ad) l.length cap) rfl rfl (by kernel_rfl) (by kernel_rfl) (by kernel_rfl) hQ (Or.inl ⟨by rfl, fun _ => by first | rfl | (go_simp; done) | (go_simp; rfl)⟩) ?_
  simp only [Act.put, List.setIfInBounds_toArray, List.set_cons_zero, List.set_cons_succ]
  refine wpAny_ready (rs := [0, 3]) (by kernel_rfl) (by simp) ?_
  refine AllReady.cons rfl (fun K hK => ?_) (AllReady.cons rfl (fun K hK => ?_) AllReady.nil)
  · go_simp
    refine hK _ _ ?_
    try simp only [Act.put, List.setIfInBounds_toArray, List.set_cons_zero, List.set_cons_succ]
    have hk1 := Mk.zero HK0.out
    generalize World.alloc w0 (.cells #[] 50) = wz1 at *
    clear hK K
    refine wpAny_ready (rs := [2, 3]) (by kernel_rfl) (by simp) ?_
    refine AllReady.cons rfl (fun K hK => ?_) (AllReady.cons rfl (fun K hK => ?_) AllReady.nil)
    · refine step_app hk1 (by rfl) _ _ 43 (by rfl) i0 _ 24 Try.underlying43 hi0 hz0 hz1 hz2 rfl (by omega) (by rfl) ad l.length cap (encRz l) (by rfl) (encRz_len _) (Hnews.out _ hk1.bel) (encRz_one _) (by simp only [maxLen]; omega) (by omega) ?_
      intro va2 wz2 hk2 hn2
      change K (Act.put _ (some 11) va2) wz2
      refine hK _ _ ?_
      try simp only [Act.put, List.setIfInBounds_toArray, List.set_cons_zero, List.set_cons_succ]
      clear hK K
      refine wpAny_ready (rs := [3]) (by kernel_rfl) (by simp) ?_
      refine AllReady.cons rfl (fun K hK => ?_) AllReady.nil
      have hl3 := HL.out _ hk2.bel
      obtain ⟨k0_3, k1_3, k2_3⟩ := hl3
      go_simp
      refine hK _ _ ?_
      try simp only [Act.put, List.setIfInBounds_toArray, List.set_cons_zero, List.set_cons_succ]
      clear hK K k0_3 k1_3 k2_3
      refine wpAny_ready (rs := [4]) (by kernel_rfl) (by simp) ?_
      refine AllReady.cons rfl (fun K hK => ?_) AllReady.nil
      go_simp
      refine hK _ _ ?_
      try simp only [Act.put, List.setIfInBounds_toArray, List.set_cons_zero, List.set_cons_succ]
      have hk4 := Mk.one hk2 #[.int .i64 ra, .int .i64 rb, .int .i64 rm] 50
      generalize World.alloc wz2 (.cells #[.int .i64 ra, .int .i64 rb, .int .i64 rm] 50) = wz4 at *
      clear hK K
      refine wpAny_ready (rs := [5]) (by kernel_rfl) (by simp) ?_
      refine AllReady.cons rfl (fun K hK => ?_) AllReady.nil
      refine step_app hk4 (by rfl) _ _ 43 (by rfl) i0 _ 24 Try.underlying43 hi0 hz0 hz1 hz2 rfl (by omega) (by rfl) ⟨wz2.heap.size, 0, none⟩ 1 1 [.int .i64 ra, .int .i64 rb, .int .i64 rm] (by rfl) rfl (hk4.new _ _ rfl).2.2.1 (by simp [Value.oneCell']) (by simp only [maxLen]; omega) (by omega) ?_
      intro va5 wz5 hk5 hn5
      change K (Act.put _ (some 14) va5) wz5
      refine hK _ _ ?_
      try simp only [Act.put, List.setIfInBounds_toArray, List.set_cons_zero, List.set_cons_succ]
      clear hK K
      refine take_op (i := 6) (d := 8) (v := va5) rfl rfl (by kernel_rfl) (by kernel_rfl) (by kernel_rfl) hQ (Or.inl ⟨by rfl, fun _ => by first | rfl | (go_simp; done) | (go_simp; rfl)⟩) ?_
      simp only [Act.put, List.setIfInBounds_toArray, List.set_cons_zero, List.set_cons_succ]
      refine wpAny_done (by kernel_rfl) (hN _ _ ?_) _
      have HF := Lib.hid (Hrow.out _ _ hk5.own)
      have HB := Lib.hid (HB0.out.trans (Below.mono hk5.bel (by omega)))
      obtain ⟨adv, capv, rfl, hcv⟩ := HF.out.full Hpos.out
      clear Hnews HL
      cases hz : validR n xs with
      | false =>
        have Hz := Lib.hid hz
        have HOK := Lib.hid (show addROk n l ⟨ra, rb, rm⟩ = false by unfold addROk; rw [Hxs.out]; exact hz)
        clear hz
        go_wp2_with fail
        refine (specValid_big n _ xs _ (HF.out.in_ hcv) (by rw [Hlen.out]; omega)).mono ?_; rintro e w5 ⟨rfl, hb5⟩
        have HB5 := Lib.hid (HB.out.trans (hb5.mono HB.out.size))
        clear hb5
        rw [Hz.out]
        go_wp2
        go_ret2
        have e1 : addR n l ⟨ra, rb, rm⟩ = [] := if_neg (by rw [HOK.out]; simp)
        rw [e1, HOK.out]
        exact RzRow.no HB5.out.size HB5.out
      | true =>
        have Hz := Lib.hid hz
        have HOK := Lib.hid (show addROk n l ⟨ra, rb, rm⟩ = true by unfold addROk; rw [Hxs.out]; exact hz)
        clear hz
        go_wp2_with fail
        refine (specValid_big n _ xs _ (HF.out.in_ hcv) (by rw [Hlen.out]; omega)).mono ?_; rintro e w5 ⟨rfl, hb5⟩
        have HB5 := Lib.hid (HB.out.trans (hb5.mono HB.out.size))
        have HF5 := Lib.hid (HF.out.below hb5)
        clear hb5
        rw [Hz.out]
        go_wp2
        go_ret2
        have e1 : addR n l ⟨ra, rb, rm⟩ = xs := by unfold addR; rw [if_pos HOK.out]; exact Hxs.out
        rw [e1, HOK.out]
        exact ⟨adv, capv, rfl, hcv, HF5.out.mono (by omega), HB5.out⟩
    · have hl6 := HL.out _ hk1.bel
      obtain ⟨k0_6, k1_6, k2_6⟩ := hl6
      go_simp
      refine hK _ _ ?_
      try simp only [Act.put, List.setIfInBounds_toArray, List.set_cons_zero, List.set_cons_succ]
      clear hK K k0_6 k1_6 k2_6
      refine wpAny_ready (rs := [2, 4]) (by kernel_rfl) (by simp) ?_
      refine AllReady.cons rfl (fun K hK => ?_) (AllReady.cons rfl (fun K hK => ?_) AllReady.nil)
      · refine step_app hk1 (by rfl) _ _ 43 (by rfl) i0 _ 24 Try.underlying43 hi0 hz0 hz1 hz2 rfl (by omega) (by rfl) ad l.length cap (encRz l) (by rfl) (encRz_len _) (Hnews.out _ hk1.bel) (encRz_one _) (by simp only [maxLen]; omega) (by omega) ?_
        intro va7 wz7 hk7 hn7
        change K (Act.put _ (some 11) va7) wz7
        refine hK _ _ ?_
        try simp only [Act.put, List.setIfInBounds_toArray, List.set_cons_zero, List.set_cons_succ]
        clear hK K
        refine wpAny_ready (rs := [4]) (by kernel_rfl) (by simp) ?_
        refine AllReady.cons rfl (fun K hK => ?_) AllReady.nil
        go_simp
        refine hK _ _ ?_
        try simp only [Act.put, List.setIfInBounds_toArray, List.set_cons_zero, List.set_cons_succ]
        have hk8 := Mk.one hk7 #[.int .i64 ra, .int .i64 rb, .int .i64 rm] 50
        generalize World.alloc wz7 (.cells #[.int .i64 ra, .int .i64 rb, .int .i64 rm] 50) = wz8 at *
        clear hK K
        refine wpAny_ready (rs := [5]) (by kernel_rfl) (by simp) ?_
        refine AllReady.cons rfl (fun K hK => ?_) AllReady.nil
        refine step_app hk8 (by rfl) _ _ 43 (by rfl) i0 _ 24 Try.underlying43 hi0 hz0 hz1 hz2 rfl (by omega) (by rfl) ⟨wz7.heap.size, 0, none⟩ 1 1 [.int .i64 ra, .int .i64 rb, .int .i64 rm] (by rfl) rfl (hk8.new _ _ rfl).2.2.1 (by simp [Value.oneCell']) (by simp only [maxLen]; omega) (by omega) ?_
        intro va9 wz9 hk9 hn9
        change K (Act.put _ (some 14) va9) wz9
        refine hK _ _ ?_
        try simp only [Act.put, List.setIfInBounds_toArray, List.set_cons_zero, List.set_cons_succ]
        clear hK K
        refine take_op (i := 6) (d := 8) (v := va9) rfl rfl (by kernel_rfl) (by kernel_rfl) (by kernel_rfl) hQ (Or.inl ⟨by rfl, fun _ => by first | rfl | (go_simp; done) | (go_simp; rfl)⟩) ?_
        simp only [Act.put, List.setIfInBounds_toArray, List.set_cons_zero, List.set_cons_succ]
        refine wpAny_done (by kernel_rfl) (hN _ _ ?_) _
        have HF := Lib.hid (Hrow.out _ _ hk9.own)
        have HB := Lib.hid (HB0.out.trans (Below.mono hk9.bel (by omega)))
        obtain ⟨adv, capv, rfl, hcv⟩ := HF.out.full Hpos.out
        clear Hnews HL
        cases hz : validR n xs with
        | false =>
          have Hz := Lib.hid hz
          have HOK := Lib.hid (show addROk n l ⟨ra, rb, rm⟩ = false by unfold addROk; rw [Hxs.out]; exact hz)
          clear hz
          go_wp2_with fail
          refine (specValid_big n _ xs _ (HF.out.in_ hcv) (by rw [Hlen.out]; omega)).mono ?_; rintro e w5 ⟨rfl, hb5⟩
          have HB5 := Lib.hid (HB.out.trans (hb5.mono HB.out.size))
          clear hb5
          rw [Hz.out]
          go_wp2
          go_ret2
          have e1 : addR n l ⟨ra, rb, rm⟩ = [] := if_neg (by rw [HOK.out]; simp)
          rw [e1, HOK.out]
          exact RzRow.no HB5.out.size HB5.out
        | true =>
          have Hz := Lib.hid hz
          have HOK := Lib.hid (show addROk n l ⟨ra, rb, rm⟩ = true by unfold addROk; rw [Hxs.out]; exact hz)
          clear hz
          go_wp2_with fail
          refine (specValid_big n _ xs _ (HF.out.in_ hcv) (by rw [Hlen.out]; omega)).mono ?_; rintro e w5 ⟨rfl, hb5⟩
          have HB5 := Lib.hid (HB.out.trans (hb5.mono HB.out.size))
          have HF5 := Lib.hid (HF.out.below hb5)
          clear hb5
          rw [Hz.out]
          go_wp2
          go_ret2
          have e1 : addR n l ⟨ra, rb, rm⟩ = xs := by unfold addR; rw [if_pos HOK.out]; exact Hxs.out
          rw [e1, HOK.out]
          exact ⟨adv, capv, rfl, hcv, HF5.out.mono (by omega), HB5.out⟩
      · go_simp
        refine hK _ _ ?_
        try simp only [Act.put, List.setIfInBounds_toArray, List.set_cons_zero, List.set_cons_succ]
        have hk10 := Mk.one hk1 #[.int .i64 ra, .int .i64 rb, .int .i64 rm] 50
        generalize World.alloc wz1 (.cells #[.int .i64 ra, .int .i64 rb, .int .i64 rm] 50) = wz10 at *
        clear hK K
        refine wpAny_ready (rs := [2]) (by kernel_rfl) (by simp) ?_
        refine AllReady.cons rfl (fun K hK => ?_) AllReady.nil
        refine step_app hk10 (by rfl) _ _ 43 (by rfl) i0 _ 24 Try.underlying43 hi0 hz0 hz1 hz2 rfl (by omega) (by rfl) ad l.length cap (encRz l) (by rfl) (encRz_len _) (Hnews.out _ hk10.bel) (encRz_one _) (by simp only [maxLen]; omega) (by omega) ?_
        intro va11 wz11 hk11 hn11
        change K (Act.put _ (some 11) va11) wz11
        refine hK _ _ ?_
        try simp only [Act.put, List.setIfInBounds_toArray, List.set_cons_zero, List.set_cons_succ]
        clear hK K
        refine wpAny_ready (rs := [5]) (by kernel_rfl) (by simp) ?_
        refine AllReady.cons rfl (fun K hK => ?_) AllReady.nil
        refine step_app hk11 (by rfl) _ _ 43 (by rfl) i0 _ 24 Try.underlying43 hi0 hz0 hz1 hz2 rfl (by omega) (by rfl) ⟨wz1.heap.size, 0, none⟩ 1 1 [.int .i64 ra, .int .i64 rb, .int .i64 rm] (by rfl) rfl (hk11.new _ _ rfl).2.2.1 (by simp [Value.oneCell']) (by simp only [maxLen]; omega) (by omega) ?_
        intro va12 wz12 hk12 hn12
        change K (Act.put _ (some 14) va12) wz12
        refine hK _ _ ?_
        try simp only [Act.put, List.setIfInBounds_toArray, List.set_cons_zero, List.set_cons_succ]
        clear hK K
        refine take_op (i := 6) (d := 8) (v := va12) rfl rfl (by kernel_rfl) (by kernel_rfl) (by kernel_rfl) hQ (Or.inl ⟨by rfl, fun _ => by first | rfl | (go_simp; done) | (go_simp; rfl)⟩) ?_
        simp only [Act.put, List.setIfInBounds_toArray, List.set_cons_zero, List.set_cons_succ]
        refine wpAny_done (by kernel_rfl) (hN _ _ ?_) _
        have HF := Lib.hid (Hrow.out _ _ hk12.own)
        have HB := Lib.hid (HB0.out.trans (Below.mono hk12.bel (by omega)))
        obtain ⟨adv, capv, rfl, hcv⟩ := HF.out.full Hpos.out
        clear Hnews HL
        cases hz : validR n xs with
        | false =>
          have Hz := Lib.hid hz
          have HOK := Lib.hid (show addROk n l ⟨ra, rb, rm⟩ = false by unfold addROk; rw [Hxs.out]; exact hz)
          clear hz
          go_wp2_with fail
          refine (specValid_big n _ xs _ (HF.out.in_ hcv) (by rw [Hlen.out]; omega)).mono ?_; rintro e w5 ⟨rfl, hb5⟩
          have HB5 := Lib.hid (HB.out.trans (hb5.mono HB.out.size))
          clear hb5
          rw [Hz.out]
          go_wp2
          go_ret2
          have e1 : addR n l ⟨ra, rb, rm⟩ = [] := if_neg (by rw [HOK.out]; simp)
          rw [e1, HOK.out]
          exact RzRow.no HB5.out.size HB5.out
        | true =>
          have Hz := Lib.hid hz
          have HOK := Lib.hid (show addROk n l ⟨ra, rb, rm⟩ = true by unfold addROk; rw [Hxs.out]; exact hz)
          clear hz
          go_wp2_with fail
          refine (specValid_big n _ xs _ (HF.out.in_ hcv) (by rw [Hlen.out]; omega)).mono ?_; rintro e w5 ⟨rfl, hb5⟩
          have HB5 := Lib.hid (HB.out.trans (hb5.mono HB.out.size))
          have HF5 := Lib.hid (HF.out.below hb5)
          clear hb5
          rw [Hz.out]
          go_wp2
          go_ret2
          have e1 : addR n l ⟨ra, rb, rm⟩ = xs := by unfold addR; rw [if_pos HOK.out]; exact Hxs.out
          rw [e1, HOK.out]
          exact ⟨adv, capv, rfl, hcv, HF5.out.mono (by omega), HB5.out⟩
  · have hl13 := HL.out _ HK0.out.bel
    obtain ⟨k0_13, k1_13, k2_13⟩ := hl13
    go_simp
    refine hK _ _ ?_
    try simp only [Act.put, List.setIfInBounds_toArray, List.set_cons_zero, List.set_cons_succ]
    clear hK K k0_13 k1_13 k2_13
    refine wpAny_ready (rs := [0, 4]) (by kernel_rfl) (by simp) ?_
    refine AllReady.cons rfl (fun K hK => ?_) (AllReady.cons rfl (fun K hK => ?_) AllReady.nil)
    · go_simp
      refine hK _ _ ?_
      try simp only [Act.put, List.setIfInBounds_toArray, List.set_cons_zero, List.set_cons_succ]
      have hk14 := Mk.zero HK0.out
      generalize World.alloc w0 (.cells #[] 50) = wz14 at *
      clear hK K
      refine wpAny_ready (rs := [2, 4]) (by kernel_rfl) (by simp) ?_
      refine AllReady.cons rfl (fun K hK => ?_) (AllReady.cons rfl (fun K hK => ?_) AllReady.nil)
      · refine step_app hk14 (by rfl) _ _ 43 (by rfl) i0 _ 24 Try.underlying43 hi0 hz0 hz1 hz2 rfl (by omega) (by rfl) ad l.length cap (encRz l) (by rfl) (encRz_len _) (Hnews.out _ hk14.bel) (encRz_one _) (by simp only [maxLen]; omega) (by omega) ?_
        intro va15 wz15 hk15 hn15
        change K (Act.put _ (some 11) va15) wz15
        refine hK _ _ ?_
        try simp only [Act.put, List.setIfInBounds_toArray, List.set_cons_zero, List.set_cons_succ]
        clear hK K
        refine wpAny_ready (rs := [4]) (by kernel_rfl) (by simp) ?_
        refine AllReady.cons rfl (fun K hK => ?_) AllReady.nil
        go_simp
        refine hK _ _ ?_
        try simp only [Act.put, List.setIfInBounds_toArray, List.set_cons_zero, List.set_cons_succ]
        have hk16 := Mk.one hk15 #[.int .i64 ra, .int .i64 rb, .int .i64 rm] 50
        generalize World.alloc wz15 (.cells #[.int .i64 ra, .int .i64 rb, .int .i64 rm] 50) = wz16 at *
        clear hK K
        refine wpAny_ready (rs := [5]) (by kernel_rfl) (by simp) ?_
        refine AllReady.cons rfl (fun K hK => ?_) AllReady.nil
        refine step_app hk16 (by rfl) _ _ 43 (by rfl) i0 _ 24 Try.underlying43 hi0 hz0 hz1 hz2 rfl (by omega) (by rfl) ⟨wz15.heap.size, 0, none⟩ 1 1 [.int .i64 ra, .int .i64 rb, .int .i64 rm] (by rfl) rfl (hk16.new _ _ rfl).2.2.1 (by simp [Value.oneCell']) (by simp only [maxLen]; omega) (by omega) ?_
        intro va17 wz17 hk17 hn17
        change K (Act.put _ (some 14) va17) wz17
        refine hK _ _ ?_
        try simp only [Act.put, List.setIfInBounds_toArray, List.set_cons_zero, List.set_cons_succ]
        clear hK K
        refine take_op (i := 6) (d := 8) (v := va17) rfl rfl (by kernel_rfl) (by kernel_rfl) (by kernel_rfl) hQ (Or.inl ⟨by rfl, fun _ => by first | rfl | (go_simp; done) | (go_simp; rfl)⟩) ?_
        simp only [Act.put, List.setIfInBounds_toArray, List.set_cons_zero, List.set_cons_succ]
        refine wpAny_done (by kernel_rfl) (hN _ _ ?_) _
        have HF := Lib.hid (Hrow.out _ _ hk17.own)
        have HB := Lib.hid (HB0.out.trans (Below.mono hk17.bel (by omega)))
        obtain ⟨adv, capv, rfl, hcv⟩ := HF.out.full Hpos.out
        clear Hnews HL
        cases hz : validR n xs with
        | false =>
          have Hz := Lib.hid hz
          have HOK := Lib.hid (show addROk n l ⟨ra, rb, rm⟩ = false by unfold addROk; rw [Hxs.out]; exact hz)
          clear hz
          go_wp2_with fail
          refine (specValid_big n _ xs _ (HF.out.in_ hcv) (by rw [Hlen.out]; omega)).mono ?_; rintro e w5 ⟨rfl, hb5⟩
          have HB5 := Lib.hid (HB.out.trans (hb5.mono HB.out.size))
          clear hb5
          rw [Hz.out]
          go_wp2
          go_ret2
          have e1 : addR n l ⟨ra, rb, rm⟩ = [] := if_neg (by rw [HOK.out]; simp)
          rw [e1, HOK.out]
          exact RzRow.no HB5.out.size HB5.out
        | true =>
          have Hz := Lib.hid hz
          have HOK := Lib.hid (show addROk n l ⟨ra, rb, rm⟩ = true by unfold addROk; rw [Hxs.out]; exact hz)
          clear hz
          go_wp2_with fail
          refine (specValid_big n _ xs _ (HF.out.in_ hcv) (by rw [Hlen.out]; omega)).mono ?_; rintro e w5 ⟨rfl, hb5⟩
          have HB5 := Lib.hid (HB.out.trans (hb5.mono HB.out.size))
          have HF5 := Lib.hid (HF.out.below hb5)
          clear hb5
          rw [Hz.out]
          go_wp2
          go_ret2
          have e1 : addR n l ⟨ra, rb, rm⟩ = xs := by unfold addR; rw [if_pos HOK.out]; exact Hxs.out
          rw [e1, HOK.out]
          exact ⟨adv, capv, rfl, hcv, HF5.out.mono (by omega), HB5.out⟩
      · go_simp
        refine hK _ _ ?_
        try simp only [Act.put, List.setIfInBounds_toArray, List.set_cons_zero, List.set_cons_succ]
        have hk18 := Mk.one hk14 #[.int .i64 ra, .int .i64 rb, .int .i64 rm] 50
        generalize World.alloc wz14 (.cells #[.int .i64 ra, .int .i64 rb, .int .i64 rm] 50) = wz18 at *
        clear hK K
        refine wpAny_ready (rs := [2]) (by kernel_rfl) (by simp) ?_
        refine AllReady.cons rfl (fun K hK => ?_) AllReady.nil
        refine step_app hk18 (by rfl) _ _ 43 (by rfl) i0 _ 24 Try.underlying43 hi0 hz0 hz1 hz2 rfl (by omega) (by rfl) ad l.length cap (encRz l) (by rfl) (encRz_len _) (Hnews.out _ hk18.bel) (encRz_one _) (by simp only [maxLen]; omega) (by omega) ?_
        intro va19 wz19 hk19 hn19
        change K (Act.put _ (some 11) va19) wz19
        refine hK _ _ ?_
        try simp only [Act.put, List.setIfInBounds_toArray, List.set_cons_zero, List.set_cons_succ]
        clear hK K
        refine wpAny_ready (rs := [5]) (by kernel_rfl) (by simp) ?_
        refine AllReady.cons rfl (fun K hK => ?_) AllReady.nil
        refine step_app hk19 (by rfl) _ _ 43 (by rfl) i0 _ 24 Try.underlying43 hi0 hz0 hz1 hz2 rfl (by omega) (by rfl) ⟨wz14.heap.size, 0, none⟩ 1 1 [.int .i64 ra, .int .i64 rb, .int .i64 rm] (by rfl) rfl (hk19.new _ _ rfl).2.2.1 (by simp [Value.oneCell']) (by simp only [maxLen]; omega) (by omega) ?_
        intro va20 wz20 hk20 hn20
        change K (Act.put _ (some 14) va20) wz20
        refine hK _ _ ?_
        try simp only [Act.put, List.setIfInBounds_toArray, List.set_cons_zero, List.set_cons_succ]
        clear hK K
        refine take_op (i := 6) (d := 8) (v := va20) rfl rfl (by kernel_rfl) (by kernel_rfl) (by kernel_rfl) hQ (Or.inl ⟨by rfl, fun _ => by first | rfl | (go_simp; done) | (go_simp; rfl)⟩) ?_
        simp only [Act.put, List.setIfInBounds_toArray, List.set_cons_zero, List.set_cons_succ]
        refine wpAny_done (by kernel_rfl) (hN _ _ ?_) _
        have HF := Lib.hid (Hrow.out _ _ hk20.own)
        have HB := Lib.hid (HB0.out.trans (Below.mono hk20.bel (by omega)))
        obtain ⟨adv, capv, rfl, hcv⟩ := HF.out.full Hpos.out
        clear Hnews HL
        cases hz : validR n xs with
        | false =>
          have Hz := Lib.hid hz
          have HOK := Lib.hid (show addROk n l ⟨ra, rb, rm⟩ = false by unfold addROk; rw [Hxs.out]; exact hz)
          clear hz
          go_wp2_with fail
          refine (specValid_big n _ xs _ (HF.out.in_ hcv) (by rw [Hlen.out]; omega)).mono ?_; rintro e w5 ⟨rfl, hb5⟩
          have HB5 := Lib.hid (HB.out.trans (hb5.mono HB.out.size))
          clear hb5
          rw [Hz.out]
          go_wp2
          go_ret2
          have e1 : addR n l ⟨ra, rb, rm⟩ = [] := if_neg (by rw [HOK.out]; simp)
          rw [e1, HOK.out]
          exact RzRow.no HB5.out.size HB5.out
        | true =>
          have Hz := Lib.hid hz
          have HOK := Lib.hid (show addROk n l ⟨ra, rb, rm⟩ = true by unfold addROk; rw [Hxs.out]; exact hz)
          clear hz
          go_wp2_with fail
          refine (specValid_big n _ xs _ (HF.out.in_ hcv) (by rw [Hlen.out]; omega)).mono ?_; rintro e w5 ⟨rfl, hb5⟩
          have HB5 := Lib.hid (HB.out.trans (hb5.mono HB.out.size))
          have HF5 := Lib.hid (HF.out.below hb5)
          clear hb5
          rw [Hz.out]
          go_wp2
          go_ret2
          have e1 : addR n l ⟨ra, rb, rm⟩ = xs := by unfold addR; rw [if_pos HOK.out]; exact Hxs.out
          rw [e1, HOK.out]
          exact ⟨adv, capv, rfl, hcv, HF5.out.mono (by omega), HB5.out⟩
    · go_simp
      refine hK _ _ ?_
      try simp only [Act.put, List.setIfInBounds_toArray, List.set_cons_zero, List.set_cons_succ]
      have hk21 := Mk.one HK0.out #[.int .i64 ra, .int .i64 rb, .int .i64 rm] 50
      generalize World.alloc w0 (.cells #[.int .i64 ra, .int .i64 rb, .int .i64 rm] 50) = wz21 at *
      clear hK K
      refine wpAny_ready (rs := [0]) (by kernel_rfl) (by simp) ?_
      refine AllReady.cons rfl (fun K hK => ?_) AllReady.nil
      go_simp
      refine hK _ _ ?_
      try simp only [Act.put, List.setIfInBounds_toArray, List.set_cons_zero, List.set_cons_succ]
      have hk22 := Mk.zero hk21
      generalize World.alloc wz21 (.cells #[] 50) = wz22 at *
      clear hK K
      refine wpAny_ready (rs := [2]) (by kernel_rfl) (by simp) ?_
      refine AllReady.cons rfl (fun K hK => ?_) AllReady.nil
      refine step_app hk22 (by rfl) _ _ 43 (by rfl) i0 _ 24 Try.underlying43 hi0 hz0 hz1 hz2 rfl (by omega) (by rfl) ad l.length cap (encRz l) (by rfl) (encRz_len _) (Hnews.out _ hk22.bel) (encRz_one _) (by simp only [maxLen]; omega) (by omega) ?_
      intro va23 wz23 hk23 hn23
      change K (Act.put _ (some 11) va23) wz23
      refine hK _ _ ?_
      try simp only [Act.put, List.setIfInBounds_toArray, List.set_cons_zero, List.set_cons_succ]
      clear hK K
      refine wpAny_ready (rs := [5]) (by kernel_rfl) (by simp) ?_
      refine AllReady.cons rfl (fun K hK => ?_) AllReady.nil
      refine step_app hk23 (by rfl) _ _ 43 (by rfl) i0 _ 24 Try.underlying43 hi0 hz0 hz1 hz2 rfl (by omega) (by rfl) ⟨w0.heap.size, 0, none⟩ 1 1 [.int .i64 ra, .int .i64 rb, .int .i64 rm] (by rfl) rfl (hk23.new _ _ rfl).2.2.1 (by simp [Value.oneCell']) (by simp only [maxLen]; omega) (by omega) ?_
      intro va24 wz24 hk24 hn24
      change K (Act.put _ (some 14) va24) wz24
      refine hK _ _ ?_
      try simp only [Act.put, List.setIfInBounds_toArray, List.set_cons_zero, List.set_cons_succ]
      clear hK K
      refine take_op (i := 6) (d := 8) (v := va24) rfl rfl (by kernel_rfl) (by kernel_rfl) (by kernel_rfl) hQ (Or.inl ⟨by rfl, fun _ => by first | rfl | (go_simp; done) | (go_simp; rfl)⟩) ?_
      simp only [Act.put, List.setIfInBounds_toArray, List.set_cons_zero, List.set_cons_succ]
      refine wpAny_done (by kernel_rfl) (hN _ _ ?_) _
      have HF := Lib.hid (Hrow.out _ _ hk24.own)
      have HB := Lib.hid (HB0.out.trans (Below.mono hk24.bel (by omega)))
      obtain ⟨adv, capv, rfl, hcv⟩ := HF.out.full Hpos.out
      clear Hnews HL
      cases hz : validR n xs with
      | false =>
        have Hz := Lib.hid hz
        have HOK := Lib.hid (show addROk n l ⟨ra, rb, rm⟩ = false by unfold addROk; rw [Hxs.out]; exact hz)
        clear hz
        go_wp2_with fail
        refine (specValid_big n _ xs _ (HF.out.in_ hcv) (by rw [Hlen.out]; omega)).mono ?_; rintro e w5 ⟨rfl, hb5⟩
        have HB5 := Lib.hid (HB.out.trans (hb5.mono HB.out.size))
        clear hb5
        rw [Hz.out]
        go_wp2
        go_ret2
        have e1 : addR n l ⟨ra, rb, rm⟩ = [] := if_neg (by rw [HOK.out]; simp)
        rw [e1, HOK.out]
        exact RzRow.no HB5.out.size HB5.out
      | true =>
        have Hz := Lib.hid hz
        have HOK := Lib.hid (show addROk n l ⟨ra, rb, rm⟩ = true by unfold addROk; rw [Hxs.out]; exact hz)
        clear hz
        go_wp2_with fail
        refine (specValid_big n _ xs _ (HF.out.in_ hcv) (by rw [Hlen.out]; omega)).mono ?_; rintro e w5 ⟨rfl, hb5⟩
        have HB5 := Lib.hid (HB.out.trans (hb5.mono HB.out.size))
        have HF5 := Lib.hid (HF.out.below hb5)
        clear hb5
        rw [Hz.out]
        go_wp2
        go_ret2
        have e1 : addR n l ⟨ra, rb, rm⟩ = xs := by unfold addR; rw [if_pos HOK.out]; exact Hxs.out
        rw [e1, HOK.out]
        exact ⟨adv, capv, rfl, hcv, HF5.out.mono (by omega), HB5.out⟩
end Go.Proofs.Ytfdaaeapfeajjaa
