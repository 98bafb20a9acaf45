/- Draws: a number, a timetable and minutes (DrawStopsLater). -/
import Derived.Test.YtfdaaeapfeajjaaDC
import Derived.Test.YtfdaaeapfeajjaaHD
import Derived.Test.YtfdaaeapfeajjaaDSS
namespace Go.Proofs.Ytfdaaeapfeajjaa
open Go.RowKit

theorem touchL {g : Nat} {a b : World} (ht : Touch (fun j => j = g) a b) (h : g ≤ a.heap.size) : Below g a b := ht.below (B := g) (fun j hj => by rw [hj]; exact Nat.le_refl _) h
theorem lit_afterL {w w' : World} {g b : Nat} {k : Nat} {v : Value} (hg : w.grownBy w' (some g)) (hn : b ≠ g) (hc : w.cell? ⟨b, k, none⟩ = some v) (hb : b < w.heap.size) : w'.cell? ⟨b, k, none⟩ = some v := by
  rw [World.cell?_of_block (a := ⟨b, k, none⟩) (hg.block b hb (fun e => hn (by injection e)))]; exact hc
def litU : Nat → Int
  | 0 => 9223372036854775807
  | 1 => -9223372036854775808
  | _ => 9500
theorem litU_at (w : World) (k : Nat) (h : (k : Int) < 3) : (w.alloc (.cells #[.int .i64 9223372036854775807, .int .i64 (-9223372036854775808), .int .i64 9500] 3)).cell? ⟨w.heap.size, k, none⟩ = some (.int .i64 (litU k)) := by
  rcases (show k = 0 ∨ k = 1 ∨ k = 2 by omega) with rfl | rfl | rfl <;> simp [litU]
theorem litU_wf (k : Nat) : W64 (litU k) := by
  unfold litU W64; split <;> omega

def DrawnSL (w : World) (e : Ending) (w' : World) : Prop :=
  ∃ (n : Int) (ad : Option Addr) (cap : Nat) (xs : List Rd) (t : Int), e = .returned (.tuple #[.int .i64 n, .slice ad xs.length cap, .int .i64 t]) ∧ 2 ≤ n ∧ n ≤ 6 ∧ xs.length ≤ cap ∧ xs.length ≤ 8 ∧ OwnRd w' ad xs ∧ W64 t ∧ Below w.heap.size w w'

set_option maxRecDepth 100000 in
set_option maxHeartbeats 2000000 in
theorem drawLater_any (v : Value) (l : List Int) (w : World) (hv : BytesIn w v l) (hm : l.length ≤ 1048576) :
    Calls Try.prog 9 #[v] w (DrawnSL w) := by
  have Hv := Lib.hid hv; clear hv
  go_enter Try.func9, Try.ntmps9
  go_wp2_with fail
  refine (l6Open_any _ l _ Hv.out hm).mono ?_; rintro e w1 ⟨rfl, ⟨l', hr⟩, hb, hs⟩
  have HB1 := Lib.hid hb; have HR1 := Lib.hid hr
  clear hb hr
  go_wp2_with fail
  refine (one91_any w.heap.size l' 0 _ HR1.out (by omega)).mono ?_; rintro e w2 ⟨n, ad, cap, xs, p, rfl, hn2, hn6, hcap, h8, hown, hblk, hr2, hp, ht2⟩
  have hng : ∀ j, inBlk ad j → ¬ j = w.heap.size := fun j hj e => by have := (hblk j hj).1; have := HR1.out.lt; omega
  have Hng := Lib.hid hng
  have HB2 := Lib.hid (HB1.out.trans (touchL ht2 HB1.out.size))
  have HR2 := Lib.hid hr2
  have HO2 := Lib.hid hown
  clear hr2 ht2 hown hblk hng
  go_wp2_with fail
  refine (pick_any w.heap.size l' p 16 _ HR2.out (by omega) (by omega)).mono ?_; rintro e w3 ⟨⟨z, rfl, hz0, hz1⟩, hr3, hg3⟩
  have HB3 := Lib.hid (HB2.out.trans (touchL (Touch.grown (S := fun j => j = w.heap.size) hg3 rfl) HB2.out.size))
  have HO3 := Lib.hid (HO2.out.touch (Touch.grown (S := fun j => j = w.heap.size) hg3 rfl) Hng.out)
  have HR3 := Lib.hid hr3
  clear hr3 hg3 hz1
  have hgl := HR3.out.lt
  have Hcap := Lib.hid hcap
  clear hcap
  by_cases q : z = 0
  · subst q
    go_wp2
    refine wp_region_any (by kernel_rfl) ?_
    change wpAny _ _ _ _ 10 #[false, false, false, false, false, false, false, false, false, false] _ (World.drew _)
    refine with_Q (fun _ _ _ _ _ h => h) (fun Q hQ hN => ?_)
    refine take_op (i := 0) (d := 18) (v := .int .i64 n) rfl rfl (by kernel_rfl) (by kernel_rfl) (by kernel_rfl) hQ (Or.inl ⟨by rfl, fun _ => by first | rfl | (go_simp; done) | (go_simp; rfl)⟩) ?_
    simp only [Act.put, List.setIfInBounds_toArray, List.set_cons_zero, List.set_cons_succ]
    refine take_op (i := 1) (d := 19) (v := .slice ad xs.length cap) rfl rfl (by kernel_rfl) (by kernel_rfl) (by kernel_rfl) hQ (Or.inl ⟨by rfl, fun _ => by first | rfl | (go_simp; done) | (go_simp; rfl)⟩) ?_
    simp only [Act.put, List.setIfInBounds_toArray, List.set_cons_zero, List.set_cons_succ]
    refine take_op (i := 3) (d := 21) (v := .pointer (some ⟨w.heap.size, 0, none⟩)) rfl rfl (by kernel_rfl) (by kernel_rfl) (by kernel_rfl) hQ (Or.inl ⟨by rfl, fun _ => by first | rfl | (go_simp; done) | (go_simp; rfl)⟩) ?_
    simp only [Act.put, List.setIfInBounds_toArray, List.set_cons_zero, List.set_cons_succ]
    refine wpAny_ready (rs := [2, 4]) (by kernel_rfl) (by simp) ?_
    refine AllReady.cons rfl (fun K hK => ?_) (AllReady.cons rfl (fun K hK => ?_) AllReady.nil)
    · go_simp
      refine hK _ _ ?_
      try simp only [Act.put, List.setIfInBounds_toArray, List.set_cons_zero, List.set_cons_succ]
      clear hK K
      have HA := Lib.hid (show Below w3.heap.size w3 ((w3.drew).alloc (.cells #[.int .i64 9223372036854775807, .int .i64 (-9223372036854775808), .int .i64 9500] 3)) from ((Below.refl _ _).drew).alloc (Nat.le_refl _) _)
      refine wpAny_ready (rs := [4]) (by kernel_rfl) (by simp) ?_
      refine AllReady.cons rfl (fun K hK => ?_) AllReady.nil
      go_simp
      go_at_call 41
      refine (pick_any w.heap.size l' (p + 1) 3 _ (HR3.out.belowB HA.out hgl) (by omega) (by omega)).mono ?_; rintro e w4 ⟨⟨k, rfl, hk0, hk1⟩, hr4, hg4⟩; obtain ⟨k, rfl⟩ : ∃ j : Nat, k = (j : Int) := ⟨k.toNat, by omega⟩; have hk4 : (k : Int) < 3 := by omega
      refine hK _ _ ?_
      try simp only [Act.put, List.setIfInBounds_toArray, List.set_cons_zero, List.set_cons_succ]
      clear hK K
      refine take_op (i := 7) (d := 2) (v := .int .i64 n) rfl rfl (by kernel_rfl) (by kernel_rfl) (by kernel_rfl) hQ (Or.inl ⟨by rfl, fun _ => by first | rfl | (go_simp; done) | (go_simp; rfl)⟩) ?_
      simp only [Act.put, List.setIfInBounds_toArray, List.set_cons_zero, List.set_cons_succ]
      refine take_op (i := 8) (d := 3) (v := .slice ad xs.length cap) rfl rfl (by kernel_rfl) (by kernel_rfl) (by kernel_rfl) hQ (Or.inl ⟨by rfl, fun _ => by first | rfl | (go_simp; done) | (go_simp; rfl)⟩) ?_
      simp only [Act.put, List.setIfInBounds_toArray, List.set_cons_zero, List.set_cons_succ]
      have d := lit_afterL (b := w3.heap.size) (k := k) hg4 (Nat.ne_of_gt hgl) (litU_at w3.drew k hk4) (by simp)
      have HB9 := Lib.hid ((HB3.out.trans (HA.out.mono HB3.out.size)).trans (touchL (Touch.grown (S := fun j => j = w.heap.size) hg4 rfl) (Nat.le_trans HB3.out.size HA.out.size)))
      have HO9 := Lib.hid ((HO3.out.below HA.out).touch (Touch.grown (S := fun j => j = w.heap.size) hg4 rfl) Hng.out)
      have Hy := Lib.hid (litU_wf k)
      generalize litU k = y at *
      clear hr4 hg4 hk1
      refine take_op (i := 5) (d := 23) (v := .pointer (some ⟨w3.heap.size, k, none⟩)) rfl rfl (by kernel_rfl) (by kernel_rfl) (by kernel_rfl) hQ (Or.inl ⟨by rfl, fun _ => by first | rfl | (go_simp; done) | (go_simp; rfl)⟩) ?_
      simp only [Act.put, List.setIfInBounds_toArray, List.set_cons_zero, List.set_cons_succ]
      refine wpAny_ready (rs := [6]) (by kernel_rfl) (by simp) ?_
      refine AllReady.cons rfl (fun K hK => ?_) AllReady.nil
      go_simp
      refine hK _ _ ?_
      try simp only [Act.put, List.setIfInBounds_toArray, List.set_cons_zero, List.set_cons_succ]
      clear hK K
      refine take_op (i := 9) (d := 4) (v := .int .i64 y) rfl rfl (by kernel_rfl) (by kernel_rfl) (by kernel_rfl) hQ (Or.inl ⟨by rfl, fun _ => by first | rfl | (go_simp; done) | (go_simp; rfl)⟩) ?_
      simp only [Act.put, List.setIfInBounds_toArray, List.set_cons_zero, List.set_cons_succ]
      refine wpAny_done (by kernel_rfl) (hN _ _ ?_) _
      go_wp2
      refine bodyPost_ret (v := .tuple #[.int .i64 n, .slice ad xs.length cap, .int .i64 (y)]) (by simp [results, Try.results9, go_sem]) rfl ?_
      exact ⟨n, ad, cap, xs, y, rfl, hn2, hn6, Hcap.out, h8, HO9.out, Hy.out, HB9.out⟩
    · go_simp
      go_at_call 41
      refine (pick_any w.heap.size l' (p + 1) 3 _ (show Reader w3.drew _ _ _ from HR3.out) (by omega) (by omega)).mono ?_; rintro e w4 ⟨⟨k, rfl, hk0, hk1⟩, hr4, hg4⟩; obtain ⟨k, rfl⟩ : ∃ j : Nat, k = (j : Int) := ⟨k.toNat, by omega⟩; have hk4 : (k : Int) < 3 := by omega
      refine hK _ _ ?_
      try simp only [Act.put, List.setIfInBounds_toArray, List.set_cons_zero, List.set_cons_succ]
      clear hK K
      refine take_op (i := 7) (d := 2) (v := .int .i64 n) rfl rfl (by kernel_rfl) (by kernel_rfl) (by kernel_rfl) hQ (Or.inl ⟨by rfl, fun _ => by first | rfl | (go_simp; done) | (go_simp; rfl)⟩) ?_
      simp only [Act.put, List.setIfInBounds_toArray, List.set_cons_zero, List.set_cons_succ]
      refine take_op (i := 8) (d := 3) (v := .slice ad xs.length cap) rfl rfl (by kernel_rfl) (by kernel_rfl) (by kernel_rfl) hQ (Or.inl ⟨by rfl, fun _ => by first | rfl | (go_simp; done) | (go_simp; rfl)⟩) ?_
      simp only [Act.put, List.setIfInBounds_toArray, List.set_cons_zero, List.set_cons_succ]
      refine wpAny_ready (rs := [2]) (by kernel_rfl) (by simp) ?_
      refine AllReady.cons rfl (fun K hK => ?_) AllReady.nil
      go_simp
      refine hK _ _ ?_
      try simp only [Act.put, List.setIfInBounds_toArray, List.set_cons_zero, List.set_cons_succ]
      clear hK K
      have d := litU_at w4 k hk4
      have HB4 := Lib.hid (HB3.out.trans (((Below.refl w.heap.size w3).drew).trans (touchL (Touch.grown (S := fun j => j = w.heap.size) hg4 rfl) HB3.out.size)))
      have HB9 := Lib.hid (HB4.out.alloc (HB4.out.size) (.cells #[.int .i64 9223372036854775807, .int .i64 (-9223372036854775808), .int .i64 9500] 3))
      have HO9 := Lib.hid (((show OwnRd w3.drew ad xs from HO3.out).touch (Touch.grown (S := fun j => j = w.heap.size) hg4 rfl) Hng.out).below ((Below.refl _ w4).alloc (Nat.le_refl _) (.cells #[.int .i64 9223372036854775807, .int .i64 (-9223372036854775808), .int .i64 9500] 3)))
      have Hy := Lib.hid (litU_wf k)
      generalize litU k = y at *
      clear hr4 hg4 hk1
      refine take_op (i := 5) (d := 23) (v := .pointer (some ⟨w4.heap.size, k, none⟩)) rfl rfl (by kernel_rfl) (by kernel_rfl) (by kernel_rfl) hQ (Or.inl ⟨by rfl, fun _ => by first | rfl | (go_simp; done) | (go_simp; rfl)⟩) ?_
      simp only [Act.put, List.setIfInBounds_toArray, List.set_cons_zero, List.set_cons_succ]
      refine wpAny_ready (rs := [6]) (by kernel_rfl) (by simp) ?_
      refine AllReady.cons rfl (fun K hK => ?_) AllReady.nil
      go_simp
      refine hK _ _ ?_
      try simp only [Act.put, List.setIfInBounds_toArray, List.set_cons_zero, List.set_cons_succ]
      clear hK K
      refine take_op (i := 9) (d := 4) (v := .int .i64 y) rfl rfl (by kernel_rfl) (by kernel_rfl) (by kernel_rfl) hQ (Or.inl ⟨by rfl, fun _ => by first | rfl | (go_simp; done) | (go_simp; rfl)⟩) ?_
      simp only [Act.put, List.setIfInBounds_toArray, List.set_cons_zero, List.set_cons_succ]
      refine wpAny_done (by kernel_rfl) (hN _ _ ?_) _
      go_wp2
      refine bodyPost_ret (v := .tuple #[.int .i64 n, .slice ad xs.length cap, .int .i64 (y)]) (by simp [results, Try.results9, go_sem]) rfl ?_
      exact ⟨n, ad, cap, xs, y, rfl, hn2, hn6, Hcap.out, h8, HO9.out, Hy.out, HB9.out⟩
  · have q' : (z == 0) = false := by simpa using q
    go_wp2_with fail
    refine (pick_any w.heap.size l' (p + 1) 201 _ HR3.out (by omega) (by omega)).mono ?_; rintro e w4 ⟨⟨k, rfl, hk0, hk1⟩, hr4, hg4⟩
    have HB4 := Lib.hid (HB3.out.trans (touchL (Touch.grown (S := fun j => j = w.heap.size) hg4 rfl) HB3.out.size))
    have HO4 := Lib.hid (HO3.out.touch (Touch.grown (S := fun j => j = w.heap.size) hg4 rfl) Hng.out)
    have hk2 : k < 201 := by omega
    clear hr4 hg4 hk1
    go_wp2
    refine bodyPost_ret (v := .tuple #[.int .i64 n, .slice ad xs.length cap, .int .i64 (k - 100)]) (by simp [results, Try.results9, go_sem]) rfl ?_
    exact ⟨n, ad, cap, xs, k - 100, rfl, hn2, hn6, Hcap.out, h8, HO4.out, by unfold W64; omega, HB4.out⟩

end Go.Proofs.Ytfdaaeapfeajjaa
