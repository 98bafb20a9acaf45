/- Draws: a time and minutes (DrawClockLocal). -/
import Derived.Test.YtnlhnibhgpelfabDoorDTM
namespace Go.Proofs.YtnlhnibhgpelfabDoor
open Go.RowKit

theorem touchB' {g : Nat} {a b : World} (ht : Touch (fun j => j = g) a b) (h : g ≤ a.heap.size) : Below g a b := ht.below (B := g) (fun j hj => by rw [hj]; exact Nat.le_refl _) h
def litL : Nat → Int
  | 0 => -720
  | 1 => 720
  | 2 => 721
  | _ => -721
theorem litL_at (w : World) (k : Nat) (h : (k : Int) < 4) : (w.alloc (.cells #[.int .i64 (-720), .int .i64 720, .int .i64 721, .int .i64 (-721)] 3)).cell? ⟨w.heap.size, k, none⟩ = some (.int .i64 (litL k)) := by
  rcases (show k = 0 ∨ k = 1 ∨ k = 2 ∨ k = 3 by omega) with rfl | rfl | rfl | rfl <;> simp [litL]
theorem litL_bd (k : Nat) : (-721 : Int) ≤ litL k ∧ litL k ≤ 721 := by
  unfold litL; split <;> omega

def DrawnTM (w : World) (e : Ending) (w' : World) : Prop := ∃ t a : Int, e = .returned (.tuple #[.int .i64 t, .int .i64 a]) ∧ -1 ≤ t ∧ t ≤ 10001 ∧ -721 ≤ a ∧ a ≤ 721 ∧ Below w.heap.size w w'

set_option maxRecDepth 100000 in
set_option maxHeartbeats 2000000 in
theorem drawClockLocal_any (v : Value) (l : List Int) (w : World) (hv : BytesIn w v l) (hm : l.length ≤ 1048576) :
    Calls Tryd.prog 12 #[v] w (DrawnTM w) := by
  have Hv := Lib.hid hv; clear hv
  go_enter Tryd.func12, Tryd.ntmps12
  go_wp2_with fail
  refine (l6Open_any _ l _ Hv.out hm).mono ?_; rintro e w1 ⟨rfl, ⟨l', hr⟩, hb, hs⟩
  have HB1 := Lib.hid hb; have HR1 := Lib.hid hr
  clear hb hr
  go_wp2_with fail
  refine (time91_any w.heap.size l' 0 _ HR1.out (by omega)).mono ?_; rintro e w2 ⟨t, p, rfl, ht0, ht1, hr2, hp, htt⟩
  have HB2 := Lib.hid (HB1.out.trans (touchB' htt HB1.out.size))
  have HR2 := Lib.hid hr2
  clear hr2 htt
  go_wp2_with fail
  refine (pick_any w.heap.size l' p 12 _ HR2.out (by omega) (by omega)).mono ?_; rintro e w3 ⟨⟨z, rfl, hz0, hz1⟩, hr3, hg3⟩
  have HB3 := Lib.hid (HB2.out.trans (touchB' (Touch.grown (S := fun j => j = w.heap.size) hg3 rfl) HB2.out.size))
  have HR3 := Lib.hid hr3
  clear hr3 hg3 hz1
  have hgl := HR3.out.lt
  by_cases q : z = 0
  · subst q
    go_wp2
    refine wp_region_any (by kernel_rfl) ?_
    change wpAny _ _ _ _ 8 #[false, false, false, false, false, false, false, false] _ (World.drew _)
    refine with_Q (fun _ _ _ _ _ h => h) (fun Q hQ hN => ?_)
    refine take_op (i := 0) (d := 13) (v := .int .i64 t) rfl rfl (by kernel_rfl) (by kernel_rfl) (by kernel_rfl) hQ (Or.inl ⟨by rfl, fun _ => by first | rfl | (go_simp; done) | (go_simp; rfl)⟩) ?_
    simp only [Act.put, List.setIfInBounds_toArray, List.set_cons_zero, List.set_cons_succ]
    refine take_op (i := 2) (d := 15) (v := .pointer (some ⟨w.heap.size, 0, none⟩)) rfl rfl (by kernel_rfl) (by kernel_rfl) (by kernel_rfl) hQ (Or.inl ⟨by rfl, fun _ => by first | rfl | (go_simp; done) | (go_simp; rfl)⟩) ?_
    simp only [Act.put, List.setIfInBounds_toArray, List.set_cons_zero, List.set_cons_succ]
    refine wpAny_ready (rs := [1, 3]) (by kernel_rfl) (by simp) ?_
    refine AllReady.cons rfl (fun K hK => ?_) (AllReady.cons rfl (fun K hK => ?_) AllReady.nil)
    · go_simp
      refine hK _ _ ?_
      try simp only [Act.put, List.setIfInBounds_toArray, List.set_cons_zero, List.set_cons_succ]
      clear hK K
      have HA := Lib.hid (show Below w3.heap.size w3 ((w3.drew).alloc (.cells #[.int .i64 (-720), .int .i64 720, .int .i64 721, .int .i64 (-721)] 3)) from ((Below.refl _ _).drew).alloc (Nat.le_refl _) _)
      refine wpAny_ready (rs := [3]) (by kernel_rfl) (by simp) ?_
      refine AllReady.cons rfl (fun K hK => ?_) AllReady.nil
      go_simp
      go_at_call 24
      refine (pick_any w.heap.size l' (p + 1) 4 _ (HR3.out.belowB HA.out hgl) (by omega) (by omega)).mono ?_; rintro e w4 ⟨⟨k, rfl, hk0, hk1⟩, hr4, hg4⟩; obtain ⟨k, rfl⟩ : ∃ j : Nat, k = (j : Int) := ⟨k.toNat, by omega⟩; have hk4 : (k : Int) < 4 := by omega
      refine hK _ _ ?_
      try simp only [Act.put, List.setIfInBounds_toArray, List.set_cons_zero, List.set_cons_succ]
      clear hK K
      refine take_op (i := 6) (d := 2) (v := .int .i64 t) rfl rfl (by kernel_rfl) (by kernel_rfl) (by kernel_rfl) hQ (Or.inl ⟨by rfl, fun _ => by first | rfl | (go_simp; done) | (go_simp; rfl)⟩) ?_
      simp only [Act.put, List.setIfInBounds_toArray, List.set_cons_zero, List.set_cons_succ]
      have d := lit_after (b := w3.heap.size) (k := k) hg4 (Nat.ne_of_gt hgl) (litL_at w3.drew k hk4) (by simp)
      have HB9 := Lib.hid ((HB3.out.trans (HA.out.mono HB3.out.size)).trans (touchB' (Touch.grown (S := fun j => j = w.heap.size) hg4 rfl) (Nat.le_trans HB3.out.size HA.out.size)))
      have Hy := Lib.hid (litL_bd k)
      generalize litL k = y at *
      clear hr4 hg4 hk1
      refine take_op (i := 4) (d := 17) (v := .pointer (some ⟨w3.heap.size, k, none⟩)) rfl rfl (by kernel_rfl) (by kernel_rfl) (by kernel_rfl) hQ (Or.inl ⟨by rfl, fun _ => by first | rfl | (go_simp; done) | (go_simp; rfl)⟩) ?_
      simp only [Act.put, List.setIfInBounds_toArray, List.set_cons_zero, List.set_cons_succ]
      refine wpAny_ready (rs := [5]) (by kernel_rfl) (by simp) ?_
      refine AllReady.cons rfl (fun K hK => ?_) AllReady.nil
      go_simp
      refine hK _ _ ?_
      try simp only [Act.put, List.setIfInBounds_toArray, List.set_cons_zero, List.set_cons_succ]
      clear hK K
      refine take_op (i := 7) (d := 3) (v := .int .i64 y) rfl rfl (by kernel_rfl) (by kernel_rfl) (by kernel_rfl) hQ (Or.inl ⟨by rfl, fun _ => by first | rfl | (go_simp; done) | (go_simp; rfl)⟩) ?_
      simp only [Act.put, List.setIfInBounds_toArray, List.set_cons_zero, List.set_cons_succ]
      refine wpAny_done (by kernel_rfl) (hN _ _ ?_) _
      go_wp2
      go_ret2
      exact ⟨t, y, rfl, ht0, ht1, Hy.out.1, Hy.out.2, HB9.out⟩
    · go_simp
      go_at_call 24
      refine (pick_any w.heap.size l' (p + 1) 4 _ (Reader.drew1 HR3.out) (by omega) (by omega)).mono ?_; rintro e w4 ⟨⟨k, rfl, hk0, hk1⟩, hr4, hg4⟩; obtain ⟨k, rfl⟩ : ∃ j : Nat, k = (j : Int) := ⟨k.toNat, by omega⟩; have hk4 : (k : Int) < 4 := by omega
      refine hK _ _ ?_
      try simp only [Act.put, List.setIfInBounds_toArray, List.set_cons_zero, List.set_cons_succ]
      clear hK K
      refine take_op (i := 6) (d := 2) (v := .int .i64 t) rfl rfl (by kernel_rfl) (by kernel_rfl) (by kernel_rfl) hQ (Or.inl ⟨by rfl, fun _ => by first | rfl | (go_simp; done) | (go_simp; rfl)⟩) ?_
      simp only [Act.put, List.setIfInBounds_toArray, List.set_cons_zero, List.set_cons_succ]
      refine wpAny_ready (rs := [1]) (by kernel_rfl) (by simp) ?_
      refine AllReady.cons rfl (fun K hK => ?_) AllReady.nil
      go_simp
      refine hK _ _ ?_
      try simp only [Act.put, List.setIfInBounds_toArray, List.set_cons_zero, List.set_cons_succ]
      clear hK K
      have d := litL_at w4 k hk4
      have HB4 := Lib.hid (HB3.out.trans (((Below.refl w.heap.size w3).drew).trans (touchB' (Touch.grown (S := fun j => j = w.heap.size) hg4 rfl) HB3.out.size)))
      have HB9 := Lib.hid (HB4.out.alloc (HB4.out.size) (.cells #[.int .i64 (-720), .int .i64 720, .int .i64 721, .int .i64 (-721)] 3))
      have Hy := Lib.hid (litL_bd k)
      generalize litL k = y at *
      clear hr4 hg4 hk1
      refine take_op (i := 4) (d := 17) (v := .pointer (some ⟨w4.heap.size, k, none⟩)) rfl rfl (by kernel_rfl) (by kernel_rfl) (by kernel_rfl) hQ (Or.inl ⟨by rfl, fun _ => by first | rfl | (go_simp; done) | (go_simp; rfl)⟩) ?_
      simp only [Act.put, List.setIfInBounds_toArray, List.set_cons_zero, List.set_cons_succ]
      refine wpAny_ready (rs := [5]) (by kernel_rfl) (by simp) ?_
      refine AllReady.cons rfl (fun K hK => ?_) AllReady.nil
      go_simp
      refine hK _ _ ?_
      try simp only [Act.put, List.setIfInBounds_toArray, List.set_cons_zero, List.set_cons_succ]
      clear hK K
      refine take_op (i := 7) (d := 3) (v := .int .i64 y) rfl rfl (by kernel_rfl) (by kernel_rfl) (by kernel_rfl) hQ (Or.inl ⟨by rfl, fun _ => by first | rfl | (go_simp; done) | (go_simp; rfl)⟩) ?_
      simp only [Act.put, List.setIfInBounds_toArray, List.set_cons_zero, List.set_cons_succ]
      refine wpAny_done (by kernel_rfl) (hN _ _ ?_) _
      go_wp2
      go_ret2
      exact ⟨t, y, rfl, ht0, ht1, Hy.out.1, Hy.out.2, HB9.out⟩
  · have q' : (z == 0) = false := by simpa using q
    go_wp2_with fail
    refine (pick_any w.heap.size l' (p + 1) 81 _ HR3.out (by omega) (by omega)).mono ?_; rintro e w4 ⟨⟨k, rfl, hk0, hk1⟩, hr4, hg4⟩
    have HB4 := Lib.hid (HB3.out.trans (touchB' (Touch.grown (S := fun j => j = w.heap.size) hg4 rfl) HB3.out.size))
    have hk2 : k < 81 := by omega
    clear hr4 hg4 hk1
    go_wp2
    go_ret2
    exact ⟨t, k - 40, rfl, ht0, ht1, by omega, by omega, HB4.out⟩

end Go.Proofs.YtnlhnibhgpelfabDoor
