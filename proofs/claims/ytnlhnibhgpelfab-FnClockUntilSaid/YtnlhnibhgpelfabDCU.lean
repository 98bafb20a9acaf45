/- Draws: two minutes of the day (DrawClockUntil). -/
import Derived.Test.YtnlhnibhgpelfabDK
import Derived.Test.YtnlhnibhgpelfabHD
namespace Go.Proofs.Ytnlhnibhgpelfab
open Go.RowKit

theorem touchC {g : Nat} {a b : World} (ht : a.grownBy b (some g)) (h : g ≤ a.heap.size) : Below g a b := (Touch.grown (S := fun j => j = g) ht rfl).below (B := g) (fun j hj => by rw [hj]; exact Nat.le_refl _) h

/-- A block of numbers that lies beside the reader. -/
def LitAt (w : World) (g b m : Nat) (f : Nat → Int) : Prop := b ≠ g ∧ b < w.heap.size ∧ ∀ k : Nat, k < m → w.cell? ⟨b, k, none⟩ = some (.int .i64 (f k))
theorem LitAt.grown {w w' : World} {g b m : Nat} {f : Nat → Int} (h : LitAt w g b m f) (hg : w.grownBy w' (some g)) : LitAt w' g b m f :=
  ⟨h.1, Nat.lt_of_lt_of_le h.2.1 hg.size, fun k hk => by rw [World.cell?_of_block (a := ⟨b, k, none⟩) (hg.block b h.2.1 (fun e => by injection e with e; exact h.1 e))]; exact h.2.2 k hk⟩
def litU : Nat → Int
  | 0 => -1
  | 1 => 1440
  | 2 => 1439
  | _ => 0
theorem litU_bd (k : Nat) : (-1 : Int) ≤ litU k ∧ litU k ≤ 1440 := by
  unfold litU; split <;> omega
theorem litU_new {w : World} {g : Nat} (hg : g < w.heap.size) : LitAt (w.alloc (.cells #[.int .i64 (-1), .int .i64 1440, .int .i64 1439, .int .i64 0] 3)) g w.heap.size 4 litU := by
  refine ⟨Nat.ne_of_gt hg, by simp, fun k hk => ?_⟩
  rcases (show k = 0 ∨ k = 1 ∨ k = 2 ∨ k = 3 by omega) with rfl | rfl | rfl | rfl <;> simp [litU]

def DrawnMM (w : World) (e : Ending) (w' : World) : Prop := ∃ a b : Int, e = .returned (.tuple #[.int .i64 a, .int .i64 b]) ∧ -1 ≤ a ∧ a ≤ 1440 ∧ 0 ≤ b ∧ b < 1440 ∧ Below w.heap.size w w'

set_option maxRecDepth 100000 in
set_option maxHeartbeats 2000000 in
theorem drawClockUntil_any (v : Value) (l : List Int) (w : World) (hv : BytesIn w v l) (hm : l.length ≤ 1048576) :
    Calls Try.prog 5 #[v] w (DrawnMM w) := by
  have Hv := Lib.hid hv; clear hv
  go_enter Try.func5, Try.ntmps5
  go_wp2_with fail
  refine (l6Open_any _ l _ Hv.out hm).mono ?_; rintro e w1 ⟨rfl, ⟨l', hr⟩, hb, hs⟩
  have HB1 := Lib.hid hb; have HR1 := Lib.hid hr
  clear hb hr
  go_wp2_with fail
  refine (pick_any w.heap.size l' 0 8 _ HR1.out (by omega) (by omega)).mono ?_; rintro e w3 ⟨⟨z, rfl, hz0, hz1⟩, hr3, hg3⟩
  have HB3 := Lib.hid (HB1.out.trans (touchC hg3 HB1.out.size))
  have HR3 := Lib.hid hr3
  clear hr3 hg3 hz1
  by_cases q : z = 0
  · subst q
    have HBa := Lib.hid (show Below w.heap.size w w3.drew from HB3.out.drew)
    have HRa := Lib.hid (show Reader w3.drew w.heap.size l' (0 + 1) from HR3.out)
    go_wp2
    refine wp_region_any (by kernel_rfl) ?_
    change wpAny _ _ _ _ 9 #[false, false, false, false, false, false, false, false, false] _ (World.drew _)
    refine with_Q (fun _ _ _ _ _ h => h) (fun Q hQ hN => ?_)
    generalize World.drew w3 = w0 at *
    refine take_op (i := 1) (d := 11) (v := .pointer (some ⟨w.heap.size, 0, none⟩)) rfl rfl (by kernel_rfl) (by kernel_rfl) (by kernel_rfl) hQ (Or.inl ⟨by rfl, fun _ => by first | rfl | (go_simp; done) | (go_simp; rfl)⟩) ?_
    simp only [Act.put, List.setIfInBounds_toArray, List.set_cons_zero, List.set_cons_succ]
    refine take_op (i := 5) (d := 15) (v := .pointer (some ⟨w.heap.size, 0, none⟩)) rfl rfl (by kernel_rfl) (by kernel_rfl) (by kernel_rfl) hQ (Or.inl ⟨by rfl, fun _ => by first | rfl | (go_simp; done) | (go_simp; rfl)⟩) ?_
    simp only [Act.put, List.setIfInBounds_toArray, List.set_cons_zero, List.set_cons_succ]
    refine wpAny_ready (rs := [0, 2]) (by kernel_rfl) (by simp) ?_
    refine AllReady.cons rfl (fun K hK => ?_) (AllReady.cons rfl (fun K hK => ?_) AllReady.nil)
    · go_simp
      refine hK _ _ ?_
      try simp only [Act.put, List.setIfInBounds_toArray, List.set_cons_zero, List.set_cons_succ]
      clear hK K
      have HLt1 := Lib.hid (litU_new (w := w0) (HRa.out.lt))
      have HBt1 := Lib.hid (HBa.out.alloc (HBa.out.size) (.cells #[.int .i64 (-1), .int .i64 1440, .int .i64 1439, .int .i64 0] 3))
      have HRt1 := Lib.hid (HRa.out.belowB (show Below w0.heap.size w0 (w0.alloc (.cells #[.int .i64 (-1), .int .i64 1440, .int .i64 1439, .int .i64 0] 3)) from (Below.refl _ _).alloc (Nat.le_refl _) _) HRa.out.lt)
      generalize World.alloc w0 (.cells #[.int .i64 (-1), .int .i64 1440, .int .i64 1439, .int .i64 0] 3) = wx1 at *
      generalize (World.heap w0).size = bk1 at *
      refine wpAny_ready (rs := [2]) (by kernel_rfl) (by simp) ?_
      refine AllReady.cons rfl (fun K hK => ?_) AllReady.nil
      go_simp
      go_at_call 16
      refine (pick_any w.heap.size l' _ 4 _ HRt1.out (by omega) (by omega)).mono ?_; rintro e wx2 ⟨⟨x, rfl, x0, x1⟩, hr_, hg_⟩
      obtain ⟨k, rfl⟩ : ∃ j : Nat, x = (j : Int) := ⟨x.toNat, by omega⟩
      have hk4 : k < 4 := by omega
      have hk4i : (k : Int) < 4 := by omega
      clear x1
      have HBt2 := Lib.hid (HBt1.out.trans (touchC hg_ HBt1.out.size))
      have HRt2 := Lib.hid hr_
      have HLt2 := Lib.hid (HLt1.out.grown hg_)
      clear hr_ hg_
      refine hK _ _ ?_
      try simp only [Act.put, List.setIfInBounds_toArray, List.set_cons_zero, List.set_cons_succ]
      clear hK K
      refine take_op (i := 3) (d := 13) (v := .pointer (some ⟨bk1, k, none⟩)) rfl rfl (by kernel_rfl) (by kernel_rfl) (by kernel_rfl) hQ (Or.inl ⟨by rfl, fun _ => by first | rfl | (go_simp; done) | (go_simp; rfl)⟩) ?_
      simp only [Act.put, List.setIfInBounds_toArray, List.set_cons_zero, List.set_cons_succ]
      refine wpAny_ready (rs := [4, 6]) (by kernel_rfl) (by simp) ?_
      refine AllReady.cons rfl (fun K hK => ?_) (AllReady.cons rfl (fun K hK => ?_) AllReady.nil)
      · have d := HLt2.out.2.2 k hk4
        go_simp
        refine hK _ _ ?_
        try simp only [Act.put, List.setIfInBounds_toArray, List.set_cons_zero, List.set_cons_succ]
        clear hK K
        refine wpAny_ready (rs := [6]) (by kernel_rfl) (by simp) ?_
        refine AllReady.cons rfl (fun K hK => ?_) AllReady.nil
        go_simp
        go_at_call 16
        refine (pick_any w.heap.size l' _ 1440 _ HRt2.out (by omega) (by omega)).mono ?_; rintro e wx4 ⟨⟨x, rfl, x0, x1⟩, hr_, hg_⟩
        obtain ⟨b, rfl⟩ : ∃ b, b = x := ⟨x, rfl⟩
        have b0 := x0
        have b1 : b < 1440 := by omega
        clear x0 x1
        have HBt4 := Lib.hid (HBt2.out.trans (touchC hg_ HBt2.out.size))
        have HRt4 := Lib.hid hr_
        have HLt4 := Lib.hid (HLt2.out.grown hg_)
        clear hr_ hg_
        refine hK _ _ ?_
        try simp only [Act.put, List.setIfInBounds_toArray, List.set_cons_zero, List.set_cons_succ]
        clear hK K
        refine take_op (i := 7) (d := 2) (v := .int .i64 (litU k)) rfl rfl (by kernel_rfl) (by kernel_rfl) (by kernel_rfl) hQ (Or.inl ⟨by rfl, fun _ => by first | rfl | (go_simp; done) | (go_simp; rfl)⟩) ?_
        simp only [Act.put, List.setIfInBounds_toArray, List.set_cons_zero, List.set_cons_succ]
        refine take_op (i := 8) (d := 3) (v := .int .i64 b) rfl rfl (by kernel_rfl) (by kernel_rfl) (by kernel_rfl) hQ (Or.inl ⟨by rfl, fun _ => by first | rfl | (go_simp; done) | (go_simp; rfl)⟩) ?_
        simp only [Act.put, List.setIfInBounds_toArray, List.set_cons_zero, List.set_cons_succ]
        refine wpAny_done (by kernel_rfl) (hN _ _ ?_) _
        go_wp2
        go_ret2
        exact ⟨litU k, b, rfl, (litU_bd k).1, (litU_bd k).2, b0, b1, HBt4.out⟩
      · go_simp
        go_at_call 16
        refine (pick_any w.heap.size l' _ 1440 _ HRt2.out (by omega) (by omega)).mono ?_; rintro e wx5 ⟨⟨x, rfl, x0, x1⟩, hr_, hg_⟩
        obtain ⟨b, rfl⟩ : ∃ b, b = x := ⟨x, rfl⟩
        have b0 := x0
        have b1 : b < 1440 := by omega
        clear x0 x1
        have HBt5 := Lib.hid (HBt2.out.trans (touchC hg_ HBt2.out.size))
        have HRt5 := Lib.hid hr_
        have HLt5 := Lib.hid (HLt2.out.grown hg_)
        clear hr_ hg_
        refine hK _ _ ?_
        try simp only [Act.put, List.setIfInBounds_toArray, List.set_cons_zero, List.set_cons_succ]
        clear hK K
        refine wpAny_ready (rs := [4]) (by kernel_rfl) (by simp) ?_
        refine AllReady.cons rfl (fun K hK => ?_) AllReady.nil
        have d := HLt5.out.2.2 k hk4
        go_simp
        refine hK _ _ ?_
        try simp only [Act.put, List.setIfInBounds_toArray, List.set_cons_zero, List.set_cons_succ]
        clear hK K
        refine take_op (i := 7) (d := 2) (v := .int .i64 (litU k)) rfl rfl (by kernel_rfl) (by kernel_rfl) (by kernel_rfl) hQ (Or.inl ⟨by rfl, fun _ => by first | rfl | (go_simp; done) | (go_simp; rfl)⟩) ?_
        simp only [Act.put, List.setIfInBounds_toArray, List.set_cons_zero, List.set_cons_succ]
        refine take_op (i := 8) (d := 3) (v := .int .i64 b) rfl rfl (by kernel_rfl) (by kernel_rfl) (by kernel_rfl) hQ (Or.inl ⟨by rfl, fun _ => by first | rfl | (go_simp; done) | (go_simp; rfl)⟩) ?_
        simp only [Act.put, List.setIfInBounds_toArray, List.set_cons_zero, List.set_cons_succ]
        refine wpAny_done (by kernel_rfl) (hN _ _ ?_) _
        go_wp2
        go_ret2
        exact ⟨litU k, b, rfl, (litU_bd k).1, (litU_bd k).2, b0, b1, HBt5.out⟩
    · go_simp
      go_at_call 16
      refine (pick_any w.heap.size l' _ 4 _ HRa.out (by omega) (by omega)).mono ?_; rintro e wx7 ⟨⟨x, rfl, x0, x1⟩, hr_, hg_⟩
      obtain ⟨k, rfl⟩ : ∃ j : Nat, x = (j : Int) := ⟨x.toNat, by omega⟩
      have hk4 : k < 4 := by omega
      have hk4i : (k : Int) < 4 := by omega
      clear x1
      have HBt7 := Lib.hid (HBa.out.trans (touchC hg_ HBa.out.size))
      have HRt7 := Lib.hid hr_
      clear hr_ hg_
      refine hK _ _ ?_
      try simp only [Act.put, List.setIfInBounds_toArray, List.set_cons_zero, List.set_cons_succ]
      clear hK K
      refine wpAny_ready (rs := [0, 6]) (by kernel_rfl) (by simp) ?_
      refine AllReady.cons rfl (fun K hK => ?_) (AllReady.cons rfl (fun K hK => ?_) AllReady.nil)
      · go_simp
        refine hK _ _ ?_
        try simp only [Act.put, List.setIfInBounds_toArray, List.set_cons_zero, List.set_cons_succ]
        clear hK K
        have HLt8 := Lib.hid (litU_new (w := wx7) (HRt7.out.lt))
        have HBt8 := Lib.hid (HBt7.out.alloc (HBt7.out.size) (.cells #[.int .i64 (-1), .int .i64 1440, .int .i64 1439, .int .i64 0] 3))
        have HRt8 := Lib.hid (HRt7.out.belowB (show Below wx7.heap.size wx7 (wx7.alloc (.cells #[.int .i64 (-1), .int .i64 1440, .int .i64 1439, .int .i64 0] 3)) from (Below.refl _ _).alloc (Nat.le_refl _) _) HRt7.out.lt)
        generalize World.alloc wx7 (.cells #[.int .i64 (-1), .int .i64 1440, .int .i64 1439, .int .i64 0] 3) = wx8 at *
        generalize (World.heap wx7).size = bk8 at *
        refine take_op (i := 3) (d := 13) (v := .pointer (some ⟨bk8, k, none⟩)) rfl rfl (by kernel_rfl) (by kernel_rfl) (by kernel_rfl) hQ (Or.inl ⟨by rfl, fun _ => by first | rfl | (go_simp; done) | (go_simp; rfl)⟩) ?_
        simp only [Act.put, List.setIfInBounds_toArray, List.set_cons_zero, List.set_cons_succ]
        refine wpAny_ready (rs := [4, 6]) (by kernel_rfl) (by simp) ?_
        refine AllReady.cons rfl (fun K hK => ?_) (AllReady.cons rfl (fun K hK => ?_) AllReady.nil)
        · have d := HLt8.out.2.2 k hk4
          go_simp
          refine hK _ _ ?_
          try simp only [Act.put, List.setIfInBounds_toArray, List.set_cons_zero, List.set_cons_succ]
          clear hK K
          refine wpAny_ready (rs := [6]) (by kernel_rfl) (by simp) ?_
          refine AllReady.cons rfl (fun K hK => ?_) AllReady.nil
          go_simp
          go_at_call 16
          refine (pick_any w.heap.size l' _ 1440 _ HRt8.out (by omega) (by omega)).mono ?_; rintro e wx10 ⟨⟨x, rfl, x0, x1⟩, hr_, hg_⟩
          obtain ⟨b, rfl⟩ : ∃ b, b = x := ⟨x, rfl⟩
          have b0 := x0
          have b1 : b < 1440 := by omega
          clear x0 x1
          have HBt10 := Lib.hid (HBt8.out.trans (touchC hg_ HBt8.out.size))
          have HRt10 := Lib.hid hr_
          have HLt10 := Lib.hid (HLt8.out.grown hg_)
          clear hr_ hg_
          refine hK _ _ ?_
          try simp only [Act.put, List.setIfInBounds_toArray, List.set_cons_zero, List.set_cons_succ]
          clear hK K
          refine take_op (i := 7) (d := 2) (v := .int .i64 (litU k)) rfl rfl (by kernel_rfl) (by kernel_rfl) (by kernel_rfl) hQ (Or.inl ⟨by rfl, fun _ => by first | rfl | (go_simp; done) | (go_simp; rfl)⟩) ?_
          simp only [Act.put, List.setIfInBounds_toArray, List.set_cons_zero, List.set_cons_succ]
          refine take_op (i := 8) (d := 3) (v := .int .i64 b) rfl rfl (by kernel_rfl) (by kernel_rfl) (by kernel_rfl) hQ (Or.inl ⟨by rfl, fun _ => by first | rfl | (go_simp; done) | (go_simp; rfl)⟩) ?_
          simp only [Act.put, List.setIfInBounds_toArray, List.set_cons_zero, List.set_cons_succ]
          refine wpAny_done (by kernel_rfl) (hN _ _ ?_) _
          go_wp2
          go_ret2
          exact ⟨litU k, b, rfl, (litU_bd k).1, (litU_bd k).2, b0, b1, HBt10.out⟩
        · go_simp
          go_at_call 16
          refine (pick_any w.heap.size l' _ 1440 _ HRt8.out (by omega) (by omega)).mono ?_; rintro e wx11 ⟨⟨x, rfl, x0, x1⟩, hr_, hg_⟩
          obtain ⟨b, rfl⟩ : ∃ b, b = x := ⟨x, rfl⟩
          have b0 := x0
          have b1 : b < 1440 := by omega
          clear x0 x1
          have HBt11 := Lib.hid (HBt8.out.trans (touchC hg_ HBt8.out.size))
          have HRt11 := Lib.hid hr_
          have HLt11 := Lib.hid (HLt8.out.grown hg_)
          clear hr_ hg_
          refine hK _ _ ?_
          try simp only [Act.put, List.setIfInBounds_toArray, List.set_cons_zero, List.set_cons_succ]
          clear hK K
          refine wpAny_ready (rs := [4]) (by kernel_rfl) (by simp) ?_
          refine AllReady.cons rfl (fun K hK => ?_) AllReady.nil
          have d := HLt11.out.2.2 k hk4
          go_simp
          refine hK _ _ ?_
          try simp only [Act.put, List.setIfInBounds_toArray, List.set_cons_zero, List.set_cons_succ]
          clear hK K
          refine take_op (i := 7) (d := 2) (v := .int .i64 (litU k)) rfl rfl (by kernel_rfl) (by kernel_rfl) (by kernel_rfl) hQ (Or.inl ⟨by rfl, fun _ => by first | rfl | (go_simp; done) | (go_simp; rfl)⟩) ?_
          simp only [Act.put, List.setIfInBounds_toArray, List.set_cons_zero, List.set_cons_succ]
          refine take_op (i := 8) (d := 3) (v := .int .i64 b) rfl rfl (by kernel_rfl) (by kernel_rfl) (by kernel_rfl) hQ (Or.inl ⟨by rfl, fun _ => by first | rfl | (go_simp; done) | (go_simp; rfl)⟩) ?_
          simp only [Act.put, List.setIfInBounds_toArray, List.set_cons_zero, List.set_cons_succ]
          refine wpAny_done (by kernel_rfl) (hN _ _ ?_) _
          go_wp2
          go_ret2
          exact ⟨litU k, b, rfl, (litU_bd k).1, (litU_bd k).2, b0, b1, HBt11.out⟩
      · go_simp
        go_at_call 16
        refine (pick_any w.heap.size l' _ 1440 _ HRt7.out (by omega) (by omega)).mono ?_; rintro e wx13 ⟨⟨x, rfl, x0, x1⟩, hr_, hg_⟩
        obtain ⟨b, rfl⟩ : ∃ b, b = x := ⟨x, rfl⟩
        have b0 := x0
        have b1 : b < 1440 := by omega
        clear x0 x1
        have HBt13 := Lib.hid (HBt7.out.trans (touchC hg_ HBt7.out.size))
        have HRt13 := Lib.hid hr_
        clear hr_ hg_
        refine hK _ _ ?_
        try simp only [Act.put, List.setIfInBounds_toArray, List.set_cons_zero, List.set_cons_succ]
        clear hK K
        refine wpAny_ready (rs := [0]) (by kernel_rfl) (by simp) ?_
        refine AllReady.cons rfl (fun K hK => ?_) AllReady.nil
        go_simp
        refine hK _ _ ?_
        try simp only [Act.put, List.setIfInBounds_toArray, List.set_cons_zero, List.set_cons_succ]
        clear hK K
        have HLt14 := Lib.hid (litU_new (w := wx13) (HRt13.out.lt))
        have HBt14 := Lib.hid (HBt13.out.alloc (HBt13.out.size) (.cells #[.int .i64 (-1), .int .i64 1440, .int .i64 1439, .int .i64 0] 3))
        have HRt14 := Lib.hid (HRt13.out.belowB (show Below wx13.heap.size wx13 (wx13.alloc (.cells #[.int .i64 (-1), .int .i64 1440, .int .i64 1439, .int .i64 0] 3)) from (Below.refl _ _).alloc (Nat.le_refl _) _) HRt13.out.lt)
        generalize World.alloc wx13 (.cells #[.int .i64 (-1), .int .i64 1440, .int .i64 1439, .int .i64 0] 3) = wx14 at *
        generalize (World.heap wx13).size = bk14 at *
        refine take_op (i := 3) (d := 13) (v := .pointer (some ⟨bk14, k, none⟩)) rfl rfl (by kernel_rfl) (by kernel_rfl) (by kernel_rfl) hQ (Or.inl ⟨by rfl, fun _ => by first | rfl | (go_simp; done) | (go_simp; rfl)⟩) ?_
        simp only [Act.put, List.setIfInBounds_toArray, List.set_cons_zero, List.set_cons_succ]
        refine wpAny_ready (rs := [4]) (by kernel_rfl) (by simp) ?_
        refine AllReady.cons rfl (fun K hK => ?_) AllReady.nil
        have d := HLt14.out.2.2 k hk4
        go_simp
        refine hK _ _ ?_
        try simp only [Act.put, List.setIfInBounds_toArray, List.set_cons_zero, List.set_cons_succ]
        clear hK K
        refine take_op (i := 7) (d := 2) (v := .int .i64 (litU k)) rfl rfl (by kernel_rfl) (by kernel_rfl) (by kernel_rfl) hQ (Or.inl ⟨by rfl, fun _ => by first | rfl | (go_simp; done) | (go_simp; rfl)⟩) ?_
        simp only [Act.put, List.setIfInBounds_toArray, List.set_cons_zero, List.set_cons_succ]
        refine take_op (i := 8) (d := 3) (v := .int .i64 b) rfl rfl (by kernel_rfl) (by kernel_rfl) (by kernel_rfl) hQ (Or.inl ⟨by rfl, fun _ => by first | rfl | (go_simp; done) | (go_simp; rfl)⟩) ?_
        simp only [Act.put, List.setIfInBounds_toArray, List.set_cons_zero, List.set_cons_succ]
        refine wpAny_done (by kernel_rfl) (hN _ _ ?_) _
        go_wp2
        go_ret2
        exact ⟨litU k, b, rfl, (litU_bd k).1, (litU_bd k).2, b0, b1, HBt14.out⟩
  · have q' : (z == 0) = false := by simpa using q
    go_wp2_with fail
    refine (pick_any w.heap.size l' (0 + 1) 1440 _ HR3.out (by omega) (by omega)).mono ?_; rintro e w4 ⟨⟨a, rfl, a0, a1⟩, hr4, hg4⟩
    have HB4 := Lib.hid (HB3.out.trans (touchC hg4 HB3.out.size))
    have HR4 := Lib.hid hr4
    have a2 : a ≤ 1440 := by omega
    clear hr4 hg4 a1
    go_wp2_with fail
    refine (pick_any w.heap.size l' (0 + 1 + 1) 1440 _ HR4.out (by omega) (by omega)).mono ?_; rintro e w5 ⟨⟨b, rfl, b0, b1⟩, hr5, hg5⟩
    have HB5 := Lib.hid (HB4.out.trans (touchC hg5 HB4.out.size))
    have b2 : b < 1440 := by omega
    clear hr5 hg5 b1
    go_wp2
    go_ret2
    exact ⟨a, b, rfl, by omega, a2, b0, b2, HB5.out⟩

end Go.Proofs.Ytnlhnibhgpelfab
