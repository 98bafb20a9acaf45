/- The model's SeatsRide. -/
import Derived.Test.YtmadfbncoibapabEN
import Derived.Test.YtmadfbncoibapabAP
namespace Go.Proofs.Ytmadfbncoibapab
open Go.RowKit

def RiRel (l : List Bk) (m B : Nat) (wS : World) (u i : Value) (wr : World) : Prop :=
  ∃ j : Nat, j ≤ m ∧ i = .int .i64 j ∧ RowI wr B u (rideUp l j) ∧ Below B wS wr

theorem sum_small {x y : Nat} (hx : x ≤ 16) (hy : y ≤ 16) : wrap64 ((x : Int) + (y : Int)) = (x : Int) + y ∧ IntKind.i64.wrap ((x : Int) + (y : Int)) = (x : Int) + y :=
  ⟨by unfold wrap64; omega, IntWalk.i64_in _ (by omega)⟩

set_option maxRecDepth 100000 in
set_option maxHeartbeats 2000000 in
theorem seatsRide1_any (n : Int) (v : Value) (l : List Bk) (w : World) (wn : W64 n) (hv : BkIn w v l) (hl : l.length ≤ 1048576) :
    Calls Try.prog 23 #[.int .i64 n, v] w (IntsOk (rideX n l) (validB n l) w) := by
  obtain ⟨i0, hi, hz0, hz1, hz2⟩ := info_parts Try.info3
  have HT := Lib.hid (fun w' (h : Below w.heap.size w w') (k : Bool) => seatsTaken1_any n v l k w' wn (hv.below h) hl)
  clear hv
  cases hz : validB n l with
  | false =>
    rw [rideX_no hz]
    rw [hz] at HT
    have H1 := Lib.hid (takX_no (k := true) hz)
    have H2 := Lib.hid (takX_no (k := false) hz)
    clear hz
    go_enter Try.func23, Try.ntmps23
    go_wp2_with fail
    refine (HT.out _ (Below.refl _ _) true).mono ?_; rintro e w1 ⟨ad1, cap1, rfl, hc1, ho1, hin1, hb1⟩
    rw [H1.out]
    have HB1 := Lib.hid hb1
    clear hc1 ho1 hin1 hb1
    go_wp2_with fail
    refine (HT.out _ HB1.out false).mono ?_; rintro e w2 ⟨ad2, cap2, rfl, hc2, ho2, hin2, hb2⟩
    rw [H2.out]
    have HB2 := Lib.hid (HB1.out.trans (hb2.mono HB1.out.size))
    clear hc2 ho2 hin2 hb2
    go_wp2
    go_loopw [10, 11] (fun u i wr => i = .int .i64 0 ∧ RowI wr w.heap.size u [] ∧ Below w.heap.size w wr) (fun _ _ _ => 0)
    case atStart => exact ⟨rfl, RowI.made w2 _ HB2.out.size, HB2.out.alloc HB2.out.size _⟩
    case round =>
      obtain ⟨rfl, hrow, hbel⟩ := hrel
      have HB := Lib.hid hbel
      have HR := Lib.hid hrow
      clear hbel hrow
      go_wp2
      go_ret2
      exact IntsOk.row false HR.out (Nat.le_refl _) HB.out
  | true =>
    have Hx := Lib.hid (rideX_yes hz)
    obtain ⟨⟨hn1, hn7⟩, hl16, _, _⟩ := validB_iff.1 hz
    rw [hz] at HT
    obtain ⟨m, rfl⟩ : ∃ m : Nat, n = m := ⟨n.toNat, by omega⟩
    have H1 := Lib.hid (takX_yes (k := true) hz)
    have H2 := Lib.hid (takX_yes (k := false) hz)
    have h1l := takUp_len l true m
    have h2l := takUp_len l false m
    rw [Int.toNat_natCast] at Hx H1 H2
    clear hz
    go_enter Try.func23, Try.ntmps23
    go_wp2_with fail
    refine (HT.out _ (Below.refl _ _) true).mono ?_; rintro e w1 ⟨ad1, cap1, rfl, hc1, ho1, hin1, hb1⟩
    rw [H1.out] at hc1 ho1 ⊢
    rw [h1l] at hc1 ⊢
    have HB1 := Lib.hid hb1
    have HO1 := Lib.hid ho1
    have HI1 := Lib.hid hin1
    clear hc1 ho1 hin1 hb1
    go_wp2_with fail
    refine (HT.out _ HB1.out false).mono ?_; rintro e w2 ⟨ad2, cap2, rfl, hc2, ho2, hin2, hb2⟩
    rw [H2.out] at hc2 ho2 ⊢
    rw [h2l] at hc2 ⊢
    have HB2 := Lib.hid (HB1.out.trans (hb2.mono HB1.out.size))
    have HO1' := Lib.hid (HO1.out.below hb2)
    have HO2 := Lib.hid ho2
    have hs2 := HB2.out.size
    clear hc2 ho2 hin2 hb2 HO1 HI1 HB1
    go_wp2
    go_loopw [10, 11] (fun u i wr => RiRel l m w2.heap.size w2 u i wr) (fun _ i _ => m - (intOf i).toNat)
    case atStart => exact ⟨0, Nat.zero_le _, rfl, RowI.made w2 _ (Nat.le_refl _), (Below.refl _ _).alloc (Nat.le_refl _) _⟩
    case round =>
      obtain ⟨j, hj, rfl, hrow, hbel⟩ := hrel
      have HB := Lib.hid hbel
      have hszr := hbel.size
      by_cases hlt : j < m
      · have hjn : (j : Int) < (m : Int) := by omega
        have hup := rideUp_len l j
        have hown := hrow
        unfold RowI at hown
        rw [hup] at hown
        have hsn := Lib.hid (rideUp_succ l j)
        have t1 := takenB_le l (j : Int) true
        have t2 := takenB_le l (j : Int) false
        obtain ⟨b1, rfl, hb1l, hi1, _⟩ := HO1'.out (by intro h; rw [h] at h1l; simp at h1l; omega)
        obtain ⟨b2, rfl, hb2l, hi2, _⟩ := HO2.out (by intro h; rw [h] at h2l; simp at h2l; omega)
        have c1 := hi1 j (by rw [h1l]; exact hlt)
        have c2 := hi2 j (by rw [h2l]; exact hlt)
        rw [takUp_at l true hlt, Nat.zero_add] at c1
        rw [takUp_at l false hlt, Nat.zero_add] at c2
        have hsum : ((takenB l (j : Int) true + takenB l (j : Int) false : Nat) : Int) = (takenB l (j : Int) true : Int) + (takenB l (j : Int) false : Int) := by omega
        rw [hsum] at hsn
        generalize takenB l (j : Int) true = x1 at *
        generalize takenB l (j : Int) false = x2 at *
        have hwr := (sum_small (Nat.le_trans t1 hl16) (Nat.le_trans t2 hl16)).1
        have hwr2 := (sum_small (Nat.le_trans t1 hl16) (Nat.le_trans t2 hl16)).2
        have hj0 : (0 : Int) ≤ (j : Int) := Int.natCast_nonneg _
        have hn0 : (0 : Int) < (m : Int) := by omega
        have HL1 := Lib.hid (fun w' (h : Below w2.heap.size wr w') => (show w'.cell? ⟨b1, j, none⟩ = some (.int .i64 x1) from (h.cell (p := ⟨b1, j, none⟩) hb1l).trans ((hbel.cell (p := ⟨b1, j, none⟩) hb1l).trans c1)))
        have HL2 := Lib.hid (fun w' (h : Below w2.heap.size wr w') => (show w'.cell? ⟨b2, j, none⟩ = some (.int .i64 x2) from (h.cell (p := ⟨b2, j, none⟩) hb2l).trans ((hbel.cell (p := ⟨b2, j, none⟩) hb2l).trans c2)))
        have HK0 := Lib.hid (show Mk wr w2.heap.size 3 1 wr.drew (some (u10, j, (rideUp l j).map (Value.int .i64))) none from ⟨hszr, (Below.refl _ _).drew, fun _ _ _ he => by cases he; exact hown.drew, fun _ _ he => by cases he⟩)
        clear hbel hrow hi1 hi2 hsum c1 c2 hown
        go_wp2_with fail
        refine wp_region_any (by kernel_rfl) ?_
        change wpAny _ _ _ _ 13 #[false, false, false, false, false, false, false, false, false, false, false, false, false] _ (World.drew _)
        refine with_Q (fun _ _ _ _ _ h => h) (fun Q hQ hN => ?_)
        generalize World.drew (wr) = w0 at *
        refine take_op (i := 0) (d := 37) (v := u10) rfl rfl (by kernel_rfl) (by kernel_rfl) (by kernel_rfl) hQ (Or.inl ⟨by rfl, fun _ => by first | rfl | (go_simp; done) | (go_simp; rfl)⟩) ?_
        simp only [Act.put, List.setIfInBounds_toArray, List.set_cons_zero, List.set_cons_succ]
        refine take_op (i := 1) (d := 38) (v := .slice (some ⟨b1, 0, none⟩) m cap1) rfl rfl (by kernel_rfl) (by kernel_rfl) (by kernel_rfl) hQ (Or.inl ⟨by rfl, fun _ => by first | rfl | (go_simp; done) | (go_simp; rfl)⟩) ?_
        simp only [Act.put, List.setIfInBounds_toArray, List.set_cons_zero, List.set_cons_succ]
        refine take_op (i := 2) (d := 39) (v := .int .i64 j) rfl rfl (by kernel_rfl) (by kernel_rfl) (by kernel_rfl) hQ (Or.inl ⟨by rfl, fun _ => by first | rfl | (go_simp; done) | (go_simp; rfl)⟩) ?_
        simp only [Act.put, List.setIfInBounds_toArray, List.set_cons_zero, List.set_cons_succ]
        refine take_op (i := 3) (d := 40) (v := .pointer (some ⟨b1, j, none⟩)) rfl rfl (by kernel_rfl) (by kernel_rfl) (by kernel_rfl) hQ (Or.inl ⟨by rfl, fun _ => by first | rfl | (go_simp; done) | (go_simp; rfl)⟩) ?_
        simp only [Act.put, List.setIfInBounds_toArray, List.set_cons_zero, List.set_cons_succ]
        refine take_op (i := 5) (d := 42) (v := .slice (some ⟨b2, 0, none⟩) m cap2) rfl rfl (by kernel_rfl) (by kernel_rfl) (by kernel_rfl) hQ (Or.inl ⟨by rfl, fun _ => by first | rfl | (go_simp; done) | (go_simp; rfl)⟩) ?_
        simp only [Act.put, List.setIfInBounds_toArray, List.set_cons_zero, List.set_cons_succ]
        refine take_op (i := 6) (d := 43) (v := .int .i64 j) rfl rfl (by kernel_rfl) (by kernel_rfl) (by kernel_rfl) hQ (Or.inl ⟨by rfl, fun _ => by first | rfl | (go_simp; done) | (go_simp; rfl)⟩) ?_
        simp only [Act.put, List.setIfInBounds_toArray, List.set_cons_zero, List.set_cons_succ]
        refine take_op (i := 7) (d := 44) (v := .pointer (some ⟨b2, j, none⟩)) rfl rfl (by kernel_rfl) (by kernel_rfl) (by kernel_rfl) hQ (Or.inl ⟨by rfl, fun _ => by first | rfl | (go_simp; done) | (go_simp; rfl)⟩) ?_
        simp only [Act.put, List.setIfInBounds_toArray, List.set_cons_zero, List.set_cons_succ]
        refine wpAny_ready (rs := [4, 8]) (by kernel_rfl) (by simp) ?_
        refine AllReady.cons rfl (fun K hK => ?_) (AllReady.cons rfl (fun K hK => ?_) AllReady.nil)
        · have hl1 := HL1.out _ HK0.out.bel
          obtain k1 := hl1
          go_simp
          refine hK _ _ ?_
          try simp only [Act.put, List.setIfInBounds_toArray, List.set_cons_zero, List.set_cons_succ]
          clear hK K 
          refine wpAny_ready (rs := [8]) (by kernel_rfl) (by simp) ?_
          refine AllReady.cons rfl (fun K hK => ?_) AllReady.nil
          have hl2 := HL2.out _ HK0.out.bel
          obtain k2 := hl2
          go_simp
          refine hK _ _ ?_
          try simp only [Act.put, List.setIfInBounds_toArray, List.set_cons_zero, List.set_cons_succ]
          clear hK K 
          refine take_op (i := 9) (d := 46) (v := .int .i64 ((x1 : Int) + x2)) rfl rfl (by kernel_rfl) (by kernel_rfl) (by kernel_rfl) hQ (Or.inl ⟨by rfl, fun _ => by first | rfl | (go_simp; done) | (go_simp; rfl)⟩) ?_
          simp only [Act.put, List.setIfInBounds_toArray, List.set_cons_zero, List.set_cons_succ]
          refine wpAny_ready (rs := [10]) (by kernel_rfl) (by simp) ?_
          refine AllReady.cons rfl (fun K hK => ?_) AllReady.nil
          go_simp
          refine hK _ _ ?_
          try simp only [Act.put, List.setIfInBounds_toArray, List.set_cons_zero, List.set_cons_succ]
          have hk3 := Mk.one HK0.out #[.int .i64 ((x1 : Int) + x2)] 3
          generalize World.alloc w0 (.cells #[.int .i64 ((x1 : Int) + x2)] 3) = wz3 at *
          clear hK K
          refine wpAny_ready (rs := [11]) (by kernel_rfl) (by simp) ?_
          refine AllReady.cons rfl (fun K hK => ?_) AllReady.nil
          refine step_app hk3 (by rfl) _ _ 35 (by rfl) i0 _ 8 Try.underlying35 hi hz0 hz1 hz2 rfl (by omega) (by rfl) ⟨w0.heap.size, 0, none⟩ 1 1 [.int .i64 ((x1 : Int) + x2)] (by rfl) rfl (hk3.new _ _ rfl).2.2.1 (by simp [Value.oneCell']) (by simp only [maxLen]; omega) (by omega) ?_
          intro va4 wz4 hk4 hn4
          change K (Act.put _ (some 48) va4) wz4
          refine hK _ _ ?_
          try simp only [Act.put, List.setIfInBounds_toArray, List.set_cons_zero, List.set_cons_succ]
          clear hK K
          refine take_op (i := 12) (d := 10) (v := va4) rfl rfl (by kernel_rfl) (by kernel_rfl) (by kernel_rfl) hQ (Or.inl ⟨by rfl, fun _ => by first | rfl | (go_simp; done) | (go_simp; rfl)⟩) ?_
          simp only [Act.put, List.setIfInBounds_toArray, List.set_cons_zero, List.set_cons_succ]
          refine wpAny_done (by kernel_rfl) (hN _ _ ?_) _
          have Hr8 := Lib.hid (show RowI _ w2.heap.size _ (rideUp l (j + 1)) by
            rw [hsn.out]; exact RowI.snoc (by rw [hup]; exact hk4.own _ _ _ rfl))
          have HB8 := Lib.hid (HB.out.trans hk4.bel)
          clear HL1 HL2
          go_wp2
          exact ⟨⟨j + 1, hlt, by go_num, Hr8.out, HB8.out⟩, by simp [intOf]; omega⟩
        · have hl5 := HL2.out _ HK0.out.bel
          obtain k5 := hl5
          go_simp
          refine hK _ _ ?_
          try simp only [Act.put, List.setIfInBounds_toArray, List.set_cons_zero, List.set_cons_succ]
          clear hK K 
          refine wpAny_ready (rs := [4]) (by kernel_rfl) (by simp) ?_
          refine AllReady.cons rfl (fun K hK => ?_) AllReady.nil
          have hl6 := HL1.out _ HK0.out.bel
          obtain k6 := hl6
          go_simp
          refine hK _ _ ?_
          try simp only [Act.put, List.setIfInBounds_toArray, List.set_cons_zero, List.set_cons_succ]
          clear hK K 
          refine take_op (i := 9) (d := 46) (v := .int .i64 ((x1 : Int) + x2)) rfl rfl (by kernel_rfl) (by kernel_rfl) (by kernel_rfl) hQ (Or.inl ⟨by rfl, fun _ => by first | rfl | (go_simp; done) | (go_simp; rfl)⟩) ?_
          simp only [Act.put, List.setIfInBounds_toArray, List.set_cons_zero, List.set_cons_succ]
          refine wpAny_ready (rs := [10]) (by kernel_rfl) (by simp) ?_
          refine AllReady.cons rfl (fun K hK => ?_) AllReady.nil
          go_simp
          refine hK _ _ ?_
          try simp only [Act.put, List.setIfInBounds_toArray, List.set_cons_zero, List.set_cons_succ]
          have hk7 := Mk.one HK0.out #[.int .i64 ((x1 : Int) + x2)] 3
          generalize World.alloc w0 (.cells #[.int .i64 ((x1 : Int) + x2)] 3) = wz7 at *
          clear hK K
          refine wpAny_ready (rs := [11]) (by kernel_rfl) (by simp) ?_
          refine AllReady.cons rfl (fun K hK => ?_) AllReady.nil
          refine step_app hk7 (by rfl) _ _ 35 (by rfl) i0 _ 8 Try.underlying35 hi hz0 hz1 hz2 rfl (by omega) (by rfl) ⟨w0.heap.size, 0, none⟩ 1 1 [.int .i64 ((x1 : Int) + x2)] (by rfl) rfl (hk7.new _ _ rfl).2.2.1 (by simp [Value.oneCell']) (by simp only [maxLen]; omega) (by omega) ?_
          intro va8 wz8 hk8 hn8
          change K (Act.put _ (some 48) va8) wz8
          refine hK _ _ ?_
          try simp only [Act.put, List.setIfInBounds_toArray, List.set_cons_zero, List.set_cons_succ]
          clear hK K
          refine take_op (i := 12) (d := 10) (v := va8) rfl rfl (by kernel_rfl) (by kernel_rfl) (by kernel_rfl) hQ (Or.inl ⟨by rfl, fun _ => by first | rfl | (go_simp; done) | (go_simp; rfl)⟩) ?_
          simp only [Act.put, List.setIfInBounds_toArray, List.set_cons_zero, List.set_cons_succ]
          refine wpAny_done (by kernel_rfl) (hN _ _ ?_) _
          have Hr8 := Lib.hid (show RowI _ w2.heap.size _ (rideUp l (j + 1)) by
            rw [hsn.out]; exact RowI.snoc (by rw [hup]; exact hk8.own _ _ _ rfl))
          have HB8 := Lib.hid (HB.out.trans hk8.bel)
          clear HL1 HL2
          go_wp2
          exact ⟨⟨j + 1, hlt, by go_num, Hr8.out, HB8.out⟩, by simp [intOf]; omega⟩
      · have hjn : m = j := by omega
        have HR := Lib.hid hrow
        have Hjn := Lib.hid hjn
        have hnj : ¬ ((j : Int) < (m : Int)) := by omega
        clear hbel hrow hlt hjn
        go_wp2
        go_ret2
        rw [Hx.out, Hjn.out]
        exact IntsOk.row true HR.out hs2 (HB2.out.trans (HB.out.mono hs2))

end Go.Proofs.Ytmadfbncoibapab
