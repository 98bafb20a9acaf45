/- The model's l5Miles, PartsMiles, PartsLength, l5Stretch. -/
import Derived.Test.YthdkjjfnockldaaQ1
import Derived.Test.YthdkjjfnockldaaQC
import Derived.BigRegion
namespace Go.Proofs.Ythdkjjfnockldaa
open Go.RowKit

def M1Rel (l : List Pt) (w : World) (i : Value) (wr : World) : Prop := ∃ k : Nat, k ≤ l.length ∧ i = .int .i64 k ∧ IntAt wr w.heap.size 0 (cnt6 (ownP (l.take k))) ∧ Room wr w.heap.size 6 ∧ Below w.heap.size w wr

set_option maxRecDepth 100000 in
set_option maxHeartbeats 2000000 in
theorem l5Miles1_any (v : Value) (l : List Pt) (w : World) (hv : PtIn w v l) (hz : validP l = true) :
    Calls Try.prog 53 #[v] w (IntsOne (cnt6 (ownP l)) w) := by
  obtain ⟨i0, hi, hz0, hz1, hz2⟩ := info_parts Try.info3
  have hmk : ∀ W, (Instr.makeSlice 25 (.int .i64 6) (.int .i64 6)).run Try.prog W = .ok (.slice (some ⟨W.heap.size, 0, none⟩) 6 6) (W.alloc (.cells (madeCells #[.int .i64 0] (6 * i0.size)) 3)) := fun W =>
    run_make_rowN (P := Try.prog) 25 3 i0 _ Try.underlying25 hi hz0 .i64 .i64 6 6 (Nat.le_refl _) (by rw [hz2]; omega) (by omega) W
  obtain ⟨b, o, cap, rfl, _, hb, hl⟩ := PtIn.full hv hz
  have Hl := Lib.hid hl; clear hl hv
  have hl12 := (validP_iff.1 hz).2.1
  have Hz := Lib.hid hz; clear hz
  go_enter Try.func53, Try.ntmps53
  go_wp2
  go_loopw [4] (fun i wr => M1Rel l w i wr) (fun i _ => l.length - (intOf i).toNat)
  case atStart => exact ⟨0, Nat.zero_le _, rfl, IntAt.zeros6 w 3, Room.made w #[.int .i64 0] 6 3 (by simp), (Below.refl _ _).alloc (Nat.le_refl _) _⟩
  case round =>
    obtain ⟨k, hk, rfl, h1, h2, hbel⟩ := hrel
    by_cases hlt : k < l.length
    · obtain ⟨c0, c1⟩ := (Hl.out.below hbel hb) k hlt
      obtain ⟨a0, a5, p1, p9⟩ := validP_at Hz.out hlt
      have hup := ownP_succ hlt
      have hln := ownP_len Hz.out
      have hle := ownP_take_le hlt
      generalize (l.getD k pt0).a = xa at *
      generalize (l.getD k pt0).b = xb at *
      obtain ⟨c, rfl⟩ : ∃ c : Nat, xb = c := ⟨xb.toNat, by omega⟩
      rw [Int.toNat_natCast] at hup hle
      have hst := cnt6_add (ownP (l.take k)) xa c a0 a5
      rw [← hup] at hst
      obtain ⟨m, rfl⟩ : ∃ m : Nat, xa = m := ⟨xa.toNat, by omega⟩
      rw [Int.toNat_natCast] at hst
      have hm6 : (m : Int) < 6 := by omega
      have hm6n : m < 6 := by omega
      have d0 := h1 m (by rw [cnt6_len]; omega)
      rw [Nat.zero_add] at d0
      have hbd := cnt6_bd (ownP (l.take k)) m
      have hfz := h2.2 m
      generalize (cnt6 (ownP (l.take k))).getD m 0 = x at *
      have hx : 0 ≤ x ∧ x ≤ 1188 := by omega
      have hidx : m < (cnt6 (ownP (l.take k))).length := by rw [cnt6_len]; exact hm6n
      have hset := h1.setQ (v := x + c) hidx
      have hws : IntKind.i64.wrap (x + c) = x + c := IntWalk.i64_in _ (by omega)
      have hk0 : (0 : Int) ≤ (k : Int) := Int.natCast_nonneg _
      have hk1 : (k : Int) < (l.length : Int) := by omega
      have hm0 : (0 : Int) ≤ (m : Int) := Int.natCast_nonneg _
      have hne : b ≠ w.heap.size := by omega
      have hne2 : w.heap.size ≠ b := by omega
      have H1 := Lib.hid hset
      have H2 := Lib.hid h2
      have H3 := Lib.hid hbel
      have Hst := Lib.hid hst
      clear hset h1 h2 hbel hst hbd hup hln hle a0 a5 hidx
      go_wp2
      go_region
      all_goals
        go_wp2
        refine ⟨⟨k + 1, hlt, by go_num, by rw [Hst.out]; exact H1.out, H2.out.setCell _ _, (H3.out.setCell (p := ⟨w.heap.size, m, none⟩) (Nat.le_refl _) _).drew⟩, ?_⟩
        simp [intOf]; omega
    · obtain rfl : k = l.length := by omega
      rw [List.take_length] at h1
      have hs := hbel.size
      have H1 := Lib.hid h1
      have H2 := Lib.hid h2
      have H3 := Lib.hid hbel
      have hsz := World.block_lt_of_cell? _ _ (h1 0 (by rw [cnt6_len]; omega))
      clear h1 h2 hbel
      go_wp2
      go_ret
      refine ⟨some ⟨w.heap.size, 0, none⟩, 6, by rw [cnt6_len]; rfl, by rw [cnt6_len]; exact Nat.le_refl _, fun _ => ⟨w.heap.size, rfl, hsz, H1.out, by rw [cnt6_len]; exact H2.out⟩, fun j hj => ?_, H3.out⟩
      obtain ⟨o2, ho⟩ := hj
      cases ho
      exact ⟨Nat.le_refl _, hsz⟩

set_option maxHeartbeats 400000 in
theorem milesP1_any (v : Value) (l : List Pt) (w : World) (hv : PtIn w v l) (hm : l.length ≤ 1048576) :
    Calls Try.prog 16 #[v] w (IntsOk (milesX l) (validP l) w) := by
  have Hval := Lib.hid (valid1_any v l w hv (by omega))
  cases hz : validP l with
  | false =>
    have hx : milesX l = [] := by unfold milesX; rw [hz]; rfl
    have Hx := Lib.hid hx; clear hx
    rw [hz] at Hval
    clear hv
    go_enter Try.func16, Try.ntmps16
    go_wp2_with fail
    refine Hval.out.mono ?_; rintro e w1 ⟨rfl, rfl⟩
    go_wp2
    go_ret2
    rw [Hx.out]
    exact IntsOk.no (Nat.le_refl _) (by simp) ((Below.refl _ _).alloc (Nat.le_refl _) _)
  | true =>
    have hx : milesX l = cnt6 (ownP l) := by unfold milesX; rw [hz]; rfl
    have Hx := Lib.hid hx; clear hx
    have Hml := Lib.hid (l5Miles1_any v l w hv hz)
    rw [hz] at Hval
    clear hv hz
    go_enter Try.func16, Try.ntmps16
    go_wp2_with fail
    refine Hval.out.mono ?_; rintro e w1 ⟨rfl, rfl⟩
    go_wp2_with fail
    refine Hml.out.mono ?_
    intro e w2 h2
    obtain ⟨ad3, cp3, rfl, hR⟩ := IntsOne.ok (ok := true) h2 (Below.refl _ _) Hx.out
    have HR := Lib.hid hR; clear h2 hR
    generalize hm2 : (milesX l).length = m2 at *
    go_wp2
    go_ret2
    exact HR.out

set_option maxHeartbeats 400000 in
theorem len1_any (v : Value) (l : List Pt) (w : World) (hv : PtIn w v l) (hm : l.length ≤ 1048576) :
    Calls Try.prog 22 #[v] w (Gives (.int .i64 (lenX l)) w) := by
  have Hval := Lib.hid (valid1_any v l w hv (by omega))
  cases hz : validP l with
  | false =>
    have hx : lenX l = -1 := by unfold lenX; rw [hz]; rfl
    have Hx := Lib.hid hx; clear hx
    rw [hz] at Hval
    clear hv
    go_enter Try.func22, Try.ntmps22
    go_wp2_with fail
    refine Hval.out.mono ?_; rintro e w1 ⟨rfl, rfl⟩
    go_wp2
    go_ret
    rw [Hx.out]
    exact ⟨rfl, Below.refl _ _⟩
  | true =>
    have hx : lenX l = (cnt6 (ownP l)).sum := by rw [cntP_sum hz]; unfold lenX; rw [hz]; rfl
    have Hx := Lib.hid hx; clear hx
    have Hml := Lib.hid (l5Miles1_any v l w hv hz)
    have Hle := Lib.hid (cnt6_le (ownP l) (ownP_len hz))
    rw [hz] at Hval
    clear hv hz
    go_enter Try.func22, Try.ntmps22
    go_wp2_with fail
    refine Hval.out.mono ?_; rintro e w1 ⟨rfl, rfl⟩
    go_wp2_with fail
    refine Hml.out.mono ?_
    rintro e w2 ⟨ad, cp, rfl, hcp, hown, _, hb⟩
    have Hsum := Lib.hid (sum1_any _ (cnt6 (ownP l)) w2 (hown.ints hcp) (by rw [cnt6_len]; omega) (fun i => by have := Hle.out i; omega))
    have HB := Lib.hid hb
    clear hown hb hcp
    generalize hn : (cnt6 (ownP l)).length = n at *
    go_wp2_with fail
    refine Hsum.out.mono ?_; rintro e w3 ⟨rfl, rfl⟩
    rw [← Hx.out]
    go_wp2
    go_ret
    exact ⟨rfl, HB.out⟩

set_option maxRecDepth 100000 in
set_option maxHeartbeats 1000000 in
theorem stretch1_any (v : Value) (l : List Pt) (x y : Int) (w : World) (hv : PtIn w v l) (hm : l.length ≤ 1048576) (wx : W64 x) :
    Calls Try.prog 68 #[v, .int .i64 x, .int .i64 y] w (Gives (.bool (strOk l x y)) w) := by
  have Hlen := Lib.hid (len1_any v l w hv hm)
  cases hz : validP l with
  | false =>
    have Hx := Lib.hid (bnot_of strOk_iff (fun h => by rw [hz] at h; cases h.1) : strOk l x y = false)
    have hlx : lenX l = -1 := by unfold lenX; rw [hz]; rfl
    rw [hlx] at Hlen
    obtain ⟨a, cap, rfl, _, _⟩ := hv
    clear hlx
    go_enter Try.func68, Try.ntmps68
    go_wp2_with fail
    refine Hlen.out.mono ?_; rintro e w1 ⟨rfl, hb1⟩
    go_wp2
    go_ret
    rw [Hx.out]
    exact ⟨rfl, hb1⟩
  | true =>
    have hlx : lenX l = ((ownP l).length : Nat) := by unfold lenX; rw [hz]; rfl
    rw [hlx] at Hlen
    have hln := ownP_len hz
    have hln0 := ownP_pos hz
    obtain ⟨a, cap, rfl, _, _⟩ := hv
    have hs := strOk_iff (l := l) (a := x) (b := y)
    have hsx : strOk l x y = (inB x 0 (((ownP l).length : Int) - 1) && inB y (x + 1) ((ownP l).length : Int)) := by
      rw [Bool.eq_iff_iff, hs, Bool.and_eq_true, inB_iff, inB_iff]
      constructor
      · intro h; omega
      · intro h; exact ⟨hz, by omega⟩
    have Hsx := Lib.hid hsx
    generalize (ownP l).length = n at *
    have hw1 : wrap64 ((n : Int) - 1) = (n : Int) - 1 := by unfold wrap64; omega
    clear hlx hs hsx hz
    cases h1 : inB x 0 ((n : Int) - 1) with
    | false =>
      rw [h1, Bool.false_and] at Hsx
      have H1 := Lib.hid h1; clear h1
      go_enter Try.func68, Try.ntmps68
      go_wp2_with fail
      refine Hlen.out.mono ?_; rintro e w1 ⟨rfl, hb1⟩
      go_wp2_with fail
      refine (l6In_any _ _ _ _).mono ?_; rintro e w1 ⟨rfl, rfl⟩; rw [H1.out]
      go_wp2
      go_ret
      rw [Hsx.out]
      exact ⟨rfl, hb1⟩
    | true =>
      rw [h1, Bool.true_and] at Hsx
      obtain ⟨x0, x1⟩ := (inB_iff _ _ _).1 h1
      have H1 := Lib.hid h1; clear h1
      have hw2 : wrap64 (x + 1) = x + 1 := by unfold wrap64; omega
      go_enter Try.func68, Try.ntmps68
      go_wp2_with fail
      refine Hlen.out.mono ?_; rintro e w1 ⟨rfl, hb1⟩
      have HB := Lib.hid hb1; clear hb1
      go_wp2_with fail
      refine (l6In_any _ _ _ _).mono ?_; rintro e w1 ⟨rfl, rfl⟩; rw [H1.out]
      go_wp2_with fail
      refine (l6In_any _ _ _ _).mono ?_; rintro e w1 ⟨rfl, rfl⟩
      rw [← Hsx.out]
      generalize strOk l x y = q at *
      cases q with
      | true =>
        go_wp2
        go_ret
        exact ⟨rfl, HB.out⟩
      | false =>
        go_wp2
        go_ret
        exact ⟨rfl, HB.out⟩

end Go.Proofs.Ythdkjjfnockldaa
