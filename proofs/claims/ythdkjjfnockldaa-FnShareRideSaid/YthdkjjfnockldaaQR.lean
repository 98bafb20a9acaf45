/- The program's ShareDue, ShareRide, ShareSettle. -/
import Derived.Test.YthdkjjfnockldaaQP
namespace Go.Proofs.Ythdkjjfnockldaa
open Go.RowKit

set_option maxHeartbeats 1000000 in
theorem dueS2_any (v : Value) (l : List Pt) (amt : Int) (w : World) (hv : PtIn w v l) (hm : l.length ≤ 1048576) :
    Calls Try.prog 41 #[v, .int .i64 amt] w (IntsOk (dueX l amt) (makeOk l amt) w) := by
  have Hval := Lib.hid (valid2_any v l w hv hm)
  cases hz : validP l with
  | false =>
    have ho : makeOk l amt = false := by unfold makeOk; rw [hz]; rfl
    have hx : dueX l amt = [] := by unfold dueX; rw [ho]; rfl
    have Hx := Lib.hid hx; clear hx
    have Ho := Lib.hid ho; clear ho
    rw [hz] at Hval
    obtain ⟨a, cap, rfl, _, _⟩ := hv
    go_enter Try.func41, Try.ntmps41
    go_wp2_with fail
    refine Hval.out.mono ?_; rintro e w1 ⟨rfl, hb1⟩
    have HB := Lib.hid hb1; clear hb1
    go_wp2
    go_ret2
    rw [Hx.out, Ho.out]
    exact IntsOk.no HB.out.size (by simp) (HB.out.alloc HB.out.size _)
  | true =>
    rw [hz] at Hval
    obtain ⟨b, o, cap, rfl, _, hb, hl⟩ := hv.full hz
    cases ha : okAm amt with
    | false =>
      have ho : makeOk l amt = false := by unfold makeOk; rw [hz, ha]; rfl
      have hx : dueX l amt = [] := by unfold dueX; rw [ho]; rfl
      have Hx := Lib.hid hx; clear hx
      have Ho := Lib.hid ho; clear ho
      have HA := Lib.hid ha; clear ha hz
      go_enter Try.func41, Try.ntmps41
      go_wp2_with fail
      refine Hval.out.mono ?_; rintro e w1 ⟨rfl, hb1⟩
      have HB := Lib.hid hb1; clear hb1
      go_wp2_with fail
      refine (amountFits_any _ _).mono ?_; rintro e w1 ⟨rfl, rfl⟩
      rw [HA.out]
      go_wp2
      go_ret2
      rw [Hx.out, Ho.out]
      exact IntsOk.no HB.out.size (by simp) (HB.out.alloc HB.out.size _)
    | true =>
      have ho : makeOk l amt = true := by unfold makeOk; rw [hz, ha]; rfl
      have hx : dueX l amt = dueL (cnt6 (ownP l)) amt := by unfold dueX; rw [ho]; rfl
      have Hx := Lib.hid hx; clear hx
      have Ho := Lib.hid ho; clear ho
      have HA := Lib.hid ha
      have Ham := Lib.hid (okAm_iff.1 ha); clear ha
      have Hps := Lib.hid (cntP_pos hz)
      have Hle := Lib.hid (cnt6_le (ownP l) (ownP_len hz))
      have Hz := Lib.hid hz; clear hz
      go_enter Try.func41, Try.ntmps41
      go_wp2_with fail
      refine Hval.out.mono ?_; rintro e w1 ⟨rfl, hb1⟩
      have Hw := Lib.hid (workedM b o cap l w1 Hz.out (Nat.lt_of_lt_of_le hb hb1.size) (hl.below hb1 hb))
      have HB := Lib.hid hb1; clear hb1 hl
      go_wp2_with fail
      refine (amountFits_any _ _).mono ?_; rintro e w1 ⟨rfl, rfl⟩
      rw [HA.out]
      go_wp2_with fail
      refine (milesOf_any _ _ _ _).mono ?_; rintro e w' ⟨rfl, rfl⟩
      go_wp2_with fail
      refine Hw.out.mono ?_; rintro e w2 ⟨ad, cp, rfl, hcp, hown, _, hb3⟩
      have hsz := HB.out.size
      have hB2 := HB.out.trans ((((Below.refl w1.heap.size w1).alloc (Nat.le_refl _) _).trans (hb3.mono (by simp))).mono hsz)
      have Hsh := Lib.hid (due2_any _ (cnt6 (ownP l)) amt w2 (hown.ints hcp) (by rw [cnt6_len]; omega) Hle.out Ham.out)
      have HB2 := Lib.hid hB2
      have Hlx := Lib.hid (show (dueX l amt).length = (cnt6 (ownP l)).length by rw [Hx.out, dueL_len])
      clear hown hb3 hB2 hcp
      generalize hn : (cnt6 (ownP l)).length = n at *
      go_wp2_with fail
      refine Hsh.out.mono ?_
      rintro e w3 ⟨ad3, cp3, rfl, hc3, ho3, hblk3, hb3⟩
      have HR : Hid (IntsOk (dueX l amt) true w (.returned (.tuple #[.slice ad3 n cp3, .bool true])) w3) := Lib.hid ⟨ad3, cp3, by rw [Hlx.out], by rw [Hlx.out]; exact hc3, by rw [Hx.out]; exact ho3, fun j hj => ⟨by have := (hblk3 j hj).1; have := HB2.out.size; omega, (hblk3 j hj).2⟩, HB2.out.trans (hb3.mono HB2.out.size)⟩
      clear hc3 ho3 hblk3 hb3
      go_wp2
      go_ret2
      rw [Ho.out]
      exact HR.out

/-- The three boxes of a ride. -/
def riddW (b o cap n : Nat) (x y : Int) (w : World) : World := ((w.alloc (.cells #[.slice (some ⟨b, o, none⟩) n cap] 23)).alloc (.cells #[.int .i64 x] 3)).alloc (.cells #[.int .i64 y] 3)
theorem riddW_size (b o cap n : Nat) (x y : Int) (w : World) : (riddW b o cap n x y w).heap.size = w.heap.size + 3 := by simp [riddW]
theorem riddW_below (b o cap n : Nat) (x y : Int) (w : World) : Below w.heap.size w (riddW b o cap n x y w) :=
  (((Below.refl _ w).alloc (Nat.le_refl _) _).alloc (by simp) _).alloc (by simp; omega) _
theorem riddW_cells (b o cap n : Nat) (x y : Int) (w : World) : (riddW b o cap n x y w).cell? ⟨w.heap.size, 0, none⟩ = some (.slice (some ⟨b, o, none⟩) n cap) ∧ (riddW b o cap n x y w).cell? ⟨w.heap.size + 1, 0, none⟩ = some (.int .i64 x) ∧
    (riddW b o cap n x y w).cell? ⟨w.heap.size + 2, 0, none⟩ = some (.int .i64 y) := by
  unfold riddW
  generalize h1 : w.alloc (.cells #[.slice (some ⟨b, o, none⟩) n cap] 23) = w1
  have s1 : w1.heap.size = w.heap.size + 1 := by rw [← h1]; simp
  have c1 : w1.cell? ⟨w.heap.size, 0, none⟩ = some (.slice (some ⟨b, o, none⟩) n cap) := by rw [← h1]; exact news1 w _ _ 0 _ rfl
  generalize h2 : w1.alloc (.cells #[.int .i64 x] 3) = w2
  have b2 : Below w1.heap.size w1 w2 := by rw [← h2]; exact (Below.refl _ _).alloc (Nat.le_refl _) _
  have s2 : w2.heap.size = w.heap.size + 2 := by rw [← h2]; simp; omega
  have c2 : w2.cell? ⟨w.heap.size + 1, 0, none⟩ = some (.int .i64 x) := by rw [← h2, ← s1]; exact news1 w1 _ _ 0 _ rfl
  generalize h3 : w2.alloc (.cells #[.int .i64 y] 3) = w3
  have b3 : Below w2.heap.size w2 w3 := by rw [← h3]; exact (Below.refl _ _).alloc (Nat.le_refl _) _
  have c3 : w3.cell? ⟨w.heap.size + 2, 0, none⟩ = some (.int .i64 y) := by rw [← h3, ← s2]; exact news1 w2 _ _ 0 _ rfl
  exact ⟨(b3.cell (p := ⟨w.heap.size, 0, none⟩) (show w.heap.size < _ by omega)).trans ((b2.cell (p := ⟨w.heap.size, 0, none⟩) (show w.heap.size < _ by omega)).trans c1),
    (b3.cell (p := ⟨w.heap.size + 1, 0, none⟩) (show w.heap.size + 1 < _ by omega)).trans c2, c3⟩

theorem workedR (b o cap : Nat) (x y : Int) (l : List Pt) (w : World) (hz : validP l = true) (hb : b < w.heap.size) (hl : PtAt w b o l) :
    Calls Try.prog 50 #[.func (.func 81) #[] #[.pointer (some ⟨w.heap.size, 0, none⟩), .pointer (some ⟨w.heap.size + 1, 0, none⟩), .pointer (some ⟨w.heap.size + 2, 0, none⟩)]] (riddW b o cap l.length x y w)
      (IntsOne (cnt6 (rideL l x y)) (riddW b o cap l.length x y w)) := by
  obtain ⟨c0, c1, c2⟩ := riddW_cells b o cap l.length x y w
  have hs := riddW_size b o cap l.length x y w
  have hc := ridden_comes w.heap.size (w.heap.size + 1) (w.heap.size + 2) b o cap x y l (fun j => j < w.heap.size + 3) _ c0 c1 c2 (by omega) (show w.heap.size + 1 < _ by omega) (show w.heap.size + 2 < _ by omega) (show b < _ by omega)
    (fun j hj => by omega) hz (hl.below (riddW_below b o cap l.length x y w) hb)
  exact worked_any (ownAt l) (ownAt_ok hz) _ _ _ _ _ (enters_of Try.func81 (by kernel_rfl) rfl) hc (fun j hj => by omega)
    (by have := List.length_filter_le (inS x y) (List.range (ownP l).length); rw [List.length_range] at this; have := ownP_len hz; omega)

set_option maxHeartbeats 1000000 in
theorem ride2_any (v : Value) (l : List Pt) (x y amt : Int) (w : World) (hv : PtIn w v l) (hm : l.length ≤ 1048576) :
    Calls Try.prog 45 #[v, .int .i64 x, .int .i64 y, .int .i64 amt] w (IntsOk (riddX l x y amt) (rideOk l x y amt) w) := by
  have Hval := Lib.hid (stretch2_any v l x y w hv hm)
  cases hz : strOk l x y with
  | false =>
    have ho : rideOk l x y amt = false := by unfold rideOk; rw [hz]; rfl
    have hx : riddX l x y amt = [] := by unfold riddX; rw [ho]; rfl
    have Hx := Lib.hid hx; clear hx
    have Ho := Lib.hid ho; clear ho
    rw [hz] at Hval
    obtain ⟨a, cap, rfl, _, _⟩ := hv
    go_enter Try.func45, Try.ntmps45
    go_wp2_with fail
    refine Hval.out.mono ?_; rintro e w1 ⟨rfl, hb1⟩
    have HB := Lib.hid hb1; clear hb1
    go_wp2
    go_ret2
    rw [Hx.out, Ho.out]
    exact IntsOk.no HB.out.size (by simp) (HB.out.alloc HB.out.size _)
  | true =>
    rw [hz] at Hval
    have hz1 := (strOk_iff.1 hz).1
    obtain ⟨b, o, cap, rfl, _, hb, hl⟩ := hv.full hz1
    cases ha : okAm amt with
    | false =>
      have ho : rideOk l x y amt = false := by unfold rideOk; rw [hz, ha]; rfl
      have hx : riddX l x y amt = [] := by unfold riddX; rw [ho]; rfl
      have Hx := Lib.hid hx; clear hx
      have Ho := Lib.hid ho; clear ho
      have HA := Lib.hid ha; clear ha hz
      go_enter Try.func45, Try.ntmps45
      go_wp2_with fail
      refine Hval.out.mono ?_; rintro e w1 ⟨rfl, hb1⟩
      have HB := Lib.hid hb1; clear hb1
      go_wp2_with fail
      refine (amountFits_any _ _).mono ?_; rintro e w1 ⟨rfl, rfl⟩
      rw [HA.out]
      go_wp2
      go_ret2
      rw [Hx.out, Ho.out]
      exact IntsOk.no HB.out.size (by simp) (HB.out.alloc HB.out.size _)
    | true =>
      have ho : rideOk l x y amt = true := by unfold rideOk; rw [hz, ha]; rfl
      have hx : riddX l x y amt = shareL (cnt6 (rideL l x y)) amt := by unfold riddX; rw [ho]; rfl
      have Hx := Lib.hid hx; clear hx
      have Ho := Lib.hid ho; clear ho
      have HA := Lib.hid ha
      have Ham := Lib.hid (okAm_iff.1 ha); clear ha
      have Hps := Lib.hid (rideL_pos hz)
      have Hle := Lib.hid (cnt6_le (rideL l x y) (rideL_len hz1))
      have Hz := Lib.hid hz1; clear hz hz1
      go_enter Try.func45, Try.ntmps45
      go_wp2_with fail
      refine Hval.out.mono ?_; rintro e w1 ⟨rfl, hb1⟩
      have Hw := Lib.hid (workedR b o cap x y l w1 Hz.out (Nat.lt_of_lt_of_le hb hb1.size) (hl.below hb1 hb))
      have HB := Lib.hid hb1; clear hb1 hl
      go_wp2_with fail
      refine (amountFits_any _ _).mono ?_; rintro e w1 ⟨rfl, rfl⟩
      rw [HA.out]
      go_wp2_with fail
      refine (milesRidden_any _ _ _ _ _ _).mono ?_; rintro e w' ⟨rfl, rfl⟩
      go_wp2_with fail
      refine Hw.out.mono ?_; rintro e w2 ⟨ad, cp, rfl, hcp, hown, _, hb3⟩
      have hsz := HB.out.size
      have hB2 := HB.out.trans (((riddW_below b o cap l.length x y w1).trans (hb3.mono (by rw [riddW_size]; omega))).mono hsz)
      have Hsh := Lib.hid (shares_any _ (cnt6 (rideL l x y)) amt w2 (hown.ints hcp) (by rw [cnt6_len]; omega) Hle.out Ham.out Hps.out)
      have HB2 := Lib.hid hB2
      clear hown hb3 hB2 hcp
      generalize hn : (cnt6 (rideL l x y)).length = n at *
      go_wp2_with fail
      refine Hsh.out.mono ?_
      intro e w3 h3
      obtain ⟨ad3, cp3, rfl, hR⟩ := IntsOne.ok (ok := true) h3 HB2.out Hx.out
      have HR := Lib.hid hR; clear h3 hR
      generalize hm2 : (riddX l x y amt).length = m2 at *
      go_wp2
      go_ret2
      rw [Ho.out]
      exact HR.out

end Go.Proofs.Ythdkjjfnockldaa
