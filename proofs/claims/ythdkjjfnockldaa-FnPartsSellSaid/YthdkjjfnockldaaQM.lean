/- The program's PartsPlain, PartsSell, PartsTurn, PartsJoin. -/
import Derived.Test.YthdkjjfnockldaaQL
namespace Go.Proofs.Ythdkjjfnockldaa
open Go.RowKit

theorem PtOut.no {w w' : World} {g : Nat} (hg : w.heap.size ≤ g) (hl : g < w'.heap.size) (hb : Below w.heap.size w w') : PtOut [] false w (.returned (.tuple #[.slice (some ⟨g, 0, none⟩) 0 0, .bool false])) w' :=
  ⟨some ⟨g, 0, none⟩, 0, rfl, Nat.le_refl _, OwnPt.nil, fun j hj => by obtain ⟨o, ho⟩ := hj; cases ho; exact ⟨hg, hl⟩, hb⟩

set_option maxHeartbeats 400000 in
theorem plain2_any (v : Value) (l : List Pt) (w : World) (hv : PtIn w v l) (hm : l.length ≤ 1048576) :
    Calls Try.prog 24 #[v] w (PtOut (plainX l) (plainOk l) w) := by
  have Hval := Lib.hid (valid2_any v l w hv hm)
  cases hz : validP l with
  | false =>
    have ho : plainOk l = false := by unfold plainOk; rw [hz]; rfl
    have hx : plainX l = [] := by unfold plainX; rw [ho]; rfl
    have Hx := Lib.hid hx; clear hx
    have Ho := Lib.hid ho; clear ho
    rw [hz] at Hval
    clear hv
    go_enter Try.func24, Try.ntmps24
    go_wp2_with fail
    refine Hval.out.mono ?_; rintro e w1 ⟨rfl, hb1⟩
    have HB := Lib.hid hb1; clear hb1
    go_wp2
    go_ret2
    rw [Hx.out, Ho.out]
    exact PtOut.no HB.out.size (by simp) (HB.out.alloc HB.out.size _)
  | true =>
    have ho : plainOk l = validP (plainL (ownP l)) := by unfold plainOk; rw [hz]; rfl
    have hx : plainX l = ifP (plainL (ownP l)) := by unfold plainX ifP; rw [ho]
    have Hx := Lib.hid hx; clear hx
    have Ho := Lib.hid ho; clear ho
    rw [hz] at Hval
    obtain ⟨b, o, cap, rfl, _, hb, hl⟩ := hv.full hz
    have Hz := Lib.hid hz
    have hpl : (plainL (ownP l)).length ≤ 1048576 := by have := (plainL_bd (ownP l)).1; have := ownP_len hz; omega
    have Hpl := Lib.hid hpl; clear hpl hz
    go_enter Try.func24, Try.ntmps24
    go_wp2_with fail
    refine Hval.out.mono ?_; rintro e w1 ⟨rfl, hb1⟩
    have hb2 : b < w1.heap.size := Nat.lt_of_lt_of_le hb hb1.size
    have Hw := Lib.hid (plainM b o cap l w1 Hz.out hb2 (hl.below hb1 hb))
    have HB := Lib.hid hb1; clear hb1 hl
    go_wp2_with fail
    refine (milesOf_any _ _ _ _).mono ?_; rintro e w' ⟨rfl, rfl⟩
    go_wp2_with fail
    refine Hw.out.mono ?_; rintro e w2 ⟨ad, cp, rfl, hrow, hb3⟩
    have hsz := HB.out.size
    have hB2 := HB.out.trans ((((Below.refl w1.heap.size w1).alloc (Nat.le_refl _) _).trans (hb3.mono (Nat.le_succ _))).mono hsz)
    have Hif := Lib.hid (ifParts_any ad cp (w1.heap.size + 1) _ w w2 hrow (by omega) hB2 Hpl.out)
    clear hb3 hB2 hrow
    generalize hq : (plainL (ownP l)).length = n at *
    go_wp2_with fail
    refine Hif.out.mono ?_; rintro e w3 ⟨ad3, cp3, rfl, hcp, hown, hblk, hb4⟩
    have HR : Hid (PtOut (ifP (plainL (ownP l))) (validP (plainL (ownP l))) w (.returned (.tuple #[.slice ad3 (ifP (plainL (ownP l))).length cp3, .bool (validP (plainL (ownP l)))])) w3) := Lib.hid ⟨ad3, cp3, rfl, hcp, hown, hblk, hb4⟩
    clear hown hblk hb4
    generalize hi : (ifP (plainL (ownP l))).length = m at *
    generalize hj : validP (plainL (ownP l)) = ok at *
    go_wp2
    go_ret2
    rw [Hx.out, Ho.out]
    exact HR.out

/-- The four boxes of a sale. -/
def soldW (b o cap n : Nat) (x y z : Int) (w : World) : World := (((w.alloc (.cells #[.slice (some ⟨b, o, none⟩) n cap] 23)).alloc (.cells #[.int .i64 x] 3)).alloc (.cells #[.int .i64 y] 3)).alloc (.cells #[.int .i64 z] 3)
theorem soldW_size (b o cap n : Nat) (x y z : Int) (w : World) : (soldW b o cap n x y z w).heap.size = w.heap.size + 4 := by simp [soldW]
theorem soldW_below (b o cap n : Nat) (x y z : Int) (w : World) : Below w.heap.size w (soldW b o cap n x y z w) :=
  ((((Below.refl _ w).alloc (Nat.le_refl _) _).alloc (by simp) _).alloc (by simp; omega) _).alloc (by simp; omega) _
theorem soldW_cells (b o cap n : Nat) (x y z : Int) (w : World) : (soldW b o cap n x y z w).cell? ⟨w.heap.size, 0, none⟩ = some (.slice (some ⟨b, o, none⟩) n cap) ∧ (soldW b o cap n x y z w).cell? ⟨w.heap.size + 1, 0, none⟩ = some (.int .i64 x) ∧
    (soldW b o cap n x y z w).cell? ⟨w.heap.size + 2, 0, none⟩ = some (.int .i64 y) ∧ (soldW b o cap n x y z w).cell? ⟨w.heap.size + 3, 0, none⟩ = some (.int .i64 z) := by
  unfold soldW
  generalize h1 : w.alloc (.cells #[.slice (some ⟨b, o, none⟩) n cap] 23) = w1
  have s1 : w1.heap.size = w.heap.size + 1 := by rw [← h1]; simp
  have c1 : w1.cell? ⟨w.heap.size, 0, none⟩ = some (.slice (some ⟨b, o, none⟩) n cap) := by rw [← h1]; exact news1 w _ _ 0 _ rfl
  generalize h2 : w1.alloc (.cells #[.int .i64 x] 3) = w2
  have b2 : Below w1.heap.size w1 w2 := by rw [← h2]; exact (Below.refl _ _).alloc (Nat.le_refl _) _
  have s2 : w2.heap.size = w.heap.size + 2 := by rw [← h2]; simp; omega
  have c2 : w2.cell? ⟨w.heap.size + 1, 0, none⟩ = some (.int .i64 x) := by rw [← h2, ← s1]; exact news1 w1 _ _ 0 _ rfl
  generalize h3 : w2.alloc (.cells #[.int .i64 y] 3) = w3
  have b3 : Below w2.heap.size w2 w3 := by rw [← h3]; exact (Below.refl _ _).alloc (Nat.le_refl _) _
  have s3 : w3.heap.size = w.heap.size + 3 := by rw [← h3]; simp; omega
  have c3 : w3.cell? ⟨w.heap.size + 2, 0, none⟩ = some (.int .i64 y) := by rw [← h3, ← s2]; exact news1 w2 _ _ 0 _ rfl
  generalize h4 : w3.alloc (.cells #[.int .i64 z] 3) = w4
  have b4 : Below w3.heap.size w3 w4 := by rw [← h4]; exact (Below.refl _ _).alloc (Nat.le_refl _) _
  have c4 : w4.cell? ⟨w.heap.size + 3, 0, none⟩ = some (.int .i64 z) := by rw [← h4, ← s3]; exact news1 w3 _ _ 0 _ rfl
  exact ⟨(b4.cell (p := ⟨w.heap.size, 0, none⟩) (show w.heap.size < _ by omega)).trans ((b3.cell (p := ⟨w.heap.size, 0, none⟩) (show w.heap.size < _ by omega)).trans ((b2.cell (p := ⟨w.heap.size, 0, none⟩) (show w.heap.size < _ by omega)).trans c1)),
    (b4.cell (p := ⟨w.heap.size + 1, 0, none⟩) (show w.heap.size + 1 < _ by omega)).trans ((b3.cell (p := ⟨w.heap.size + 1, 0, none⟩) (show w.heap.size + 1 < _ by omega)).trans c2),
    (b4.cell (p := ⟨w.heap.size + 2, 0, none⟩) (show w.heap.size + 2 < _ by omega)).trans c3, c4⟩

theorem plainS (b o cap : Nat) (x y z : Int) (l : List Pt) (w : World) (hz : validP l = true) (hb : b < w.heap.size) (hl : PtAt w b o l) :
    Calls Try.prog 58 #[.func (.func 78) #[] #[.pointer (some ⟨w.heap.size, 0, none⟩), .pointer (some ⟨w.heap.size + 1, 0, none⟩), .pointer (some ⟨w.heap.size + 2, 0, none⟩), .pointer (some ⟨w.heap.size + 3, 0, none⟩)]] (soldW b o cap l.length x y z w)
      fun e w' => ∃ (ad : Option Addr) (cap2 : Nat), e = .returned (.slice ad (plainL (soldL l x y z)).length cap2) ∧ RowPt w' (w.heap.size + 4) (.slice ad (plainL (soldL l x y z)).length cap2) (plainL (soldL l x y z)) ∧ Below (w.heap.size + 4) (soldW b o cap l.length x y z w) w' := by
  obtain ⟨c0, c1, c2, c3⟩ := soldW_cells b o cap l.length x y z w
  have hs := soldW_size b o cap l.length x y z w
  have hc := sold_comes w.heap.size (w.heap.size + 1) (w.heap.size + 2) (w.heap.size + 3) b o cap x y z l (fun j => j < w.heap.size + 4) _ c0 c1 c2 c3 (by omega) (show w.heap.size + 1 < _ by omega) (show w.heap.size + 2 < _ by omega) (show w.heap.size + 3 < _ by omega) (show b < _ by omega)
    (fun j hj => by omega) hz (hl.below (soldW_below b o cap l.length x y z w) hb)
  have h := plain_any (soldAt (ownAt l) x y z) _ _ _ _ _ (enters_of Try.func78 (by kernel_rfl) rfl) hc (fun j hj => by omega) (by rw [List.length_range]; exact ownP_len hz)
  rw [hs] at h
  exact h

set_option maxHeartbeats 1000000 in
theorem sell2_any (v : Value) (l : List Pt) (x y z : Int) (w : World) (hv : PtIn w v l) (hm : l.length ≤ 1048576) :
    Calls Try.prog 27 #[v, .int .i64 x, .int .i64 y, .int .i64 z] w (PtOut (sellX l x y z) (sellOk l x y z) w) := by
  have Hstr := Lib.hid (stretch2_any v l x y w hv hm)
  cases hs : strOk l x y with
  | false =>
    have ho : sellOk l x y z = false := by unfold sellOk; rw [hs]; rfl
    have hx : sellX l x y z = [] := by unfold sellX; rw [ho]; rfl
    have Hx := Lib.hid hx; clear hx
    have Ho := Lib.hid ho; clear ho
    rw [hs] at Hstr
    obtain ⟨a, cap, rfl, _, _⟩ := hv
    go_enter Try.func27, Try.ntmps27
    go_wp2_with fail
    refine Hstr.out.mono ?_; rintro e w1 ⟨rfl, hb1⟩
    have HB := Lib.hid hb1; clear hb1
    go_wp2
    go_ret2
    rw [Hx.out, Ho.out]
    exact PtOut.no HB.out.size (by simp) (HB.out.alloc HB.out.size _)
  | true =>
    obtain ⟨hz, _, _, _⟩ := strOk_iff.1 hs
    rw [hs] at Hstr
    obtain ⟨b, o, cap, rfl, _, hb, hl⟩ := hv.full hz
    cases hw : okOw z with
    | false =>
      have ho : sellOk l x y z = false := by unfold sellOk; rw [hw, hs]; rfl
      have hx : sellX l x y z = [] := by unfold sellX; rw [ho]; rfl
      have Hx := Lib.hid hx; clear hx
      have Ho := Lib.hid ho; clear ho
      have Hw := Lib.hid hw; clear hw hs
      go_enter Try.func27, Try.ntmps27
      go_wp2_with fail
      refine Hstr.out.mono ?_; rintro e w1 ⟨rfl, hb1⟩
      have HB := Lib.hid hb1; clear hb1
      go_wp2_with fail
      refine (ownerFits_any _ _).mono ?_; rintro e w1 ⟨rfl, rfl⟩
      rw [Hw.out]
      go_wp2
      go_ret2
      rw [Hx.out, Ho.out]
      exact PtOut.no HB.out.size (by simp) (HB.out.alloc HB.out.size _)
    | true =>
      have ho : sellOk l x y z = validP (plainL (soldL l x y z)) := by unfold sellOk; rw [hw, hs]; rfl
      have hx : sellX l x y z = ifP (plainL (soldL l x y z)) := by unfold sellX ifP; rw [ho]
      have Hx := Lib.hid hx; clear hx
      have Ho := Lib.hid ho; clear ho
      have Hw := Lib.hid hw; clear hw hs
      have hpl : (plainL (soldL l x y z)).length ≤ 1048576 := by
        have := (plainL_bd (soldL l x y z)).1
        have h2 : (soldL l x y z).length = (ownP l).length := by simp [soldL]
        have := ownP_len hz; omega
      have Hpl := Lib.hid hpl
      have Hz := Lib.hid hz; clear hpl hz
      go_enter Try.func27, Try.ntmps27
      go_wp2_with fail
      refine Hstr.out.mono ?_; rintro e w1 ⟨rfl, hb1⟩
      have hb2 : b < w1.heap.size := Nat.lt_of_lt_of_le hb hb1.size
      have Hpw := Lib.hid (plainS b o cap x y z l w1 Hz.out hb2 (hl.below hb1 hb))
      have HB := Lib.hid hb1; clear hb1 hl
      go_wp2_with fail
      refine (ownerFits_any _ _).mono ?_; rintro e w1 ⟨rfl, rfl⟩
      rw [Hw.out]
      go_wp2_with fail
      refine (milesSold_any _ _ _ _ _ _ _).mono ?_; rintro e w' ⟨rfl, rfl⟩
      go_wp2_with fail
      refine Hpw.out.mono ?_; rintro e w2 ⟨ad, cp, rfl, hrow, hb3⟩
      have hsz := HB.out.size
      have hB2 := HB.out.trans (((soldW_below b o cap l.length x y z w1).trans (hb3.mono (by omega))).mono hsz)
      have Hif := Lib.hid (ifParts_any ad cp (w1.heap.size + 4) _ w w2 hrow (by omega) hB2 Hpl.out)
      clear hb3 hB2 hrow
      generalize hq : (plainL (soldL l x y z)).length = n at *
      go_wp2_with fail
      refine Hif.out.mono ?_; rintro e w3 ⟨ad3, cp3, rfl, hcp, hown, hblk, hb4⟩
      have HR : Hid (PtOut (ifP (plainL (soldL l x y z))) (validP (plainL (soldL l x y z))) w (.returned (.tuple #[.slice ad3 (ifP (plainL (soldL l x y z))).length cp3, .bool (validP (plainL (soldL l x y z)))])) w3) := Lib.hid ⟨ad3, cp3, rfl, hcp, hown, hblk, hb4⟩
      clear hown hblk hb4
      generalize hi : (ifP (plainL (soldL l x y z))).length = m at *
      generalize hj : validP (plainL (soldL l x y z)) = ok at *
      go_wp2
      go_ret2
      rw [Hx.out, Ho.out]
      exact HR.out

end Go.Proofs.Ythdkjjfnockldaa
