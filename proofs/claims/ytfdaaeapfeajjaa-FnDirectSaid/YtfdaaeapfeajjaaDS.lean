/- Draws: towns, roads and two towns (l91Town, l91Two), what the laws draw of them. -/
import Derived.Test.YtfdaaeapfeajjaaDR
namespace Go.Proofs.Ytfdaaeapfeajjaa
open Go.RowKit

set_option maxRecDepth 100000 in
set_option maxHeartbeats 1000000 in
theorem town91_any (g : Nat) (l : List Int) (p : Nat) (n : Int) (w : World) (h : Reader w g l p) (hp : p ≤ 2000) (hn : 2 ≤ n) (hn6 : n ≤ 6) :
    Calls Try.prog 49 #[.pointer (some ⟨g, 0, none⟩), .int .i64 n] w fun e w' =>
      ∃ (x : Int) (p' : Nat), e = .returned (.int .i64 x) ∧ -1 ≤ x ∧ x ≤ 6 ∧ Reader w' g l p' ∧ p' ≤ p + 2 ∧ Touch (fun j => j = g) w w' := by
  have Hr0 := Lib.hid h; clear h
  go_enter Try.func49, Try.ntmps49
  go_wp2_with fail
  refine (pick_any g l p 24 _ Hr0.out (by omega) (by omega)).mono ?_; rintro e w1 ⟨⟨c, rfl, hc0, hc1⟩, hr1, hg1⟩
  have HT1 := Lib.hid (Touch.grown (S := fun j => j = g) hg1 rfl)
  have Hr1 := Lib.hid hr1
  clear hr1 hg1 hc1
  by_cases q : c = 0
  · subst q
    have hBz : Below w1.heap.size w1 (w1.alloc (.cells #[.int .i64 (-1), .int .i64 n] 3)) := (Below.refl _ _).alloc (Nat.le_refl _) _
    have Hr2 := Lib.hid (Hr1.out.belowB hBz Hr1.out.lt)
    have HT2 := Lib.hid (HT1.out.belowB (hBz.mono HT1.out.size))
    have hgz2 : g ≠ w1.heap.size := by have := Hr1.out.lt; omega
    clear hBz
    go_wp2_with fail
    refine (pick_any g l (p + 1) 2 _ Hr2.out (by omega) (by omega)).mono ?_; rintro e wy ⟨⟨d, rfl, hd0, hd1⟩, hry, hgy⟩
    have hd2 : d < 2 := by omega
    clear hd1
    have y0 : wy.cell? ⟨w1.heap.size, 0, none⟩ = some (.int .i64 (-1)) := (World.cell?_of_block (a := ⟨w1.heap.size, 0, none⟩) (hgy.block _ (by simp) (by intro e; injection e with e; exact hgz2 e.symm))).trans (by go_simp)
    have y1 : wy.cell? ⟨w1.heap.size, 1, none⟩ = some (.int .i64 n) := (World.cell?_of_block (a := ⟨w1.heap.size, 1, none⟩) (hgy.block _ (by simp) (by intro e; injection e with e; exact hgz2 e.symm))).trans (by go_simp)
    have HTy := Lib.hid (HT2.out.trans (Touch.grown hgy rfl))
    have Hry := Lib.hid hry
    clear hry hgy
    rcases (by omega : d = 0 ∨ d = 1) with rfl | rfl
    · go_wp2
      go_ret
      exact ⟨-1, _, rfl, by omega, by omega, Hry.out, by omega, HTy.out⟩
    · go_wp2
      go_ret
      exact ⟨n, _, rfl, by omega, by omega, Hry.out, by omega, HTy.out⟩
  · have hq : (c == 0) = false := by simpa using q
    have h1n : (1 : Int) < n := by omega
    have h1n' : ¬ n < 1 := by omega
    have h1n2 : (1 : Int) ≤ n := by omega
    clear q
    go_wp2_with fail
    refine (pick_any g l (p + 1) n _ Hr1.out (by omega) (by omega)).mono ?_; rintro e w2 ⟨⟨x, rfl, hx0, hx1⟩, hr2, hg2⟩
    have HT2 := Lib.hid (HT1.out.trans (Touch.grown hg2 rfl))
    have Hr2 := Lib.hid hr2
    have hx6 : x ≤ 6 := by omega
    clear hr2 hg2 hx1
    go_wp2
    go_ret
    exact ⟨x, _, rfl, by omega, hx6, Hr2.out, by omega, HT2.out⟩

/-- What roads and two towns are. -/
def DrawnTwo (g : Nat) (l : List Int) (w : World) (e : Ending) (w' : World) : Prop :=
  ∃ (n : Int) (ad : Option Addr) (cap : Nat) (xs : List Rd) (a b : Int), e = .returned (.tuple #[.int .i64 n, .slice ad xs.length cap, .int .i64 a, .int .i64 b]) ∧ 2 ≤ n ∧ n ≤ 6 ∧ xs.length ≤ cap ∧ xs.length ≤ 11 ∧ RdB xs ∧ -1000 ≤ a ∧ a ≤ 1000 ∧ -1000 ≤ b ∧ b ≤ 1000 ∧ OwnRz w' ad xs ∧
    (∀ j, inBlk ad j → w.heap.size ≤ j ∧ j < w'.heap.size) ∧ Touch (fun j => j = g) w w'

set_option maxRecDepth 100000 in
set_option maxHeartbeats 1000000 in
theorem two91_any (g : Nat) (l : List Int) (w : World) (h : Reader w g l 0) :
    Calls Try.prog 53 #[.pointer (some ⟨g, 0, none⟩)] w (DrawnTwo g l w) := by
  have hgl := h.lt
  have Hr0 := Lib.hid h; clear h
  go_enter Try.func53, Try.ntmps53
  go_wp2_with fail
  refine (roads91_any g l 0 _ Hr0.out (by omega)).mono ?_; rintro e w1 ⟨n, ad, cap, xs, p1, rfl, hn2, hn6, hcap, h11, hbd, hown, hblk, hr1, hp1, ht1, _⟩
  have Hr1 := Lib.hid hr1; have HT1 := Lib.hid ht1; have HO := Lib.hid hown; have HB := Lib.hid hblk; have Hbd := Lib.hid hbd; have Hcap := Lib.hid hcap
  clear hr1 ht1 hown hblk hbd hcap
  have Hkeep := Lib.hid (show ∀ w2, Touch (fun j => j = g) w1 w2 → OwnRz w2 ad xs ∧ ∀ j, inBlk ad j → w.heap.size ≤ j ∧ j < w2.heap.size from fun w2 ht => ⟨HO.out.touch ht (fun j hj e => by have := (HB.out j hj).1; omega), fun j hj => ⟨(HB.out j hj).1, Nat.lt_of_lt_of_le (HB.out j hj).2 ht.size⟩⟩)
  have Hother := Lib.hid (show ∀ w2 (p2 : Nat), p2 ≤ 200 → Reader w2 g l p2 → Touch (fun j => j = g) w1 w2 → True from fun _ _ _ _ _ => trivial)
  by_cases h0 : 0 < xs.length
  · have hpos : ((xs.length : Nat) : Int) > 0 := by omega
    go_wp2_with fail
    refine (pick_any g l p1 3 _ Hr1.out (by omega) (by omega)).mono ?_; rintro e w2 ⟨⟨c, rfl, hc0, hc1⟩, hr2, hg2⟩
    have ht2 := Touch.grown (S := fun j => j = g) hg2 rfl
    have Hr2 := Lib.hid hr2; have HT2 := Lib.hid ht2; have HO2 := Lib.hid (Hkeep.out _ ht2)
    clear hr2 hg2 ht2 hc1
    by_cases q : c = 0
    · subst q
      go_wp2_with fail
      refine (pick_any g l (p1 + 1) (xs.length : Int) _ Hr2.out (by omega) (by omega)).mono ?_; rintro e w3 ⟨⟨d, rfl, hd0, hd1⟩, hr3, hg3⟩
      obtain ⟨k, rfl⟩ : ∃ k : Nat, d = (k : Int) := ⟨d.toNat, by omega⟩
      have hk : k < xs.length := by omega
      have hk' : (k : Int) < (xs.length : Int) := by omega
      have ht3 := HT2.out.trans (Touch.grown (S := fun j => j = g) hg3 rfl)
      have hO3 := Hkeep.out _ ht3
      obtain ⟨b, rfl, hb, hat, _⟩ := hO3.1 (by rintro rfl; simp at h0)
      obtain ⟨c0, c1, c2⟩ := hat k hk
      rw [Nat.zero_add] at c0 c1 c2
      have hbk := Hbd.out _ (List.getElem_mem hk)
      rw [← getD_eq xs hk] at hbk
      have HT3 := Lib.hid ht3; have HO3 := Lib.hid hO3
      clear hd1 hr3 hg3 ht3 hO3 hat
      have HBn := Lib.hid (show Below w3.heap.size w3 (w3.alloc (.cells #[.int .i64 (xs.getD k rd0).a, .int .i64 (xs.getD k rd0).b, .int .i64 (xs.getD k rd0).m] 50)) from (Below.refl _ _).alloc (Nat.le_refl _) _)
      have Hb1 := Lib.hid hbk
      clear hbk
      have hbk := Hb1.out
      generalize (xs.getD k rd0).a = ra at *
      generalize (xs.getD k rd0).b = rb at *
      generalize (xs.getD k rd0).m = rm at *
      go_wp2
      go_quiet (fail)
      go_wp2
      refine bodyPost_ret (v := .tuple #[.int .i64 n, .slice (some ⟨b, 0, none⟩) xs.length cap, .int .i64 rb, .int .i64 ra]) (by simp [results, Try.results53, go_sem]) rfl ?_
      have hT4 : Touch (fun j => j = g) w1 ((w3.alloc (.cells #[.int .i64 ra, .int .i64 rb, .int .i64 rm] 50)).drewN nq) := HT3.out.trans (Touch.of_below (HBn.out.drewN nq))
      exact ⟨n, _, cap, xs, rb, ra, rfl, hn2, hn6, Hcap.out, h11, Hbd.out, by omega, by omega, by omega, by omega, (Hkeep.out _ hT4).1, (Hkeep.out _ hT4).2, HT1.out.trans hT4⟩
    · have hq : (c == 0) = false := by simpa using q
      clear q
      go_wp2_with fail
      refine (town91_any g l (p1 + 1) n _ Hr2.out (by omega) hn2 hn6).mono ?_; rintro e w3 ⟨x, p3, rfl, hx0, hx1, hr3, hp3, ht3⟩
      have Hr3 := Lib.hid hr3; have HT3 := Lib.hid (HT2.out.trans ht3)
      clear hr3 ht3
      go_wp2_with fail
      refine (town91_any g l p3 n _ Hr3.out (by omega) hn2 hn6).mono ?_; rintro e w4 ⟨y, p4, rfl, hy0, hy1, hr4, hp4, ht4⟩
      have HT4 := Lib.hid (HT3.out.trans ht4)
      clear hr4 ht4
      go_wp2
      refine bodyPost_ret (v := .tuple #[.int .i64 n, .slice ad xs.length cap, .int .i64 x, .int .i64 y]) (by simp [results, Try.results53, go_sem]) rfl ?_
      exact ⟨n, _, cap, xs, x, y, rfl, hn2, hn6, Hcap.out, h11, Hbd.out, by omega, by omega, by omega, by omega, (Hkeep.out _ HT4.out).1, (Hkeep.out _ HT4.out).2, HT1.out.trans HT4.out⟩
  · have hnp : ¬ 0 < xs.length := h0
    go_wp2_with fail
    refine (town91_any g l p1 n _ Hr1.out (by omega) hn2 hn6).mono ?_; rintro e w3 ⟨x, p3, rfl, hx0, hx1, hr3, hp3, ht3⟩
    have Hr3 := Lib.hid hr3; have HT3 := Lib.hid ht3
    clear hr3 ht3
    go_wp2_with fail
    refine (town91_any g l p3 n _ Hr3.out (by omega) hn2 hn6).mono ?_; rintro e w4 ⟨y, p4, rfl, hy0, hy1, hr4, hp4, ht4⟩
    have HT4 := Lib.hid (HT3.out.trans ht4)
    clear hr4 ht4
    go_wp2
    refine bodyPost_ret (v := .tuple #[.int .i64 n, .slice ad xs.length cap, .int .i64 x, .int .i64 y]) (by simp [results, Try.results53, go_sem]) rfl ?_
    exact ⟨n, _, cap, xs, x, y, rfl, hn2, hn6, Hcap.out, h11, Hbd.out, by omega, by omega, by omega, by omega, (Hkeep.out _ HT4.out).1, (Hkeep.out _ HT4.out).2, HT1.out.trans HT4.out⟩

/-- What is drawn, for a law: roads and two towns. -/
def DrawnR2 (w : World) (e : Ending) (w' : World) : Prop :=
  ∃ (n : Int) (ad : Option Addr) (cap : Nat) (xs : List Rd) (a b : Int), e = .returned (.tuple #[.int .i64 n, .slice ad xs.length cap, .int .i64 a, .int .i64 b]) ∧ 2 ≤ n ∧ n ≤ 6 ∧ xs.length ≤ cap ∧ xs.length ≤ 11 ∧ RdB xs ∧ -1000 ≤ a ∧ a ≤ 1000 ∧ -1000 ≤ b ∧ b ≤ 1000 ∧ OwnRz w' ad xs ∧ (∀ j, inBlk ad j → w.heap.size ≤ j ∧ j < w'.heap.size) ∧ Below w.heap.size w w'

end Go.Proofs.Ytfdaaeapfeajjaa
