/- Draws: a town (l91Town). -/
import Derived.Test.YtmkcnoaphoiiaaaDK
namespace Go.Proofs.Ytmkcnoaphoiiaaa
open Go.RowKit

set_option maxRecDepth 100000 in
set_option maxHeartbeats 1000000 in
theorem town91_any (g : Nat) (l : List Int) (p : Nat) (n : Int) (w : World) (h : Reader w g l p) (hp : p ≤ 2000) (hn : 2 ≤ n) (hn6 : n ≤ 6) :
    Calls Try.prog 101 #[.pointer (some ⟨g, 0, none⟩), .int .i64 n] w fun e w' =>
      ∃ (x : Int) (p' : Nat), e = .returned (.int .i64 x) ∧ -1 ≤ x ∧ x ≤ 6 ∧ Reader w' g l p' ∧ p' ≤ p + 2 ∧ Touch (fun j => j = g) w w' := by
  have Hr0 := Lib.hid h; clear h
  go_enter Try.func101, Try.ntmps101
  go_wp2_with fail
  refine (pick_any g l p 24 _ Hr0.out (by omega) (by omega)).mono ?_; rintro e w1 ⟨⟨c, rfl, hc0, hc1⟩, hr1, hg1⟩
  have HT1 := Lib.hid (Touch.grown (S := fun j => j = g) hg1 rfl)
  have Hr1 := Lib.hid hr1
  clear hr1 hg1 hc1
  by_cases q : c = 0
  · subst q
    have hBz : Below w1.heap.size w1 (w1.alloc (.cells #[.int .i64 (-1), .int .i64 n] 3)) := (Below.refl _ _).alloc (Nat.le_refl _) _
    have Hr2 := Lib.hid (Hr1.out.belowB hBz Hr1.out.lt)
    have HT2 := Lib.hid (HT1.out.belowB (hBz.mono HT1.out.size))
    have hgz2 : g ≠ w1.heap.size := by have := Hr1.out.lt; omega
    clear hBz
    go_wp2_with fail
    refine (pick_any g l (p + 1) 2 _ Hr2.out (by omega) (by omega)).mono ?_; rintro e wy ⟨⟨d, rfl, hd0, hd1⟩, hry, hgy⟩
    have hd2 : d < 2 := by omega
    clear hd1
    have y0 : wy.cell? ⟨w1.heap.size, 0, none⟩ = some (.int .i64 (-1)) := (World.cell?_of_block (a := ⟨w1.heap.size, 0, none⟩) (hgy.block _ (by simp) (by intro e; injection e with e; exact hgz2 e.symm))).trans (by go_simp)
    have y1 : wy.cell? ⟨w1.heap.size, 1, none⟩ = some (.int .i64 n) := (World.cell?_of_block (a := ⟨w1.heap.size, 1, none⟩) (hgy.block _ (by simp) (by intro e; injection e with e; exact hgz2 e.symm))).trans (by go_simp)
    have HTy := Lib.hid (HT2.out.trans (Touch.grown hgy rfl))
    have Hry := Lib.hid hry
    clear hry hgy
    rcases (by omega : d = 0 ∨ d = 1) with rfl | rfl
    · go_wp2
      go_ret
      exact ⟨-1, _, rfl, by omega, by omega, Hry.out, by omega, HTy.out⟩
    · go_wp2
      go_ret
      exact ⟨n, _, rfl, by omega, by omega, Hry.out, by omega, HTy.out⟩
  · have hq : (c == 0) = false := by simpa using q
    have h1n : (1 : Int) < n := by omega
    have h1n' : ¬ n < 1 := by omega
    have h1n2 : (1 : Int) ≤ n := by omega
    clear q
    go_wp2_with fail
    refine (pick_any g l (p + 1) n _ Hr1.out (by omega) (by omega)).mono ?_; rintro e w2 ⟨⟨x, rfl, hx0, hx1⟩, hr2, hg2⟩
    have HT2 := Lib.hid (HT1.out.trans (Touch.grown hg2 rfl))
    have Hr2 := Lib.hid hr2
    have hx6 : x ≤ 6 := by omega
    clear hr2 hg2 hx1
    go_wp2
    go_ret
    exact ⟨x, _, rfl, by omega, hx6, Hr2.out, by omega, HT2.out⟩

end Go.Proofs.Ytmkcnoaphoiiaaa
