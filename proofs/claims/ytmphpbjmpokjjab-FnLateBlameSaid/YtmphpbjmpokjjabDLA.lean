/- Draws: a delay (l92Delay). -/
import Derived.Test.YtmphpbjmpokjjabDC
namespace Go.Proofs.Ytmphpbjmpokjjab
open Go.RowKit

theorem lit_aftD {w w' : World} {g b : Nat} {k : Nat} {v : Value} (hg : w.grownBy w' (some g)) (hn : b ≠ g) (hc : w.cell? ⟨b, k, none⟩ = some v) (hb : b < w.heap.size) : w'.cell? ⟨b, k, none⟩ = some v := by
  rw [World.cell?_of_block (a := ⟨b, k, none⟩) (hg.block b hb (fun e => by injection e with e; exact hn e))]; exact hc
def lit3 : Nat → Int
  | 0 => -1
  | 1 => 300
  | _ => 301
theorem lit3_at (w : World) (k : Nat) (h : (k : Int) < 3) : (w.alloc (.cells #[.int .i64 (-1), .int .i64 300, .int .i64 301] 3)).cell? ⟨w.heap.size, k, none⟩ = some (.int .i64 (lit3 k)) := by
  rcases (show k = 0 ∨ k = 1 ∨ k = 2 by omega) with rfl | rfl | rfl <;> simp [lit3]
theorem lit3_bd (k : Nat) : (-1 : Int) ≤ lit3 k ∧ lit3 k ≤ 301 := by
  unfold lit3; split <;> omega

def DelOut (g : Nat) (l : List Int) (p : Nat) (w : World) (e : Ending) (w' : World) : Prop :=
  ∃ (t : Int) (p' : Nat), e = .returned (.int .i64 t) ∧ -1 ≤ t ∧ t ≤ 301 ∧ Reader w' g l p' ∧ p' ≤ p + 3 ∧ Touch (fun j => j = g) w w'

set_option maxRecDepth 100000 in
set_option maxHeartbeats 1000000 in
theorem delay92_any (g : Nat) (l : List Int) (p : Nat) (w : World) (h : Reader w g l p) (hp : p ≤ 900000) :
    Calls Try.prog 54 #[.pointer (some ⟨g, 0, none⟩)] w (DelOut g l p w) := by
  have H := Lib.hid h; clear h
  go_enter Try.func54, Try.ntmps54
  go_wp2_with fail
  refine (pick_any g l p 30 _ H.out (by omega) (by omega)).mono ?_; rintro e w1 ⟨⟨z, rfl, hz0, hz1⟩, hr1, hg1⟩
  have HT1 := Lib.hid (Touch.grown (S := fun j => j = g) hg1 rfl)
  have HR1 := Lib.hid hr1
  clear hr1 hg1 hz1
  by_cases q : z = 0
  · subst q
    have hgl := HR1.out.lt
    have HA := Lib.hid (show Below w1.heap.size w1 (w1.alloc (.cells #[.int .i64 (-1), .int .i64 300, .int .i64 301] 3)) from (Below.refl _ _).alloc (Nat.le_refl _) _)
    go_wp2_with fail
    refine (pick_any g l (p + 1) 3 _ (HR1.out.belowB HA.out hgl) (by omega) (by omega)).mono ?_; rintro e w2 ⟨⟨k, rfl, hk0, hk1⟩, hr2, hg2⟩
    obtain ⟨k, rfl⟩ : ∃ j : Nat, k = (j : Int) := ⟨k.toNat, by omega⟩
    have hk5 : (k : Int) < 3 := by omega
    have d := lit_aftD (b := w1.heap.size) (k := k) hg2 (Nat.ne_of_gt hgl) (lit3_at w1 k hk5) (by simp)
    have HT2 := Lib.hid ((HT1.out.belowB (HA.out.mono HT1.out.size)).trans (Touch.grown (S := fun j => j = g) hg2 rfl))
    have HR2 := Lib.hid hr2
    have Hb := Lib.hid (lit3_bd k)
    generalize lit3 k = y at *
    clear hr2 hg2 hk1
    go_wp2
    go_ret
    exact ⟨y, p + 1 + 1, rfl, Hb.out.1, Hb.out.2, HR2.out, by omega, HT2.out⟩
  · have q' : (z == 0) = false := by simpa using q
    go_wp2_with fail
    refine (pick_any g l (p + 1) 3 _ HR1.out (by omega) (by omega)).mono ?_; rintro e w2 ⟨⟨a, rfl, ha0, ha1⟩, hr2, hg2⟩
    have HT2 := Lib.hid (HT1.out.trans (Touch.grown (S := fun j => j = g) hg2 rfl))
    have HR2 := Lib.hid hr2
    clear hr2 hg2
    go_wp2_with fail
    refine (pick_any g l (p + 1 + 1) 20 _ HR2.out (by omega) (by omega)).mono ?_; rintro e w3 ⟨⟨b, rfl, hb0, hb1⟩, hr3, hg3⟩
    have HT3 := Lib.hid (HT2.out.trans (Touch.grown (S := fun j => j = g) hg3 rfl))
    have HR3 := Lib.hid hr3
    have hab : 0 ≤ a * b ∧ a * b ≤ 38 := by
      rcases (show a = 0 ∨ a = 1 ∨ a = 2 by omega) with rfl | rfl | rfl <;> omega
    obtain ⟨x, hx⟩ : ∃ x, a * b = x := ⟨_, rfl⟩
    rw [hx] at hab
    obtain ⟨x0, x1⟩ := hab
    have g1 : wrap64 (a * b) = x := by rw [hx]; unfold wrap64; omega
    have g2 : IntKind.i64.wrap (a * b) = x := by rw [hx]; exact IntWalk.i64_in _ (by omega)
    clear hr3 hg3 hx ha0 ha1 hb0 hb1 q
    go_wp2
    go_ret
    exact ⟨x, p + 1 + 1 + 1, rfl, by omega, by omega, HR3.out, by omega, HT3.out⟩

end Go.Proofs.Ytmphpbjmpokjjab
