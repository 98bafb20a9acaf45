/- Draws: a delay (l92Delay). -/
import Derived.Test.YtmkcnoaphoiiaaaDC
namespace Go.Proofs.Ytmkcnoaphoiiaaa
open Go.RowKit

theorem lit_aftD {w w' : World} {g b : Nat} {k : Nat} {v : Value} (hg : w.grownBy w' (some g)) (hn : b ≠ g) (hc : w.cell? ⟨b, k, none⟩ = some v) (hb : b < w.heap.size) : w'.cell? ⟨b, k, none⟩ = some v := by
  rw [World.cell?_of_block (a := ⟨b, k, none⟩) (hg.block b hb (fun e => by injection e with e; exact hn e))]; exact hc
def lit3 : Nat → Int
  | 0 => -1
  | 1 => 300
  | _ => 301
theorem lit3_at (w : World) (k : Nat) (h : (k : Int) < 3) : (w.alloc (.cells #[.int .i64 (-1), .int .i64 300, .int .i64 301] 3)).cell? ⟨w.heap.size, k, none⟩ = some (.int .i64 (lit3 k)) := by
  rcases (show k = 0 ∨ k = 1 ∨ k = 2 by omega) with rfl | rfl | rfl <;> simp [lit3]
theorem lit3_bd (k : Nat) : (-1 : Int) ≤ lit3 k ∧ lit3 k ≤ 301 := by
  unfold lit3; split <;> omega

def DelOut (g : Nat) (l : List Int) (p : Nat) (w : World) (e : Ending) (w' : World) : Prop :=
  ∃ (t : Int) (p' : Nat), e = .returned (.int .i64 t) ∧ -1 ≤ t ∧ t ≤ 301 ∧ Reader w' g l p' ∧ p' ≤ p + 3 ∧ Touch (fun j => j = g) w w'

end Go.Proofs.Ytmkcnoaphoiiaaa
