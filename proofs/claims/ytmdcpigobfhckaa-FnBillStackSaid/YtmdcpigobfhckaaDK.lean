/- Draws: small common laws. -/
import Derived.Test.YtmdcpigobfhckaaDA
namespace Go.Proofs.Ytmdcpigobfhckaa
open Go.RowKit

/-- m numbers lie in w from ⟨b, 0⟩ on, free to write. -/
def IntRow (w : World) (b m : Nat) : Prop := (∀ j, j < m → ∃ z : Int, w.cell? ⟨b, j, none⟩ = some (.int .i64 z)) ∧ ∀ o, w.frozen? ⟨b, o, none⟩ = false

theorem IntRow.set {w : World} {b m : Nat} (h : IntRow w b m) (k : Nat) (z : Int) : IntRow (w.setCell ⟨b, k, none⟩ (.int .i64 z)) b m := by
  refine ⟨fun j hj => ?_, fun o => by rw [World.frozen?_setCell]; exact h.2 o⟩
  obtain ⟨u, hu⟩ := h.1 j hj
  by_cases e : k = j
  · subst e; exact ⟨z, World.cell?_setCell_same _ _ _ hu⟩
  · exact ⟨u, by rw [World.cell?_setCell_other _ _ _ _ (by intro e'; injection e' with _ e'; exact e e')]; exact hu⟩

theorem IntRow.touch {w w' : World} {b m : Nat} {S : Nat → Prop} (h : IntRow w b m) (ht : Touch S w w') (hS : ¬ S b) (hb : b < w.heap.size) : IntRow w' b m := by
  have hk := ht.block b hb hS
  exact ⟨fun j hj => by obtain ⟨z, hz⟩ := h.1 j hj; exact ⟨z, by rw [World.cell?_of_block (a := ⟨b, j, none⟩) hk]; exact hz⟩, fun o => by rw [World.frozen?_of_block (a := ⟨b, o, none⟩) hk]; exact h.2 o⟩

theorem wrap64_ok {x : Int} (h0 : -9223372036854775808 ≤ x) (h1 : x ≤ 9223372036854775807) : wrap64 x = x := by
  unfold wrap64
  omega

theorem Touch.belowB {S : Nat → Prop} {w w1 w2 : World} (h : Touch S w w1) (hb : Below w.heap.size w1 w2) : Touch S w w2 :=
  ⟨hb.os.trans h.os, hb.tape.trans h.tape, hb.output.trans h.output, Nat.le_trans h.size hb.size, fun j hj hs => (hb.block j hj).trans (h.block j hj hs)⟩

theorem Touch.setNew {S : Nat → Prop} {w w1 : World} (h : Touch S w w1) {b : Nat} (hb : w.heap.size ≤ b) (k : Nat) (v : Value) : Touch S w (w1.setCell ⟨b, k, none⟩ v) :=
  h.belowB ((Below.refl _ _).setCell hb _)

theorem Reader.setFar {w : World} {g : Nat} {l : List Int} {p : Nat} (h : Reader w g l p) {b : Nat} (hb : g < b) (k : Nat) (v : Value) : Reader (w.setCell ⟨b, k, none⟩ v) g l p :=
  h.belowB (B := b) (show Below b w (w.setCell ⟨b, k, none⟩ v) from (Below.refl b w).setCell (p := ⟨b, k, none⟩) (Nat.le_refl b) v) hb

end Go.Proofs.Ytmdcpigobfhckaa
