/- Rows of numbers that a function gives. -/
import Derived.Test.YtmdcpigobfhckaaIZ
namespace Go.Proofs.Ytmdcpigobfhckaa
open Go.RowKit

theorem IntsOk.no {w w' : World} {g : Nat} (hg : w.heap.size ≤ g) (hl : g < w'.heap.size) (hb : Below w.heap.size w w') : IntsOk [] false w (.returned (.tuple #[.slice (some ⟨g, 0, none⟩) 0 0, .bool false])) w' :=
  ⟨some ⟨g, 0, none⟩, 0, rfl, Nat.le_refl _, fun h => absurd rfl h, fun j hj => by obtain ⟨o, ho⟩ := hj; cases ho; exact ⟨hg, hl⟩, hb⟩
theorem IntsOk.row {w wr : World} {B : Nat} {u : Value} {xs : List Int} (ok : Bool) (h : RowI wr B u xs) (hB : w.heap.size ≤ B) (hb : Below w.heap.size w wr) : IntsOk xs ok w (.returned (.tuple #[u, .bool ok])) wr := by
  obtain ⟨ad, cap, rfl, hc, ho, hin⟩ := h.row
  exact ⟨ad, cap, rfl, hc, ho, fun j hj => ⟨by have := (hin j hj).1; omega, (hin j hj).2⟩, hb⟩
/-- A row of numbers of the call's own, alone. -/
def IntsOne (xs : List Int) (w : World) (e : Ending) (w' : World) : Prop :=
  ∃ (ad : Option Addr) (cap : Nat), e = .returned (.slice ad xs.length cap) ∧ xs.length ≤ cap ∧ OwnI w' ad xs ∧ (∀ j, inBlk ad j → w.heap.size ≤ j ∧ j < w'.heap.size) ∧ Below w.heap.size w w'
theorem IntsOne.row {w wr : World} {B : Nat} {u : Value} {xs : List Int} (h : RowI wr B u xs) (hB : w.heap.size ≤ B) (hb : Below w.heap.size w wr) : IntsOne xs w (.returned u) wr := by
  obtain ⟨ad, cap, rfl, hc, ho, hin⟩ := h.row
  exact ⟨ad, cap, rfl, hc, ho, fun j hj => ⟨by have := (hin j hj).1; omega, (hin j hj).2⟩, hb⟩

end Go.Proofs.Ytmdcpigobfhckaa
