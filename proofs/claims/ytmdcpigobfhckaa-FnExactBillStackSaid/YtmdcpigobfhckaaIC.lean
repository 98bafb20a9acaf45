/- How an argument that is a slice of ints is opened. -/
import Derived.Test.YtmdcpigobfhckaaOC
import Derived.Test.YtmdcpigobfhckaaI
namespace Go.Proofs.Ytmdcpigobfhckaa
open Go.ChangeShapes Go.WideShapes Go.ChangeAt Go.RowKit Go.Deep

theorem open_intS {H : Type} {enc : TypeId × Value → H} {w : World} {base : Nat} {spare : Nat → Bool} {held : Bool} {a : Option Addr} {len cap : Nat} {d : DataW H} {p : List MemPlace}
    (h : DataW.Trod enc Try.prog w base spare held 29 (.slice a len cap) d p) (hfull : spare = fun _ => true) : ∃ l : List Int, IntsIn w (.slice a len cap) l ∧ IntWf l ∧ l.length = len ∧ l.length ≤ maxLen := by
  subst hfull
  obtain ⟨fuel, hf⟩ := h
  rcases open_ints Try.underlying29 Try.underlying3 (by kernel_rfl) hf with ⟨hcs, _⟩ | ⟨x, l, c, zs, hcs, _, hl, hm, hz, _, hcell, hwz⟩
  · simp [Value.cells] at hcs
    obtain ⟨rfl, rfl, rfl⟩ := hcs
    exact ⟨[], ⟨_, _, rfl, by simp, fun h => absurd rfl h⟩, (fun r hr => by cases hr), rfl, by simp⟩
  · simp [Value.cells] at hcs
    obtain ⟨rfl, rfl, rfl⟩ := hcs
    have hz' : zs.length = cap := by simpa using hz
    have hll : (zs.take len).length = len := by simp; omega
    refine ⟨zs.take len, ⟨some x, cap, by rw [hll], by rw [hll]; exact hl, fun hne => ?_⟩, fun y hy => wfI (hwz y (List.mem_of_mem_take hy)), hll, by rw [hll]; omega⟩
    have hpos : 0 < (zs.take len).length := by
      cases h : zs.take len with
      | nil => exact absurd h hne
      | cons => simp
    rw [hll] at hpos
    obtain ⟨b, o, sp⟩ := x
    have hq0 := hcell 0 (by omega)
    have hsp : sp = none := by simpa [Addr.add] using World.cell?_spot hq0
    subst hsp
    refine ⟨b, o, rfl, by have := World.block_lt_of_cell? _ _ hq0; simpa [Addr.add] using this, fun i hi => ?_⟩
    rw [hll] at hi
    have := hcell i (by omega)
    rw [addr_add] at this
    rw [this]
    simp [List.getD, hi]

end Go.Proofs.Ytmdcpigobfhckaa
