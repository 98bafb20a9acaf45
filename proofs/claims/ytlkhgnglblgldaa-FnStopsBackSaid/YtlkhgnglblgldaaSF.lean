/- StopsAt: program and model. -/
import Derived.Test.YtlkhgnglblgldaaSC
import Derived.Test.YtlkhgnglblgldaaSD
namespace Go.Proofs.Ytlkhgnglblgldaa
open Go.RowKit

theorem atS_some {l : List Rd} {t : Int} {k : Nat} (hk : k < l.length) (hn : newS l k t = true) (ht : (l.getD k rd0).a = t) : atS l t = some k := by
  unfold atS
  rw [List.findIdx?_eq_some_iff_getElem]
  rw [newS_iff] at hn
  refine ⟨hk, by rw [getD_eq l hk] at ht; simpa using ht, fun j hj => ?_⟩
  have := hn j hj
  rw [getD_eq l (by omega)] at this
  simpa using this

theorem atS_none {l : List Rd} {t : Int} (hn : newS l l.length t = true) : atS l t = none := by
  unfold atS
  rw [List.findIdx?_eq_none_iff]
  rw [newS_iff] at hn
  intro x hx
  obtain ⟨i, hi, rfl⟩ := List.getElem_of_mem hx
  have := hn i hi
  rw [getD_eq l hi] at this
  simpa using this

def atV (l : List Rd) (t : Int) : Int := match atS l t with | some i => (i : Int) | none => -1
theorem atV_some {l : List Rd} {t : Int} {k : Nat} (hk : k < l.length) (hn : newS l k t = true) (ht : (l.getD k rd0).a = t) : atV l t = k := by
  unfold atV; rw [atS_some hk hn ht]
theorem atV_none {l : List Rd} {t : Int} (hn : newS l l.length t = true) : atV l t = -1 := by
  unfold atV; rw [atS_none hn]

def stopsAtV (n : Int) (l : List Rd) (t : Int) : Int := if validS n l = true then atV l t else -1

def AtRel (l : List Rd) (t : Int) (w : World) (i : Value) (wr : World) : Prop := ∃ k : Nat, k ≤ l.length ∧ i = .int .i64 k ∧ newS l k t = true ∧ wr = w

end Go.Proofs.Ytlkhgnglblgldaa
