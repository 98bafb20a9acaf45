/- Copies of a list of numbers by append, with a number set. -/
import Derived.Test.YtmphpbjmpokjjabICL
namespace Go.Proofs.Ytmphpbjmpokjjab
open Go.RowKit

/-- A copy in a block of its own: where it lies, that nothing elder has changed, and its numbers. -/
theorem copied {w3 w5 : World} {ds : List Int} {m n' : Nat} {v0 v5 : Value} {xs : List Value} (hown : (w3.alloc (.cells #[] 3)).ownsRow w3.heap.size 3 1 v0 n' xs) (hb : Below w3.heap.size w3 (w3.alloc (.cells #[] 3))) (hm : ds.length = m + 1)
    {n5 : Nat} {xs5 : List Value} (h5 : w5.ownsRow w3.heap.size 3 1 v5 n5 xs5) (hn5 : n5 = m + 1) (hx5 : xs5 = ds.map (Value.int .i64)) (hg : (w3.alloc (.cells #[] 3)).grownBy w5 v0.ownBlock) :
    ∃ g cp, v5 = .slice (some ⟨g, 0, none⟩) (m + 1) cp ∧ (w3.heap.size ≤ g ∧ g < w5.heap.size ∧ m + 1 ≤ cp) ∧ Below w3.heap.size w3 w5 ∧ RowI w5 w3.heap.size (.slice (some ⟨g, 0, none⟩) (m + 1) cp) ds ∧
      (∀ j, j < m + 1 → w5.cell? ⟨g, j, none⟩ = some (.int .i64 (ds.getD j 0))) ∧ ∀ j, w5.frozen? ⟨g, j, none⟩ = false := by
  have hrow : RowI w5 w3.heap.size v5 ds := by unfold RowI; rw [hm, ← hx5, ← hn5]; exact h5
  obtain ⟨g, cp, rfl, hcp, hat, hroom, hgB, hgl⟩ := hrow.open2 (by omega)
  refine ⟨g, cp, by rw [hm], ⟨hgB, hgl, by omega⟩, hb.grown hg (by simp) (fun q hq => (hown.lt q hq).1), by rw [← hm]; exact hrow, fun j hj => ?_, fun j => hroom.2 j⟩
  have := hat j (by omega)
  rwa [Nat.zero_add] at this
theorem made_after (w5 : World) (a : Addr) (u : Value) : ((w5.setCell a u).alloc (.cells #[] 3)).ownsRow w5.heap.size 3 1 (.slice (some ⟨w5.heap.size, 0, none⟩) 0 0) 0 [] := by
  have h := RowI.made (w5.setCell a u) w5.heap.size (by simp)
  unfold RowI at h
  rw [show (w5.setCell a u).heap.size = w5.heap.size by simp] at h
  exact h
theorem news_after {w3 w5 : World} {b o g cp m : Nat} {ds : List Int} (hat : IntAt w3 b o ds) (hb : b < w3.heap.size) (h : Below w3.heap.size w3 w5) (hg : w3.heap.size ≤ g ∧ g < w5.heap.size ∧ m + 1 ≤ cp) (k : Nat) (u : Value) :
    ∀ j u', (ds.map (Value.int .i64))[j]? = some u' → ((w5.setCell ⟨g, k, none⟩ u).alloc (.cells #[] 3)).cell? ((⟨b, o, none⟩ : Addr).add j) = some u' := by
  have h2 : Below w3.heap.size w3 ((w5.setCell ⟨g, k, none⟩ u).alloc (.cells #[] 3)) := (h.setCell (p := ⟨g, k, none⟩) hg.1 u).alloc (by have := h.size; simpa using this) _
  exact (hat.below h2 hb).news
theorem copied2 {w5 w6 : World} {ds : List Int} {m : Nat} {a : Addr} {u v6 : Value} (hm : ds.length = m + 1)
    {n5 : Nat} {xs5 : List Value} (h6 : w6.ownsRow w5.heap.size 3 1 v6 n5 xs5) (hn5 : n5 = m + 1) (hx5 : xs5 = ds.map (Value.int .i64)) (hg : ((w5.setCell a u).alloc (.cells #[] 3)).grownBy w6 (some w5.heap.size)) :
    ∃ g cp, v6 = .slice (some ⟨g, 0, none⟩) (m + 1) cp ∧ (w5.heap.size ≤ g ∧ g < w6.heap.size ∧ m + 1 ≤ cp) ∧ Below w5.heap.size (w5.setCell a u) w6 ∧ RowI w6 w5.heap.size (.slice (some ⟨g, 0, none⟩) (m + 1) cp) ds ∧
      (∀ j, j < m + 1 → w6.cell? ⟨g, j, none⟩ = some (.int .i64 (ds.getD j 0))) ∧ ∀ j, w6.frozen? ⟨g, j, none⟩ = false := by
  have hrow : RowI w6 w5.heap.size v6 ds := by unfold RowI; rw [hm, ← hx5, ← hn5]; exact h6
  obtain ⟨g, cp, rfl, hcp, hat, hroom, hgB, hgl⟩ := hrow.open2 (by omega)
  refine ⟨g, cp, by rw [hm], ⟨hgB, hgl, by omega⟩, ((Below.refl _ _).alloc (by simp) _).grown hg (by simp) (fun q hq => by injection hq with hq; omega), by rw [← hm]; exact hrow, fun j hj => ?_, fun j => hroom.2 j⟩
  have := hat j (by omega)
  rwa [Nat.zero_add] at this
/-- A number set in such a copy. -/
theorem set_row {w : World} {B g m cp k : Nat} {ds : List Int} (h : RowI w B (.slice (some ⟨g, 0, none⟩) (m + 1) cp) ds) (hm : ds.length = m + 1) (hk : k < m + 1) (x : Int) :
    IntsIn (w.setCell ⟨g, k, none⟩ (.int .i64 x)) (.slice (some ⟨g, 0, none⟩) (m + 1) cp) (ds.set k x) ∧ (w.setCell ⟨g, k, none⟩ (.int .i64 x)).cell? ⟨g, k, none⟩ = some (.int .i64 x) := by
  have hset := h.setAt k x
  refine ⟨hset.in_, ?_⟩
  obtain ⟨g', cp', e', _, hat', _, _, _⟩ := hset.open2 (by rw [List.length_set, hm]; omega)
  injection e' with e1 e2 e3
  injection e1 with e1
  injection e1 with e1
  subst e1
  have := hat' k (by rw [List.length_set, hm]; exact hk)
  rw [Nat.zero_add] at this
  rw [this]
  simp [List.getD, List.getElem?_set, show k < ds.length by omega]

end Go.Proofs.Ytmphpbjmpokjjab
