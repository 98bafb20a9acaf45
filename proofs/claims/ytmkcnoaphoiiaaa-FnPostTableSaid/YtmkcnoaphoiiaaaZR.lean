/- Rows of stops: both words for them. -/
import Derived.Test.YtmkcnoaphoiiaaaZA
namespace Go.Proofs.Ytmkcnoaphoiiaaa
open Go.RowKit

theorem TzIn.roads {w : World} {v : Value} {l : List Tz} (h : TzIn w v l) : RoadsIn w v l := by
  obtain ⟨a, cap, rfl, _, ha⟩ := h
  exact ⟨a, cap, rfl, ha⟩
/-- A row of the call's own, as a value. -/
theorem RowTz.in_ {w : World} {B : Nat} {v : Value} {l : List Tz} (h : RowTz w B v l) : TzIn w v l := by
  obtain ⟨ad, cap, rfl, hc, ho, _⟩ := h.row
  exact ho.ins hc
theorem TzOut.no {w w' : World} {g : Nat} (hg : w.heap.size ≤ g) (hl : g < w'.heap.size) (hb : Below w.heap.size w w') : TzOut [] false w (.returned (.tuple #[.slice (some ⟨g, 0, none⟩) 0 0, .bool false])) w' :=
  ⟨some ⟨g, 0, none⟩, 0, rfl, Nat.le_refl _, fun h => absurd rfl h, fun j hj => by obtain ⟨o, ho⟩ := hj; cases ho; exact ⟨hg, hl⟩, hb⟩
theorem TzOut.row {w wr : World} {B : Nat} {u : Value} {xs : List Tz} (ok : Bool) (h : RowTz wr B u xs) (hB : w.heap.size ≤ B) (hb : Below w.heap.size w wr) : TzOut xs ok w (.returned (.tuple #[u, .bool ok])) wr := by
  obtain ⟨ad, cap, rfl, hc, ho, hin⟩ := h.row
  exact ⟨ad, cap, rfl, hc, ho, fun j hj => ⟨by have := (hin j hj).1; omega, (hin j hj).2⟩, hb⟩

theorem stop_news (w : World) (t : TypeId) (a b m : Int) : ∀ j u, [Value.int .i64 a, .int .i64 b, .int .i64 m][j]? = some u → (w.alloc (.cells #[.int .i64 a, .int .i64 b, .int .i64 m] t)).cell? ((⟨w.heap.size, 0, none⟩ : Addr).add j) = some u :=
  news1 w #[.int .i64 a, .int .i64 b, .int .i64 m] t

end Go.Proofs.Ytmkcnoaphoiiaaa
