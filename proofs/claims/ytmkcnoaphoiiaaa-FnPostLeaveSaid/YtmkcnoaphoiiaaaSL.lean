/- StopsLater: the model's. -/
import Derived.Test.YtmkcnoaphoiiaaaSK
namespace Go.Proofs.Ytmkcnoaphoiiaaa
open Go.RowKit

theorem valid1_isL (n : Int) (v : Value) (l : List Rd) (w : World) (hv : RoadsIn w v l) (hl : l.length ≤ 1048576) {x : Bool} (hz : validS n l = x) :
    Calls Try.prog 58 #[.int .i64 n, v] w (Gives (.bool x) w) := by
  have := valid1_any n v l w hv hl; rwa [hz] at this

theorem inB_no {x lo hi : Int} (h : ¬ (lo ≤ x ∧ x ≤ hi)) : inB x lo hi = false := Bool.eq_false_iff.2 (fun e => h ((inB_iff _ _ _).1 e))

def L1Rel (n : Int) (l : List Rd) (k : Int) (w : World) (v iv : Value) (wr : World) : Prop :=
  ∃ i : Nat, i ≤ l.length ∧ iv = .int .i64 i ∧ OwnS wr w.heap.size v (laterW (l.take i) k) ∧ (i = 0 ∨ (validS n l = true ∧ -10000 ≤ k ∧ k ≤ 10000)) ∧ Below w.heap.size w wr

theorem StopsOut.no {w w' : World} {g : Nat} (hg : w.heap.size ≤ g) (hl : g < w'.heap.size) (hb : Below w.heap.size w w') : StopsOut [] false w (.returned (.tuple #[.slice (some ⟨g, 0, none⟩) 0 0, .bool false])) w' :=
  ⟨some ⟨g, 0, none⟩, 0, rfl, fun h => absurd rfl h, fun j hj => by obtain ⟨o, ho⟩ := hj; cases ho; exact ⟨hg, hl⟩, hb⟩

end Go.Proofs.Ytmkcnoaphoiiaaa
