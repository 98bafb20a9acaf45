/- Parcels with one more, without one, with one moved: plain facts; rows of parcels that a function gives. -/
import Derived.Test.YtmdcpigobfhckaaFG
namespace Go.Proofs.Ytmdcpigobfhckaa
open Go.RowKit

theorem validF_front {n : Int} {l : List Fr} {r : Fr} (h : validF n (l ++ [r]) = true) : validF n l = true := valid_app1 h

def bookL (n : Int) (l : List Fr) (r : Fr) : List Fr := if validF n (l ++ [r]) then l ++ [r] else []
theorem bookL_yes {n : Int} {l : List Fr} {r : Fr} (h : validF n (l ++ [r]) = true) : bookL n l r = l ++ [r] := by simp [bookL, h]
theorem bookL_no {n : Int} {l : List Fr} {r : Fr} (h : validF n (l ++ [r]) = false) : bookL n l r = [] := by simp [bookL, h]
theorem bookL_short (n : Int) (l : List Fr) (r : Fr) : (bookL n l r).length ≤ 16 := by
  unfold bookL; split
  · rename_i h; exact (by have := (headF_iff.1 (valid_head h)).2; omega)
  · simp

/-- An index of the list, of parcels. -/
def atOk (n : Int) (l : List Fr) (k : Int) : Bool := validF n l && decide (0 ≤ k) && decide (k < l.length)
theorem atOk_iff {n : Int} {l : List Fr} {k : Int} : atOk n l k = true ↔ validF n l = true ∧ 0 ≤ k ∧ k < l.length := by simp [atOk, and_assoc]
def cutL (l : List Fr) (k : Nat) : List Fr := l.take k ++ l.drop (k + 1)
def cancelL (n : Int) (l : List Fr) (k : Int) : List Fr := if atOk n l k then cutL l k.toNat else []
theorem cancelL_yes {n : Int} {l : List Fr} {k : Int} (h : atOk n l k = true) : cancelL n l k = cutL l k.toNat := by simp [cancelL, h]
theorem cancelL_no {n : Int} {l : List Fr} {k : Int} (h : atOk n l k = false) : cancelL n l k = [] := by simp [cancelL, h]
theorem cancelL_short (n : Int) (l : List Fr) (k : Int) : (cancelL n l k).length ≤ 16 := by
  unfold cancelL; split
  · rename_i h
    have h1 := atOk_iff.1 h
    have h2 := (headF_iff.1 (valid_head h1.1)).2
    simp only [cutL, List.length_append, List.length_take, List.length_drop]; omega
  · simp

/-- A row of the call's own, and a bool. -/
def FrRow (xs : List Fr) (ok : Bool) (w : World) (e : Ending) (w' : World) : Prop :=
  ∃ v, e = .returned (.tuple #[v, .bool ok]) ∧ RowFr w' w.heap.size v xs ∧ Below w.heap.size w w'
theorem FrRow.out {xs : List Fr} {ok : Bool} {w : World} {e : Ending} {w' : World} (h : FrRow xs ok w e w') : FrOut xs ok w e w' := by
  obtain ⟨v, rfl, hr, hb⟩ := h
  obtain ⟨ad, cap, rfl, hc, ho, hblk⟩ := hr.row
  exact ⟨ad, cap, rfl, hc, ho, hblk, hb⟩
theorem FrRow.no {w w' : World} (hs : w.heap.size ≤ w'.heap.size) (hb : Below w.heap.size w w') : FrRow [] false w (.returned (.tuple #[.slice (some ⟨w'.heap.size, 0, none⟩) 0 0, .bool false])) (w'.alloc (.cells #[] 41)) :=
  ⟨_, rfl, RowFr.made w' _ hs, hb.alloc hs _⟩
theorem RowFr.mono {w : World} {B B' : Nat} {v : Value} {l : List Fr} (h : RowFr w B v l) (hB : B' ≤ B) : RowFr w B' v l := by
  obtain ⟨h1, h2⟩ := h
  refine ⟨h1, ?_⟩
  rcases h2 with h0 | ⟨g, cap, cur, hv, hg, r⟩
  · exact .inl h0
  · exact .inr ⟨g, cap, cur, hv, Nat.le_trans hB hg, r⟩
theorem RowFr.in_ {w : World} {B : Nat} {v : Value} {l : List Fr} (h : RowFr w B v l) : FrIn w v l := by
  obtain ⟨ad, cap, rfl, hc, ho, _⟩ := h.row
  exact ho.ins hc
theorem FrIn.news {w : World} {ad : Addr} {n cap : Nat} {l : List Fr} (hn : n = l.length) (h : FrIn w (.slice (some ad) n cap) l) : (l ≠ [] → ad.block < w.heap.size) ∧ ∀ j u, (encFr l)[j]? = some u → w.cell? (ad.add j) = some u := by
  subst hn
  obtain ⟨a, c, he, _, ha⟩ := h
  cases he
  by_cases hl : l = []
  · subst hl; exact ⟨fun h => absurd rfl h, fun j u hj => by simp [encFr] at hj⟩
  · obtain ⟨b, o, he, hb, hr⟩ := ha hl
    cases he
    refine ⟨fun _ => hb, fun j u hj => ?_⟩
    have h1 := hr.news (f := 0) (n := l.length) (by omega)
    rw [Nat.zero_mul, Nat.add_zero, List.drop_zero, List.take_length] at h1
    exact h1 j u hj

end Go.Proofs.Ytmdcpigobfhckaa
