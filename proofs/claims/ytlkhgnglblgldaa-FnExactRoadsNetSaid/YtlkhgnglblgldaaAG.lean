/- RoadsNeeded of the program. -/
import Derived.Test.YtlkhgnglblgldaaAE
import Derived.Test.YtlkhgnglblgldaaAF
import Derived.Test.YtlkhgnglblgldaaAA
namespace Go.Proofs.Ytlkhgnglblgldaa
open Go.RowKit Go.Maps

noncomputable def needB (n : Int) (l : List Rd) (i : Nat) : Bool := !reachB n (edge (l.take i ++ l.drop (i + 1))) (l.getD i rd0).a (l.getD i rd0).b
noncomputable def needTo (n : Int) (l : List Rd) (j : Nat) : List Int := ((List.range j).filter (needB n l)).map Int.ofNat
noncomputable def needOf (n : Int) (l : List Rd) : List Int := if validR n l = true then needTo n l l.length else []

theorem needTo_succ (n : Int) (l : List Rd) (j : Nat) : needTo n l (j + 1) = if needB n l j = true then needTo n l j ++ [(j : Int)] else needTo n l j := by
  unfold needTo
  rw [List.range_succ, List.filter_append, List.map_append]
  cases h : needB n l j <;> simp [h]

theorem needTo_len (n : Int) (l : List Rd) (j : Nat) : (needTo n l j).length ≤ j := by
  unfold needTo
  have := List.length_filter_le (needB n l) (List.range j)
  simpa using this

theorem NetAt.touch {w w' : World} {nb n bs cnt g} {S : Nat → Prop} (h : NetAt w nb n bs cnt g) (ht : Touch S w w') (h0 : ¬ S nb) (h1 : ∀ t, 0 ≤ t → t < n → ¬ S (bs t)) : NetAt w' nb n bs cnt g :=
  ⟨h.outer.touch ht h0, fun t t0 t1 => (h.inner t t0 t1).touch ht (h1 t t0 t1), h.inj, h.ne⟩

theorem NetAt.congr {w : World} {nb n bs cnt} {g g' : Int → Int → Option Int} (h : NetAt w nb n bs cnt g) (hg : ∀ x y, g' x y = g x y) : NetAt w nb n bs cnt g' := by
  have e : g' = g := by funext x y; exact hg x y
  rw [e]; exact h

theorem own_touch {w w' : World} {B k : Nat} {v : Value} {xs : List Value} {S : Nat → Prop} (h : w.ownsRow B 3 1 v k xs) (ht : Touch S w w') (hS : ∀ g, v.ownBlock = some g → ¬ S g) : w'.ownsRow B 3 1 v k xs := by
  obtain ⟨h1, h2⟩ := h
  refine ⟨h1, ?_⟩
  rcases h2 with h0 | ⟨g, cap, cur, rfl, hg, hh, r⟩
  · exact .inl h0
  · exact .inr ⟨g, cap, cur, rfl, hg, (ht.block g (Array.getElem?_eq_some_iff.1 hh).1 (hS g rfl)).trans hh, r⟩

/-- Without the road, and with it again. -/
theorem part_erase {n : Int} {l : List Rd} (h : okTo n l l.length = true) {i : Nat} (hi : i < l.length) (x y : Int) : partE (edge l) (l.getD i rd0).a (l.getD i rd0).b x y = edge (l.take i ++ l.drop (i + 1)) x y := by
  rw [edge_erase h hi]
  unfold partE delE
  by_cases h2 : x = (l.getD i rd0).b ∧ y = (l.getD i rd0).a
  · rw [if_pos h2, if_pos (Or.inr h2)]
  · rw [if_neg h2]
    by_cases h1 : x = (l.getD i rd0).a ∧ y = (l.getD i rd0).b
    · rw [if_pos h1, if_pos (Or.inl h1)]
    · rw [if_neg h1, if_neg (fun h => h.elim h1 h2)]

theorem join_erase {n : Int} {l : List Rd} (h : okTo n l l.length = true) {i : Nat} (hi : i < l.length) (x y : Int) : edge l x y = joinE (edge (l.take i ++ l.drop (i + 1))) (l.getD i rd0).a (l.getD i rd0).b (l.getD i rd0).m x y := by
  have he := edge_of_road h hi
  unfold joinE setE
  by_cases h2 : x = (l.getD i rd0).b ∧ y = (l.getD i rd0).a
  · rw [if_pos h2, h2.1, h2.2, edge_symm, he]
  · rw [if_neg h2]
    by_cases h1 : x = (l.getD i rd0).a ∧ y = (l.getD i rd0).b
    · rw [if_pos h1, h1.1, h1.2, he]
    · rw [if_neg h1, edge_erase h hi, if_neg (fun h => h.elim h1 h2)]

end Go.Proofs.Ytlkhgnglblgldaa
