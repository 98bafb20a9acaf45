/- Roads with one more, roads without one: plain facts. -/
import Derived.Test.YtfdaaeapfeajjaaW5
import Derived.Test.YtfdaaeapfeajjaaRA
namespace Go.Proofs.Ytfdaaeapfeajjaa

theorem snoc_getD_lt (l : List Rd) (r : Rd) {i : Nat} (h : i < l.length) : (l ++ [r]).getD i rd0 = l.getD i rd0 := by
  simp [List.getD, List.getElem?_append, h]
theorem okAt_snoc {n : Int} {l : List Rd} {r : Rd} {k : Nat} (h : k < l.length) : okAt n (l ++ [r]) k = okAt n l k := by
  unfold okAt
  rw [snoc_getD_lt l r h, List.take_append_of_le_length (by omega)]
theorem validR_iff {n : Int} {l : List Rd} : validR n l = true ↔ (1 ≤ n ∧ n ≤ 8 ∧ l.length ≤ 16) ∧ ∀ i, i < l.length → okAt n l i = true := by
  simp only [validR, okTo, Bool.and_eq_true, decide_eq_true_eq, List.all_eq_true, List.mem_range]
  constructor
  · rintro ⟨⟨⟨h1, h2⟩, h3⟩, h4⟩; exact ⟨⟨h1, h2, h3⟩, h4⟩
  · rintro ⟨⟨h1, h2, h3⟩, h4⟩; exact ⟨⟨⟨h1, h2⟩, h3⟩, h4⟩
theorem validR_front {n : Int} {l : List Rd} {r : Rd} (h : validR n (l ++ [r]) = true) : validR n l = true := by
  obtain ⟨⟨h1, h2, h3⟩, h4⟩ := validR_iff.1 h
  simp only [List.length_append, List.length_singleton] at h3 h4
  exact validR_iff.2 ⟨⟨h1, h2, by omega⟩, fun i hi => by rw [← okAt_snoc hi (r := r)]; exact h4 i (by omega)⟩

/-- What RoadsAdd gives. -/
def addROk (n : Int) (l : List Rd) (r : Rd) : Bool := validR n (l ++ [r])
def addR (n : Int) (l : List Rd) (r : Rd) : List Rd := if addROk n l r = true then l ++ [r] else []
theorem addR_short (n : Int) (l : List Rd) (r : Rd) : (addR n l r).length ≤ 16 := by
  unfold addR; split
  · rename_i h; exact (validR_iff.1 h).1.2.2
  · simp

/-- What RoadsClose gives. -/
def closeOk (n : Int) (l : List Rd) (a b : Int) : Bool := decide (0 ≤ directOf n l a b)
def closeL (l : List Rd) (a b : Int) (k : Nat) : List Rd := (l.take k).filter fun r => !hit a b r
def closeR (n : Int) (l : List Rd) (a b : Int) : List Rd := if closeOk n l a b = true then closeL l a b l.length else []
theorem closeL_len (l : List Rd) (a b : Int) (k : Nat) : (closeL l a b k).length ≤ k := by
  unfold closeL
  have := List.length_filter_le (fun r => !hit a b r) (l.take k)
  simp at this; omega
theorem closeL_succ {l : List Rd} {a b : Int} {k : Nat} (h : k < l.length) : closeL l a b (k + 1) = closeL l a b k ++ if hit a b (l.getD k rd0) = true then [] else [l.getD k rd0] := by
  unfold closeL
  rw [take_snocD l k h, List.filter_append]
  congr 1
  generalize l.getD k rd0 = x
  cases hh : hit a b x <;> simp [List.filter_cons, hh]
theorem closeR_short (n : Int) (l : List Rd) (a b : Int) : (closeR n l a b).length ≤ 16 := by
  unfold closeR; split
  · rename_i h
    have hd : 0 ≤ directOf n l a b := by simpa [closeOk] using h
    have hz : validR n l = true := by
      unfold directOf at hd; split at hd
      · assumption
      · omega
    have h1 := (validR_iff.1 hz).1.2.2
    have h2 := closeL_len l a b l.length
    omega
  · simp

/-- The first hit is the only one. -/
theorem close_is {n : Int} {l : List Rd} (hz : validR n l = true) {a b : Int} {k : Nat} (hk : k < l.length) (hn : noHit l a b k) (hh : hit a b (l.getD k rd0) = true) : closeL l a b l.length = l.take k ++ l.drop (k + 1) := by
  have hat := (validR_iff.1 hz).2
  have h1 : (l.take k).filter (fun r => !hit a b r) = l.take k := by
    rw [List.filter_eq_self]
    intro r hr
    obtain ⟨j, hj, rfl⟩ := List.getElem_of_mem hr
    simp only [List.length_take] at hj
    have := hn j (by omega)
    simp only [List.getElem_take]
    rw [getD_eq l (by omega)] at this
    simp [this]
  have h2 : (l.drop (k + 1)).filter (fun r => !hit a b r) = l.drop (k + 1) := by
    rw [List.filter_eq_self]
    intro r hr
    obtain ⟨j, hj, rfl⟩ := List.getElem_of_mem hr
    simp only [List.length_drop] at hj
    simp only [List.getElem_drop]
    have h3 := ((okAt_iff n l (k + 1 + j)).1 (hat (k + 1 + j) (by omega))).2 (l[k]) (by
      rw [List.mem_take_iff_getElem]
      exact ⟨k, by omega, rfl⟩)
    rw [getD_eq l (by omega)] at h3
    rw [getD_eq l hk] at hh
    simp only [hit, Bool.and_eq_true, decide_eq_true_eq] at hh
    simp only [same, Bool.and_eq_false_iff, decide_eq_false_iff_not] at h3
    simp only [hit, Bool.not_eq_true', Bool.and_eq_false_iff, decide_eq_false_iff_not]
    omega
  unfold closeL
  rw [List.take_length]
  conv => lhs; rw [← List.take_append_drop k l, List.drop_eq_getElem_cons hk]
  rw [List.filter_append, h1, List.filter_cons]
  rw [getD_eq l hk] at hh
  simp only [hh, Bool.not_true, Bool.false_eq_true, if_false]
  rw [h2]

end Go.Proofs.Ytfdaaeapfeajjaa
