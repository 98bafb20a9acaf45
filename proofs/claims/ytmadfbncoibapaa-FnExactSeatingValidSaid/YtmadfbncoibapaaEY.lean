/- Seatings: which lists are seatings, seat by seat and pair by pair; no program. -/
import Derived.Test.YtmadfbncoibapaaEP
namespace Go.Proofs.Ytmadfbncoibapaa

def meetK (r s : Bk) : Bool := r.m == s.m && decide (r.a < s.b) && decide (s.a < r.b)
def pairTo (l : List Bk) (q : List Int) (i k : Nat) : Bool := (List.range k).all fun k' => !(q.getD i 0 == q.getD k' 0 && meetK (l.getD i bk0) (l.getD k' bk0))
def inSeat (l : List Bk) (q : List Int) (i : Nat) : Bool := decide (0 ≤ q.getD i 0) && decide (q.getD i 0 < (seatsB (l.getD i bk0).m : Nat))
def okSeat (l : List Bk) (q : List Int) (i : Nat) : Bool := inSeat l q i && pairTo l q i i
def seatTo (l : List Bk) (q : List Int) (k : Nat) : Bool := (List.range k).all (okSeat l q)
def seatingV (n : Int) (l : List Bk) (q : List Int) : Bool := validB n l && decide (q.length = l.length) && seatTo l q l.length

theorem pairTo_zero (l : List Bk) (q : List Int) (i : Nat) : pairTo l q i 0 = true := by simp [pairTo]
theorem pairTo_succ (l : List Bk) (q : List Int) (i k : Nat) : pairTo l q i (k + 1) = (pairTo l q i k && !(q.getD i 0 == q.getD k 0 && meetK (l.getD i bk0) (l.getD k bk0))) := by simp [pairTo, List.range_succ]
theorem pairTo_no {l : List Bk} {q : List Int} {i k m : Nat} (hk : k < m) (h : (q.getD i 0 == q.getD k 0 && meetK (l.getD i bk0) (l.getD k bk0)) = true) : pairTo l q i m = false := by
  rw [Bool.eq_false_iff]
  intro h'
  simp only [pairTo, List.all_eq_true, List.mem_range] at h'
  have := h' k hk
  rw [h] at this; cases this
theorem seatTo_zero (l : List Bk) (q : List Int) : seatTo l q 0 = true := by simp [seatTo]
theorem seatTo_succ (l : List Bk) (q : List Int) (k : Nat) : seatTo l q (k + 1) = (seatTo l q k && okSeat l q k) := by simp [seatTo, List.range_succ]
theorem seatTo_no {l : List Bk} {q : List Int} {i m : Nat} (hi : i < m) (h : okSeat l q i = false) : seatTo l q m = false := by
  rw [Bool.eq_false_iff]
  intro h'
  simp only [seatTo, List.all_eq_true, List.mem_range] at h'
  have := h' i hi
  rw [h] at this; cases this
theorem seatingV_bad {n : Int} {l : List Bk} {q : List Int} (h : ¬ (validB n l = true ∧ q.length = l.length)) : seatingV n l q = false := by
  rw [Bool.eq_false_iff]
  intro h'
  simp only [seatingV, Bool.and_eq_true, decide_eq_true_eq] at h'
  exact h h'.1
theorem seatingV_no {n : Int} {l : List Bk} {q : List Int} {i : Nat} (hi : i < l.length) (h : okSeat l q i = false) : seatingV n l q = false := by
  unfold seatingV; rw [seatTo_no hi h, Bool.and_false]
theorem seatingV_yes {n : Int} {l : List Bk} {q : List Int} (h1 : validB n l = true) (h2 : q.length = l.length) (h3 : seatTo l q l.length = true) : seatingV n l q = true := by
  simp [seatingV, h1, h2, h3]

/-- A seat of the plan is free just if no earlier booking has it on one of these legs. -/
theorem free_pair {l : List Bk} {p : Pl} {q : List Int} {k s : Nat} (h : PInv l (List.range k) p q) (hf : fit7 (l.getD k bk0)) (hs : s < seatsB (l.getD k bk0).m) (hq : q.getD k 0 = (s : Int)) : freeAt p (l.getD k bk0) s = pairTo l q k k := by
  have hb := h.bits (l.getD k bk0).m s hs (l.getD k bk0) hf
  cases hp : pairTo l q k k with
  | true =>
    simp only [pairTo, List.all_eq_true, List.mem_range] at hp
    cases hfr : freeAt p (l.getD k bk0) s with
    | true => rfl
    | false =>
      exfalso
      have h1 : ((p.row (l.getD k bk0).m).getD s 0 &&& maskB (l.getD k bk0) != 0) = true := by
        simp only [freeAt, beq_eq_false_iff_ne, ne_eq] at hfr; simpa using hfr
      obtain ⟨j, hj, j1, j2, j3⟩ := hb.1 h1
      have := hp j (List.mem_range.1 hj)
      simp only [meetB, Bool.and_eq_true, decide_eq_true_eq] at j3
      have e : (q.getD k 0 == q.getD j 0 && meetK (l.getD k bk0) (l.getD j bk0)) = true := by
        simp only [meetK, Bool.and_eq_true, decide_eq_true_eq, beq_iff_eq]
        exact ⟨by rw [hq, j2], ⟨j1.symm, j3.2⟩, j3.1⟩
      rw [e] at this; cases this
  | false =>
    have hex : ∃ j, j < k ∧ (q.getD k 0 == q.getD j 0 && meetK (l.getD k bk0) (l.getD j bk0)) = true := by
      rcases Classical.em (∃ j, j < k ∧ (q.getD k 0 == q.getD j 0 && meetK (l.getD k bk0) (l.getD j bk0)) = true) with h | h
      · exact h
      · exfalso
        rw [Bool.eq_false_iff] at hp
        apply hp
        simp only [pairTo, List.all_eq_true, List.mem_range]
        intro j hj
        cases hb : (q.getD k 0 == q.getD j 0 && meetK (l.getD k bk0) (l.getD j bk0)) with
        | false => rfl
        | true => exact absurd ⟨j, hj, hb⟩ h
    obtain ⟨j, hj, e⟩ := hex
    simp only [meetK, Bool.and_eq_true, decide_eq_true_eq, beq_iff_eq] at e
    have h1 := hb.2 ⟨j, List.mem_range.2 hj, e.2.1.1.symm, by rw [← e.1, hq], by simp only [meetB, Bool.and_eq_true, decide_eq_true_eq]; exact ⟨e.2.2, e.2.1.2⟩⟩
    simp only [freeAt, beq_eq_false_iff_ne, ne_eq]
    simpa using h1

theorem set_same {q : List Int} {k : Nat} {x : Int} (h : q.getD k 0 = x) (hk : k < q.length) : q.set k x = q := by
  apply List.ext_getElem (by simp)
  intro i h1 h2
  by_cases e : k = i
  · subst e; subst h; simp [List.getD, hk]
  · simp [List.getElem_set, e]
theorem range_next (k : Nat) : List.range k ++ [k] = List.range (k + 1) := (List.range_succ).symm

end Go.Proofs.Ytmadfbncoibapaa
