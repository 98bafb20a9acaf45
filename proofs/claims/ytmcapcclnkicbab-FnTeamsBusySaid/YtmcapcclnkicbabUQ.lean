/- Rosters: pure facts. -/
import Derived.Test.YtmcapcclnkicbabUP
namespace Go.Proofs.Ytmcapcclnkicbab

theorem okR_parts {l : List Rn} {rest : Int} : okR l rest = true ↔ validU l = true ∧ 0 ≤ rest ∧ rest ≤ 600 := by simp [okR, restB_iff]

/-- Team t could begin the i-th run, for all that its first j runs in r. -/
def canTo (l : List Rn) (rest : Int) (r : List Int) (i : Nat) (t : Int) (j : Nat) : Bool :=
  (List.range j).all fun k => !(decide (r.getD k 0 = t) && decide ((l.getD i rn0).a < (l.getD k rn0).b + rest))
def canU (l : List Rn) (rest : Int) (r : List Int) (i : Nat) (t : Int) : Bool := canTo l rest r i t i

theorem canTo_iff {l : List Rn} {rest : Int} {r : List Int} {i : Nat} {t : Int} {j : Nat} :
    canTo l rest r i t j = true ↔ ∀ k, k < j → r.getD k 0 = t → (l.getD k rn0).b + rest ≤ (l.getD i rn0).a := by
  simp only [canTo, List.all_eq_true, List.mem_range, Bool.not_eq_true', Bool.and_eq_false_iff, decide_eq_false_iff_not]
  constructor
  · intro h k hk ht
    rcases h k hk with h1 | h1
    · exact absurd ht h1
    · omega
  · intro h k hk
    by_cases ht : r.getD k 0 = t
    · exact .inr (by have := h k hk ht; omega)
    · exact .inl ht

theorem canTo_zero (l : List Rn) (rest : Int) (r : List Int) (i : Nat) (t : Int) : canTo l rest r i t 0 = true := rfl
theorem canTo_hit {l : List Rn} {rest : Int} {r : List Int} {i : Nat} {t : Int} {j k : Nat} (hk : k < j) (h1 : r.getD k 0 = t) (h2 : (l.getD i rn0).a < (l.getD k rn0).b + rest) : canTo l rest r i t j = false := by
  rw [Bool.eq_false_iff]; intro h; have := canTo_iff.1 h k hk h1; omega
theorem canTo_succ {l : List Rn} {rest : Int} {r : List Int} {i : Nat} {t : Int} {j : Nat} (h : canTo l rest r i t j = true) (h2 : r.getD j 0 = t → (l.getD j rn0).b + rest ≤ (l.getD i rn0).a) : canTo l rest r i t (j + 1) = true := by
  refine canTo_iff.2 fun k hk ht => ?_
  by_cases e : k = j
  · subst e; exact h2 ht
  · exact canTo_iff.1 h k (by omega) ht

def okT (l : List Rn) (rest : Int) (r : List Int) (i : Nat) : Bool := decide (0 ≤ r.getD i 0) && decide (r.getD i 0 < 12) && canU l rest r i (r.getD i 0)
def okTTo (l : List Rn) (rest : Int) (r : List Int) (k : Nat) : Bool := (List.range k).all (okT l rest r)
def rosU (l : List Rn) (rest : Int) (r : List Int) : Bool := okR l rest && decide (r.length = l.length) && okTTo l rest r r.length

theorem okTTo_succ (l : List Rn) (rest : Int) (r : List Int) (k : Nat) : okTTo l rest r (k + 1) = (okTTo l rest r k && okT l rest r k) := by
  simp [okTTo, List.range_succ]
theorem okTTo_at {l : List Rn} {rest : Int} {r : List Int} {k j : Nat} (h : okTTo l rest r k = true) (hj : j < k) : okT l rest r j = true := by
  simp only [okTTo, List.all_eq_true, List.mem_range] at h
  exact h j hj
theorem okT_iff {l : List Rn} {rest : Int} {r : List Int} {i : Nat} : okT l rest r i = true ↔ 0 ≤ r.getD i 0 ∧ r.getD i 0 < 12 ∧ canU l rest r i (r.getD i 0) = true := by
  simp [okT, and_assoc]
theorem rosU_iff {l : List Rn} {rest : Int} {r : List Int} : rosU l rest r = true ↔ okR l rest = true ∧ r.length = l.length ∧ okTTo l rest r r.length = true := by
  simp [rosU, and_assoc]
theorem rosU_no1 {l : List Rn} {rest : Int} {r : List Int} (h : okR l rest = false) : rosU l rest r = false := by unfold rosU; rw [h]; rfl
theorem rosU_no2 {l : List Rn} {rest : Int} {r : List Int} (h : ¬ r.length = l.length) : rosU l rest r = false := by
  rw [Bool.eq_false_iff]; intro h'; exact h (rosU_iff.1 h').2.1
theorem rosU_no3 {l : List Rn} {rest : Int} {r : List Int} {i : Nat} (hi : i < r.length) (h : okT l rest r i = false) : rosU l rest r = false := by
  rw [Bool.eq_false_iff]; intro h'; have := okTTo_at (rosU_iff.1 h').2.2 hi; rw [h] at this; cases this

/-- When team t is free behind its runs of the first j. -/
def freeTo (l : List Rn) (rest : Int) (r : List Int) (t : Int) : Nat → Int
  | 0 => 0
  | j + 1 => if r.getD j 0 = t then (l.getD j rn0).b + rest else freeTo l rest r t j

theorem freeTo_spec {l : List Rn} {rest : Int} {r : List Int} (hz : okR l rest = true) (t : Int) : ∀ (j : Nat), j ≤ l.length → (∀ k, k < j → canU l rest r k (r.getD k 0) = true) →
    (∀ k, k < j → r.getD k 0 = t → (l.getD k rn0).b + rest ≤ freeTo l rest r t j) ∧ (freeTo l rest r t j = 0 ∨ ∃ k, k < j ∧ r.getD k 0 = t ∧ freeTo l rest r t j = (l.getD k rn0).b + rest)
  | 0, _, _ => ⟨fun k hk => by omega, .inl rfl⟩
  | j + 1, hj, hc => by
    obtain ⟨h1, h2⟩ := freeTo_spec hz t j (by omega) (fun k hk => hc k (by omega))
    obtain ⟨hz1, hz2, hz3⟩ := okR_parts.1 hz
    unfold freeTo
    by_cases e : r.getD j 0 = t
    · rw [if_pos e]
      refine ⟨fun k hk ht => ?_, .inr ⟨j, by omega, e, rfl⟩⟩
      by_cases ek : k = j
      · subst ek; omega
      · have h3 := canTo_iff.1 (hc j (by omega)) k (by omega) (by rw [ht, e])
        have := validU_at hz1 (show j < l.length by omega)
        omega
    · rw [if_neg e]
      refine ⟨fun k hk ht => ?_, ?_⟩
      · have : k ≠ j := by rintro rfl; exact e ht
        exact h1 k (by omega) ht
      · rcases h2 with h2 | ⟨k, hk, ht, h2⟩
        · exact .inl h2
        · exact .inr ⟨k, by omega, ht, h2⟩

/-- The last run of a team is enough to know. -/
theorem can_free {l : List Rn} {rest : Int} {r : List Int} (hz : okR l rest = true) {i : Nat} (hi : i < l.length) (hc : ∀ k, k < i → canU l rest r k (r.getD k 0) = true) (t : Int) :
    canU l rest r i t = true ↔ freeTo l rest r t i ≤ (l.getD i rn0).a := by
  obtain ⟨h1, h2⟩ := freeTo_spec hz t i (by omega) hc
  obtain ⟨hz1, hz2, hz3⟩ := okR_parts.1 hz
  have h3 := validU_at hz1 hi
  constructor
  · intro h
    rcases h2 with h2 | ⟨k, hk, ht, h2⟩
    · omega
    · rw [h2]; exact canTo_iff.1 h k hk ht
  · intro h
    exact canTo_iff.2 fun k hk ht => by have := h1 k hk ht; omega

theorem freeTo_bd {l : List Rn} {rest : Int} {r : List Int} (hz : okR l rest = true) (t : Int) : ∀ (j : Nat), j ≤ l.length → 0 ≤ freeTo l rest r t j ∧ freeTo l rest r t j ≤ 10600
  | 0, _ => ⟨by show (0 : Int) ≤ 0; omega, by show (0 : Int) ≤ 10600; omega⟩
  | j + 1, hj => by
    have ih := freeTo_bd (r := r) hz t j (by omega)
    obtain ⟨hz1, hz2, hz3⟩ := okR_parts.1 hz
    have h3 := validU_at hz1 (show j < l.length by omega)
    unfold freeTo
    split <;> omega

theorem canU_no {l : List Rn} {rest : Int} {r : List Int} {i : Nat} {t : Int} (h : ¬ canU l rest r i t = true) : canU l rest r i t = false := Bool.eq_false_iff.2 h

end Go.Proofs.Ytmcapcclnkicbab
