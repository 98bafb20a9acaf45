/- Pure facts on runs (start a, end b), rests, rosters; no program. -/
import Derived.Test.YtmcapcclnkicbabUA
namespace Go.Proofs.Ytmcapcclnkicbab

def fitsU (r : Rn) : Bool := decide (0 ≤ r.a) && decide (r.a < r.b) && decide (r.b ≤ 10000)
/-- The start of the run before the k-th. -/
def lastU (l : List Rn) (k : Nat) : Int := match k with | 0 => 0 | j + 1 => (l.getD j rn0).a
def okU (l : List Rn) (k : Nat) : Bool := fitsU (l.getD k rn0) && decide (lastU l k ≤ (l.getD k rn0).a)
def okToU (l : List Rn) (k : Nat) : Bool := (List.range k).all (okU l)
def validU (l : List Rn) : Bool := decide (l.length ≤ 12) && okToU l l.length

theorem okToU_succ (l : List Rn) (k : Nat) : okToU l (k + 1) = (okToU l k && okU l k) := by
  simp [okToU, List.range_succ]

theorem okToU_at {l : List Rn} {k j : Nat} (h : okToU l k = true) (hj : j < k) : okU l j = true := by
  simp only [okToU, List.all_eq_true, List.mem_range] at h
  exact h j hj

theorem okToU_all {l : List Rn} {k : Nat} (h : ∀ j, j < k → okU l j = true) : okToU l k = true := by
  simp only [okToU, List.all_eq_true, List.mem_range]
  exact h

theorem fitsU_iff (r : Rn) : fitsU r = true ↔ 0 ≤ r.a ∧ r.a < r.b ∧ r.b ≤ 10000 := by
  simp [fitsU, Bool.and_eq_true, and_assoc]

theorem okU_iff (l : List Rn) (k : Nat) : okU l k = true ↔ fitsU (l.getD k rn0) = true ∧ lastU l k ≤ (l.getD k rn0).a := by
  simp [okU, Bool.and_eq_true]

theorem validU_no {l : List Rn} {i : Nat} (hi : i < l.length) (h : okU l i = false) : validU l = false := by
  rw [Bool.eq_false_iff]
  intro h'
  simp only [validU, Bool.and_eq_true] at h'
  rw [okToU_at h'.2 hi] at h; cases h

theorem validU_long {l : List Rn} (h : ¬ l.length ≤ 12) : validU l = false := by
  rw [Bool.eq_false_iff]
  intro h'
  simp only [validU, Bool.and_eq_true, decide_eq_true_eq] at h'
  exact h h'.1

theorem validU_yes {l : List Rn} (h : l.length ≤ 12) (h' : okToU l l.length = true) : validU l = true := by
  simp [validU, h, h']

theorem validU_iff {l : List Rn} : validU l = true ↔ l.length ≤ 12 ∧ ∀ i, i < l.length → okU l i = true := by
  constructor
  · intro h
    simp only [validU, Bool.and_eq_true, decide_eq_true_eq] at h
    exact ⟨h.1, fun i hi => okToU_at h.2 hi⟩
  · rintro ⟨h, h'⟩
    exact validU_yes h (okToU_all h')

/-- What valid runs have at each place. -/
theorem validU_at {l : List Rn} (h : validU l = true) {i : Nat} (hi : i < l.length) :
    0 ≤ (l.getD i rn0).a ∧ (l.getD i rn0).a < (l.getD i rn0).b ∧ (l.getD i rn0).b ≤ 10000 ∧ lastU l i ≤ (l.getD i rn0).a := by
  obtain ⟨_, h2⟩ := validU_iff.1 h
  obtain ⟨h3, h4⟩ := (okU_iff _ _).1 (h2 i hi)
  have := (fitsU_iff _).1 h3
  omega

theorem validU_le {l : List Rn} (h : validU l = true) {j i : Nat} (hj : j ≤ i) (hi : i < l.length) : (l.getD j rn0).a ≤ (l.getD i rn0).a := by
  induction i with
  | zero => obtain rfl : j = 0 := by omega
            omega
  | succ i ih =>
    have h1 := (validU_at h hi).2.2.2
    have e : lastU l (i + 1) = (l.getD i rn0).a := rfl
    by_cases e' : j = i + 1
    · subst e'; omega
    · have := ih (by omega) (by omega); omega

theorem lastU_take {l : List Rn} {k : Nat} : ∀ {i : Nat}, i ≤ k → lastU (l.take k) i = lastU l i
  | 0, _ => rfl
  | j + 1, h => by simp [lastU, List.getD, show j < k by omega]

def restB (rest : Int) : Bool := decide (0 ≤ rest) && decide (rest ≤ 600)
theorem restB_iff {rest : Int} : restB rest = true ↔ 0 ≤ rest ∧ rest ≤ 600 := by simp [restB]
def okR (l : List Rn) (rest : Int) : Bool := validU l && restB rest

/-- How many of the first k runs are on the road or at rest at t. -/
def busyTo (l : List Rn) (rest t : Int) (k : Nat) : Nat := (l.take k).countP fun r => decide (r.a ≤ t) && decide (t < r.b + rest)
def busyU (l : List Rn) (rest t : Int) : Nat := busyTo l rest t l.length

theorem busyTo_zero (l : List Rn) (rest t : Int) : busyTo l rest t 0 = 0 := rfl
theorem busyTo_le (l : List Rn) (rest t : Int) (k : Nat) : busyTo l rest t k ≤ k := by
  unfold busyTo
  have := List.countP_le_length (p := fun r : Rn => decide (r.a ≤ t) && decide (t < r.b + rest)) (l := l.take k)
  simp at this; omega
theorem busyTo_succ {l : List Rn} {rest t : Int} {k : Nat} (h : k < l.length) :
    busyTo l rest t (k + 1) = busyTo l rest t k + if (l.getD k rn0).a ≤ t ∧ t < (l.getD k rn0).b + rest then 1 else 0 := by
  unfold busyTo
  rw [Rn.take_snoc l k h, List.countP_append]
  congr 1
  simp [List.countP_cons]
theorem busyU_le (l : List Rn) (rest t : Int) : busyU l rest t ≤ l.length := busyTo_le _ _ _ _

end Go.Proofs.Ytmcapcclnkicbab
