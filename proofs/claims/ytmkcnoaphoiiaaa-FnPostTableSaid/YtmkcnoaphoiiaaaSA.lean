/- Pure facts on stops (town a, arrive b, leave m); no program. -/
import Derived.Test.YtmkcnoaphoiiaaaG
namespace Go.Proofs.Ytmkcnoaphoiiaaa

def fitsS (n : Int) (r : Rd) : Bool := decide (0 ≤ r.a) && decide (r.a < n) && decide (0 ≤ r.b) && decide (r.b ≤ r.m) && decide (r.m ≤ 10000)
/-- When the stop before the k-th was left. -/
def lastS (l : List Rd) (k : Nat) : Int := match k with | 0 => -1 | j + 1 => (l.getD j rd0).m
def newS (l : List Rd) (k : Nat) (t : Int) : Bool := (List.range k).all fun j => decide ((l.getD j rd0).a ≠ t)
def okS (n : Int) (l : List Rd) (k : Nat) : Bool := fitsS n (l.getD k rd0) && decide (lastS l k < (l.getD k rd0).b) && newS l k (l.getD k rd0).a
def okToS (n : Int) (l : List Rd) (k : Nat) : Bool := (List.range k).all (okS n l)
def validS (n : Int) (l : List Rd) : Bool := decide (1 ≤ n) && decide (n ≤ 8) && decide (2 ≤ l.length) && decide (l.length ≤ 8) && okToS n l l.length

theorem okToS_succ (n : Int) (l : List Rd) (k : Nat) : okToS n l (k + 1) = (okToS n l k && okS n l k) := by
  simp [okToS, List.range_succ]

theorem okToS_at {n : Int} {l : List Rd} {k j : Nat} (h : okToS n l k = true) (hj : j < k) : okS n l j = true := by
  simp only [okToS, List.all_eq_true, List.mem_range] at h
  exact h j hj

theorem okToS_all {n : Int} {l : List Rd} {k : Nat} (h : ∀ j, j < k → okS n l j = true) : okToS n l k = true := by
  simp only [okToS, List.all_eq_true, List.mem_range]
  exact h

theorem fitsS_iff (n : Int) (r : Rd) : fitsS n r = true ↔ 0 ≤ r.a ∧ r.a < n ∧ 0 ≤ r.b ∧ r.b ≤ r.m ∧ r.m ≤ 10000 := by
  simp [fitsS, Bool.and_eq_true, and_assoc]

theorem newS_iff (l : List Rd) (k : Nat) (t : Int) : newS l k t = true ↔ ∀ j, j < k → (l.getD j rd0).a ≠ t := by
  simp [newS]

theorem okS_iff (n : Int) (l : List Rd) (k : Nat) : okS n l k = true ↔ fitsS n (l.getD k rd0) = true ∧ lastS l k < (l.getD k rd0).b ∧ newS l k (l.getD k rd0).a = true := by
  simp [okS, Bool.and_eq_true, and_assoc]

theorem validS_no {n : Int} {l : List Rd} {i : Nat} (hi : i < l.length) (h : okS n l i = false) : validS n l = false := by
  rw [Bool.eq_false_iff]
  intro h'
  simp only [validS, Bool.and_eq_true] at h'
  rw [okToS_at h'.2 hi] at h; cases h

theorem validS_small {n : Int} {l : List Rd} (h : ¬ (1 ≤ n ∧ n ≤ 8 ∧ 2 ≤ l.length ∧ l.length ≤ 8)) : validS n l = false := by
  rw [Bool.eq_false_iff]
  intro h'
  simp only [validS, Bool.and_eq_true, decide_eq_true_eq] at h'
  exact h ⟨h'.1.1.1.1, h'.1.1.1.2, h'.1.1.2, h'.1.2⟩

theorem validS_yes {n : Int} {l : List Rd} (h : 1 ≤ n ∧ n ≤ 8 ∧ 2 ≤ l.length ∧ l.length ≤ 8) (h' : okToS n l l.length = true) : validS n l = true := by
  simp [validS, h, h']

theorem validS_iff {n : Int} {l : List Rd} : validS n l = true ↔ (1 ≤ n ∧ n ≤ 8 ∧ 2 ≤ l.length ∧ l.length ≤ 8) ∧ ∀ i, i < l.length → okS n l i = true := by
  constructor
  · intro h
    simp only [validS, Bool.and_eq_true, decide_eq_true_eq] at h
    exact ⟨⟨h.1.1.1.1, h.1.1.1.2, h.1.1.2, h.1.2⟩, fun i hi => okToS_at h.2 hi⟩
  · rintro ⟨h, h'⟩
    exact validS_yes h (okToS_all h')

/-- What a valid timetable has at each stop. -/
theorem validS_at {n : Int} {l : List Rd} (h : validS n l = true) {i : Nat} (hi : i < l.length) :
    0 ≤ (l.getD i rd0).a ∧ (l.getD i rd0).a < 8 ∧ 0 ≤ (l.getD i rd0).b ∧ (l.getD i rd0).b ≤ (l.getD i rd0).m ∧ (l.getD i rd0).m ≤ 10000 ∧ lastS l i < (l.getD i rd0).b := by
  obtain ⟨h1, h2⟩ := validS_iff.1 h
  obtain ⟨h3, h4, _⟩ := (okS_iff _ _ _).1 (h2 i hi)
  have := (fitsS_iff _ _).1 h3
  omega

theorem validS_next {n : Int} {l : List Rd} (h : validS n l = true) {i : Nat} (hi : i + 1 < l.length) : (l.getD i rd0).m < (l.getD (i + 1) rd0).b :=
  (validS_at h hi).2.2.2.2.2

theorem validS_lt {n : Int} {l : List Rd} (h : validS n l = true) {j i : Nat} (hj : j < i) (hi : i < l.length) : (l.getD j rd0).m < (l.getD i rd0).b := by
  induction i with
  | zero => omega
  | succ i ih =>
    have h1 := validS_next h hi
    have h2 := validS_at h (show i < l.length by omega)
    by_cases e : j = i
    · subst e; exact h1
    · have := ih (by omega) (by omega); omega

theorem validS_ne {n : Int} {l : List Rd} (h : validS n l = true) {j i : Nat} (hj : j < i) (hi : i < l.length) : (l.getD j rd0).a ≠ (l.getD i rd0).a := by
  obtain ⟨_, h2⟩ := validS_iff.1 h
  exact (newS_iff _ _ _).1 ((okS_iff _ _ _).1 (h2 i hi)).2.2 j hj

theorem lastS_take {l : List Rd} {k : Nat} : ∀ {i : Nat}, i ≤ k → lastS (l.take k) i = lastS l i
  | 0, _ => rfl
  | j + 1, h => by simp [lastS, List.getD, show j < k by omega]

/-- Where a town stands first. -/
def atS (l : List Rd) (t : Int) : Option Nat := l.findIdx? fun r => decide (r.a = t)

end Go.Proofs.Ytmkcnoaphoiiaaa
