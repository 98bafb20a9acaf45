/- The roster in which each run gets the least team that can begin it; how many teams are needed: plain facts. -/
import Derived.Test.YtmcapcclnkicbabUQ
namespace Go.Proofs.Ytmcapcclnkicbab

/-- The least team, up to i, that can begin the i-th run. -/
def leastT (l : List Rn) (rest : Int) (r : List Int) (i : Nat) : Nat := ((List.range (i + 1)).find? fun (t : Nat) => canU l rest r i (t : Int)).getD i
/-- The first k teams. -/
def mkTo (l : List Rn) (rest : Int) : Nat → List Int
  | 0 => []
  | k + 1 => mkTo l rest k ++ [(leastT l rest (mkTo l rest k) k : Int)]

theorem mkTo_len (l : List Rn) (rest : Int) : ∀ k, (mkTo l rest k).length = k
  | 0 => rfl
  | k + 1 => by simp [mkTo, mkTo_len l rest k]

theorem mkTo_lt (l : List Rn) (rest : Int) : ∀ {k i : Nat}, i < k → (mkTo l rest (k + 1)).getD i 0 = (mkTo l rest k).getD i 0 := by
  intro k i hi
  show (mkTo l rest k ++ _).getD i 0 = _
  simp [List.getD, List.getElem?_append, mkTo_len, hi]
theorem mkTo_at (l : List Rn) (rest : Int) (k : Nat) : (mkTo l rest (k + 1)).getD k 0 = (leastT l rest (mkTo l rest k) k : Int) := by
  show (mkTo l rest k ++ _).getD k 0 = _
  simp [List.getD, List.getElem?_append, mkTo_len]
theorem mkTo_le (l : List Rn) (rest : Int) {k i : Nat} (hi : i < k) : ∀ {m : Nat}, k ≤ m → (mkTo l rest m).getD i 0 = (mkTo l rest k).getD i 0
  | 0, h => by omega
  | m + 1, h => by
    by_cases e : k = m + 1
    · subst e; rfl
    · rw [mkTo_lt l rest (show i < m by omega), mkTo_le l rest hi (show k ≤ m by omega)]

theorem leastT_le (l : List Rn) (rest : Int) (r : List Int) (i : Nat) : leastT l rest r i ≤ i := by
  unfold leastT
  cases h : (List.range (i + 1)).find? fun (t : Nat) => canU l rest r i (t : Int) with
  | none => simp
  | some t => have := List.mem_of_find?_eq_some h; simp at this ⊢; omega

theorem mk_bd (l : List Rn) (rest : Int) {k i : Nat} (hi : i < k) : 0 ≤ (mkTo l rest k).getD i 0 ∧ (mkTo l rest k).getD i 0 ≤ (i : Int) := by
  rw [mkTo_le l rest (show i < i + 1 by omega) (show i + 1 ≤ k by omega), mkTo_at]
  have := leastT_le l rest (mkTo l rest i) i
  omega

/-- Team i has had no run ahead of the i-th. -/
theorem can_fresh (l : List Rn) (rest : Int) (i : Nat) : canU l rest (mkTo l rest i) i (i : Int) = true :=
  canTo_iff.2 fun k hk ht => by have := mk_bd l rest hk; omega

theorem least_can (l : List Rn) (rest : Int) (i : Nat) : canU l rest (mkTo l rest i) i (leastT l rest (mkTo l rest i) i : Int) = true := by
  unfold leastT
  cases h : (List.range (i + 1)).find? fun (t : Nat) => canU l rest (mkTo l rest i) i (t : Int) with
  | none => exact can_fresh l rest i
  | some t => have := List.find?_some h; simpa using this

theorem least_lt (l : List Rn) (rest : Int) (i : Nat) {t : Nat} (h : t < leastT l rest (mkTo l rest i) i) : canU l rest (mkTo l rest i) i (t : Int) = false := by
  unfold leastT at h
  cases hf : (List.range (i + 1)).find? fun (t : Nat) => canU l rest (mkTo l rest i) i (t : Int) with
  | none =>
    rw [hf] at h
    have := List.find?_eq_none.1 hf i (by simp)
    exact absurd (can_fresh l rest i) (by simpa using this)
  | some u =>
    rw [hf] at h
    simp only [Option.getD_some] at h
    have := (List.find?_range_eq_some.1 hf).2.2 t h
    simpa using this

/-- Whoever is the least team that can is leastT. -/
theorem least_is {l : List Rn} {rest : Int} {i t : Nat} (h1 : canU l rest (mkTo l rest i) i (t : Int) = true) (h2 : ∀ u, u < t → canU l rest (mkTo l rest i) i (u : Int) = false) : leastT l rest (mkTo l rest i) i = t := by
  have a := least_can l rest i
  rcases Nat.lt_trichotomy (leastT l rest (mkTo l rest i) i) t with h | h | h
  · rw [h2 _ h] at a; cases a
  · exact h
  · have := least_lt l rest i h; rw [h1] at this; cases this

theorem canTo_same {l : List Rn} {rest : Int} {r r' : List Int} {i : Nat} {t : Int} {j : Nat} (h : ∀ k, k < j → r.getD k 0 = r'.getD k 0) : canTo l rest r i t j = canTo l rest r' i t j := by
  rw [Bool.eq_iff_iff, canTo_iff, canTo_iff]
  constructor
  · intro a k hk ht; exact a k hk (by rw [h k hk]; exact ht)
  · intro a k hk ht; exact a k hk (by rw [← h k hk]; exact ht)

/-- Each team of the roster could begin its run. -/
theorem mk_can (l : List Rn) (rest : Int) {k i : Nat} (hi : i < k) : canU l rest (mkTo l rest k) i ((mkTo l rest k).getD i 0) = true := by
  have e : (mkTo l rest k).getD i 0 = (leastT l rest (mkTo l rest i) i : Int) := by rw [mkTo_le l rest (show i < i + 1 by omega) (show i + 1 ≤ k by omega), mkTo_at]
  rw [e]
  unfold canU
  rw [canTo_same (r' := mkTo l rest i) (fun j hj => mkTo_le l rest hj (by omega))]
  exact least_can l rest i

/-- How many teams the first k runs have: more than each of their numbers. -/
def cntTo (l : List Rn) (rest : Int) : Nat → Nat
  | 0 => 0
  | k + 1 => max (cntTo l rest k) (leastT l rest (mkTo l rest k) k + 1)

theorem cntTo_succ (l : List Rn) (rest : Int) (k : Nat) : cntTo l rest (k + 1) = max (cntTo l rest k) (leastT l rest (mkTo l rest k) k + 1) := rfl
theorem cntTo_le (l : List Rn) (rest : Int) : ∀ k, cntTo l rest k ≤ k
  | 0 => Nat.le_refl _
  | k + 1 => by
    have := cntTo_le l rest k
    have := leastT_le l rest (mkTo l rest k) k
    rw [cntTo_succ]; omega
theorem cntTo_mono (l : List Rn) (rest : Int) {k : Nat} : ∀ {m : Nat}, k ≤ m → cntTo l rest k ≤ cntTo l rest m
  | 0, h => by obtain rfl : k = 0 := by omega
               exact Nat.le_refl _
  | m + 1, h => by
    by_cases e : k = m + 1
    · subst e; exact Nat.le_refl _
    · have := cntTo_mono l rest (show k ≤ m by omega); rw [cntTo_succ]; omega
theorem mk_cnt (l : List Rn) (rest : Int) {k i : Nat} (hi : i < k) : (mkTo l rest k).getD i 0 < (cntTo l rest k : Int) := by
  rw [mkTo_le l rest (show i < i + 1 by omega) (show i + 1 ≤ k by omega), mkTo_at]
  have h1 := cntTo_mono l rest (show i + 1 ≤ k by omega)
  rw [cntTo_succ] at h1
  omega

/-- Each number below the count has had a run. -/
theorem cnt_used (l : List Rn) (rest : Int) : ∀ (k : Nat) {t : Nat}, t < cntTo l rest k → ∃ i, i < k ∧ (mkTo l rest k).getD i 0 = (t : Int)
  | 0, t, h => by cases h
  | k + 1, t, h => by
    rw [cntTo_succ] at h
    by_cases h1 : t < cntTo l rest k
    · obtain ⟨i, hi, e⟩ := cnt_used l rest k h1
      exact ⟨i, by omega, by rw [mkTo_lt l rest hi]; exact e⟩
    · by_cases h2 : t = leastT l rest (mkTo l rest k) k
      · exact ⟨k, by omega, by rw [mkTo_at, h2]⟩
      · exfalso
        have h3 := least_lt l rest k (show t < leastT l rest (mkTo l rest k) k by omega)
        have h4 : canU l rest (mkTo l rest k) k (t : Int) = true := canTo_iff.2 fun i hi ht => by have := mk_cnt l rest hi; omega
        rw [h4] at h3; cases h3

end Go.Proofs.Ytmcapcclnkicbab
