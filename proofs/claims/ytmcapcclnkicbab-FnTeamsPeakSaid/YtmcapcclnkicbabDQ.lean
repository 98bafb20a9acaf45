/- Pure facts for the promises' laws: the first peak. -/
import Derived.Test.YtmcapcclnkicbabUH
import Derived.Test.YtmcapcclnkicbabUY
namespace Go.Proofs.Ytmcapcclnkicbab

/-- How many runs from the first on start at t or ahead of it. -/
def leadU : List Rn → Int → Nat
  | [], _ => 0
  | r :: l, t => if r.a ≤ t then leadU l t + 1 else 0
theorem leadU_le : ∀ (l : List Rn) (t : Int), leadU l t ≤ l.length
  | [], _ => Nat.le_refl _
  | r :: l, t => by
    have := leadU_le l t
    unfold leadU; split <;> simp <;> omega
theorem leadU_at : ∀ (l : List Rn) (t : Int) (i : Nat), i < leadU l t → (l.getD i rn0).a ≤ t
  | [], _, _, h => by simp [leadU] at h
  | r :: l, t, i, h => by
    unfold leadU at h
    split at h
    · rename_i hr
      cases i with
      | zero => exact hr
      | succ i => exact leadU_at l t i (by omega)
    · omega
theorem leadU_stop : ∀ (l : List Rn) (t : Int), leadU l t < l.length → ¬ (l.getD (leadU l t) rn0).a ≤ t
  | [], _, h => by simp [leadU] at h
  | r :: l, t, h => by
    unfold leadU at h ⊢
    split
    · rename_i hr
      rw [if_pos hr] at h
      exact leadU_stop l t (by simp at h; omega)
    · rename_i hr; exact hr

/-- A time is at most as busy as the last start at it or ahead of it. -/
theorem busy_start {l : List Rn} {rest : Int} (hz : validU l = true) (t : Int) : busyU l rest t = 0 ∨ ∃ i, i < l.length ∧ (l.getD i rn0).a ≤ t ∧ busyU l rest t ≤ busyU l rest (l.getD i rn0).a := by
  have hle := leadU_le l t
  have hlate : ∀ j, j < l.length → leadU l t ≤ j → t < (l.getD j rn0).a := fun j hj h => by
    have h1 := leadU_stop l t (by omega)
    have h2 := validU_le hz h hj
    omega
  by_cases h0 : leadU l t = 0
  · left
    unfold busyU busyTo
    rw [List.take_length, List.countP_eq_zero]
    intro x hx
    obtain ⟨j, hj, rfl⟩ := List.getElem_of_mem hx
    have h1 := hlate j hj (by omega)
    rw [Rn.getD_eq l hj] at h1
    simp only [Bool.and_eq_true, decide_eq_true_eq]
    omega
  · right
    refine ⟨leadU l t - 1, by omega, leadU_at l t _ (by omega), ?_⟩
    have hi := leadU_at l t (leadU l t - 1) (by omega)
    unfold busyU busyTo
    rw [List.take_length]
    refine List.countP_mono_left fun x hx h => ?_
    obtain ⟨j, hj, rfl⟩ := List.getElem_of_mem hx
    simp only [Bool.and_eq_true, decide_eq_true_eq] at h ⊢
    rw [← Rn.getD_eq l hj] at h ⊢
    have hjp : j < leadU l t := by
      refine Nat.lt_of_not_le fun hn => ?_
      have := hlate j hj hn
      omega
    have h2 := validU_le hz (show j ≤ leadU l t - 1 by omega) (by omega)
    omega

theorem best_is (l : List Rn) (rest : Int) : ∀ k, k ≤ l.length → 0 < l.length → ∃ j, j < max k 1 ∧ bestTo l rest k = (l.getD j rn0).a
  | 0, _, _ => ⟨0, by omega, rfl⟩
  | k + 1, hk, h0 => by
    obtain ⟨j, hj, e⟩ := best_is l rest k (by omega) h0
    unfold bestTo
    split
    · exact ⟨k, by omega, rfl⟩
    · exact ⟨j, by omega, e⟩

theorem best_most {l : List Rn} {rest : Int} : ∀ k i, i < k → k ≤ l.length → busyU l rest (l.getD i rn0).a ≤ busyU l rest (bestTo l rest k)
  | k + 1, i, hi, hk => by
    unfold bestTo
    split
    · rename_i h
      by_cases e : i = k
      · subst e; exact Nat.le_refl _
      · have := best_most (l := l) (rest := rest) k i (by omega) (by omega); omega
    · rename_i h
      by_cases e : i = k
      · subst e; omega
      · exact best_most k i (by omega) (by omega)

theorem best_first {l : List Rn} {rest : Int} (hz : validU l = true) : ∀ k i, i < k → k ≤ l.length → (l.getD i rn0).a < bestTo l rest k → busyU l rest (l.getD i rn0).a < busyU l rest (bestTo l rest k)
  | k + 1, i, hi, hk, ha => by
    unfold bestTo at ha ⊢
    split
    · rename_i h
      rw [if_pos h] at ha
      by_cases e : i = k
      · subst e; omega
      · have := best_most (l := l) (rest := rest) k i (by omega) (by omega); omega
    · rename_i h
      rw [if_neg h] at ha
      by_cases e : i = k
      · subst e
        obtain ⟨j, hj, e2⟩ := best_is l rest i (by omega) (by omega)
        have h2 := validU_le hz (show j ≤ i by omega) (by omega)
        omega
      · exact best_first hz k i (by omega) (by omega) ha

/-- Ahead of the first peak less are busy. -/
theorem peak_first {l : List Rn} {rest : Int} (hz : okR l rest = true) (h0 : 0 < l.length) {t : Int} (ht : t < bestTo l rest l.length) : busyU l rest t < busyU l rest (bestTo l rest l.length) := by
  obtain ⟨h1, h2, h3⟩ := okR_iff.1 hz
  rcases busy_start (rest := rest) h1 t with h | ⟨i, hi, hit, hb⟩
  · have h4 := best_most (l := l) (rest := rest) l.length 0 h0 (Nat.le_refl _)
    have h5 := busyU_pos (k := 0) hz h0
    omega
  · have h4 := best_first (rest := rest) h1 l.length i hi (Nat.le_refl _) (by omega)
    omega

theorem peak_least {l : List Rn} {rest : Int} (hz : okR l rest = true) (h0 : 0 < l.length) : ((busyU l rest (bestTo l rest l.length) : Nat) : Int) = leastV l rest := by
  unfold leastV
  rw [if_pos hz]
  have h1 := mostTo_le l rest (k := l.length) (fun i hi => best_most (l := l) (rest := rest) l.length i hi (Nat.le_refl _))
  obtain ⟨j, hj, e⟩ := best_is l rest l.length (Nat.le_refl _) h0
  have h2 := mostTo_ge l rest (i := j) (k := l.length) (by omega)
  rw [← e] at h2
  omega

theorem busy_le_least {l : List Rn} {rest : Int} (hz : okR l rest = true) (t : Int) : ((busyU l rest t : Nat) : Int) ≤ leastV l rest := by
  unfold leastV
  rw [if_pos hz]
  have h1 := busy_le_cnt hz t
  rw [cnt_most hz] at h1
  omega

theorem busy_split (l : List Rn) (rest t : Int) (k : Nat) : busyU (l.take k) rest t + busyU (l.drop k) rest t = busyU l rest t := by
  unfold busyU busyTo
  rw [List.take_length, List.take_length, List.take_length, ← List.countP_append, List.take_append_drop]

end Go.Proofs.Ytmcapcclnkicbab
