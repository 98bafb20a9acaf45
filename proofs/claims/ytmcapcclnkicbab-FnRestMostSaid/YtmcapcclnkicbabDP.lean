/- Pure facts for the promises' laws: rests and teams. -/
import Derived.Test.YtmcapcclnkicbabUH
namespace Go.Proofs.Ytmcapcclnkicbab

theorem downTo_fits (l : List Rn) (teams : Int) : ∀ k : Nat, downTo l teams k = -1 ∨ (0 ≤ downTo l teams k ∧ leastV l (downTo l teams k) ≤ teams)
  | 0 => .inl rfl
  | k + 1 => by
    unfold downTo
    split
    · exact .inr ⟨by omega, by assumption⟩
    · exact downTo_fits l teams k
/-- What lies between it and k is too much. -/
theorem downTo_over (l : List Rn) (teams : Int) : ∀ (k j : Nat), j < k → downTo l teams k < (j : Int) → teams < leastV l (j : Int)
  | k + 1, j, hj, h => by
    unfold downTo at h
    split at h
    · omega
    · rename_i hk
      by_cases e : j = k
      · subst e; omega
      · exact downTo_over l teams k j (by omega) h
theorem downTo_mono (l : List Rn) {a b : Int} (h : a ≤ b) : ∀ k : Nat, downTo l a k ≤ downTo l b k
  | 0 => Int.le_refl _
  | k + 1 => by
    have ih := downTo_mono l h k
    have hb : ∀ (t : Int) (k : Nat), downTo l t k < k := fun t k => by
      induction k with
      | zero => show (-1 : Int) < 0; omega
      | succ k ih => unfold downTo; split <;> omega
    have := hb a k
    unfold downTo
    split
    · rw [if_pos (by omega)]; exact Int.le_refl _
    · split
      · omega
      · exact ih
theorem downTo_lt (l : List Rn) (t : Int) (k : Nat) : downTo l t k < k := by
  induction k with
  | zero => show (-1 : Int) < 0; omega
  | succ k ih => unfold downTo; split <;> omega

theorem restOk_iff {l : List Rn} {teams : Int} : restOk l teams = true ↔ validU l = true ∧ 1 ≤ teams ∧ teams ≤ 12 := by simp [restOk]

/-- What FnRestMost asks. -/
theorem rest_law {l : List Rn} {teams : Int} (h : 0 ≤ restV l teams) :
    leastV l (restV l teams) ≤ teams ∧ (restV l teams = 600 ∨ teams < leastV l (restV l teams + 1)) ∧ (teams = 12 ∨ restV l teams ≤ restV l (teams + 1)) ∧ 1 ≤ teams ∧ teams ≤ 12 ∧ restV l teams ≤ 600 := by
  unfold restV at h ⊢
  split at h
  · rename_i hok
    obtain ⟨h1, h2, h3⟩ := restOk_iff.1 hok
    rw [if_pos hok]
    have hlt := downTo_lt l teams 601
    refine ⟨?_, ?_, ?_, h2, h3, by omega⟩
    · rcases downTo_fits l teams 601 with e | ⟨_, e⟩
      · omega
      · exact e
    · by_cases e : downTo l teams 601 = 600
      · exact .inl e
      · obtain ⟨n, hn⟩ : ∃ n : Nat, downTo l teams 601 = (n : Int) := ⟨(downTo l teams 601).toNat, by omega⟩
        have := downTo_over l teams 601 (n + 1) (by omega) (by omega)
        refine .inr ?_
        rw [hn]
        exact this
    · by_cases e : teams = 12
      · exact .inl e
      · rw [if_pos (restOk_iff.2 ⟨h1, by omega, by omega⟩)]
        exact .inr (downTo_mono l (by omega) 601)
  · omega

end Go.Proofs.Ytmcapcclnkicbab
