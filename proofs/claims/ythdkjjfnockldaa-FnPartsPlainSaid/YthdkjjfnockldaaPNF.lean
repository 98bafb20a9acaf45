/- Facts of plain roads: no equal neighbors; sold miles; pure. -/
import Derived.Test.YthdkjjfnockldaaPF
namespace Go.Proofs.Ythdkjjfnockldaa

theorem getD_setP (l : List Pt) (i j : Nat) (r : Pt) (hi : i < l.length) : (l.set i r).getD j pt0 = if i = j then r else l.getD j pt0 := by
  by_cases e : i = j
  · subst e; rw [if_pos rfl]; simp [List.getD, hi]
  · rw [if_neg e]; simp [List.getD, List.getElem?_set, e]
theorem plainL_nb (os : List Int) : ∀ i, i + 1 < (plainL os).length → ((plainL os).getD (i + 1) pt0).a ≠ ((plainL os).getD i pt0).a := by
  refine snocRec (motive := fun os => ∀ i, i + 1 < (plainL os).length → ((plainL os).getD (i + 1) pt0).a ≠ ((plainL os).getD i pt0).a) (fun i hi => by simp [plainL] at hi) (fun os o ih => ?_) os
  by_cases h : 0 < (plainL os).length ∧ ((plainL os).getD ((plainL os).length - 1) pt0).a = o
  · rw [plainL_hit h.1 h.2]
    have ha : ∀ j, (((plainL os).set ((plainL os).length - 1) ⟨o, ((plainL os).getD ((plainL os).length - 1) pt0).b + 1⟩).getD j pt0).a = ((plainL os).getD j pt0).a := fun j => by
      rw [getD_setP _ _ _ _ (by omega)]
      split
      · rename_i e; rw [← e]; exact h.2.symm
      · rfl
    intro i hi
    rw [List.length_set] at hi
    rw [ha, ha]
    exact ih i hi
  · rw [plainL_miss h]
    intro i hi
    rw [List.length_append] at hi
    simp only [List.length_singleton] at hi
    by_cases e : i + 1 < (plainL os).length
    · rw [Pt.getD_snoc_lt _ _ e, Pt.getD_snoc_lt _ _ (by omega)]; exact ih i e
    · have e1 : i + 1 = (plainL os).length := by omega
      rw [Pt.getD_snoc_eq _ _ e1, Pt.getD_snoc_lt _ _ (by omega)]
      intro q
      exact h ⟨by omega, by rw [show (plainL os).length - 1 = i by omega]; exact q.symm⟩

end Go.Proofs.Ythdkjjfnockldaa
