/- Any list: insertion sort leaves equals in their order; the list that it gives: pure. -/
import Derived.Sort.LotA
import Derived.Test.YtmdcpigobfhckaaG
namespace Go.Proofs.Ytmdcpigobfhckaa
open Go.Sort

theorem ext_all {α : Type} {d : Array α} {n : Nat} (h : d.size = n) : d.extract 0 n = d := by subst h; simp

section
variable {m : Nat}
/-- Less, or as great and of the lesser number. -/
def lexF (lt : Fin (m + 1) → Fin (m + 1) → Bool) (x y : Fin (m + 1)) : Bool := lt x y || (!lt y x && decide (x.val < y.val))

theorem lexF_swo {lt : Fin (m + 1) → Fin (m + 1) → Bool} (h : SWO lt) : SWO (lexF lt) where
  irrefl x := by simp [lexF, h.irrefl]
  trans x y z h1 h2 := by
    simp only [lexF, Bool.or_eq_true, Bool.and_eq_true, Bool.not_eq_true', decide_eq_true_eq] at h1 h2 ⊢
    rcases h1 with h1 | ⟨h1, h1'⟩ <;> rcases h2 with h2 | ⟨h2, h2'⟩
    · exact .inl (h.trans x y z h1 h2)
    · left
      cases h3 : lt x z with
      | true => rfl
      | false => have := h.ntrans x z y h3 h2; rw [h1] at this; cases this
    · left
      cases h3 : lt x z with
      | true => rfl
      | false => have := h.ntrans y x z h1 h3; rw [h2] at this; cases this
    · right
      exact ⟨h.ntrans z y x h2 h1, by omega⟩
  ntrans x y z h1 h2 := by
    simp only [lexF, Bool.or_eq_false_iff, Bool.and_eq_false_iff, Bool.not_eq_false', decide_eq_false_iff_not] at h1 h2 ⊢
    obtain ⟨h1, h1'⟩ := h1
    obtain ⟨h2, h2'⟩ := h2
    refine ⟨h.ntrans x y z h1 h2, ?_⟩
    cases h3 : lt z x with
    | true => exact .inl rfl
    | false =>
      right
      have a1 : lt y x = false := by
        cases h4 : lt y x with
        | false => rfl
        | true => have := h.ntrans y z x h2 h3; rw [h4] at this; cases this
      have a2 : lt z y = false := by
        cases h4 : lt z y with
        | false => rfl
        | true => have := h.ntrans z x y h3 h1; rw [h4] at this; cases this
      rw [a1] at h1'; rw [a2] at h2'
      simp at h1' h2'
      omega
/-- The moved one has the greatest number so far: less just if less. -/
theorem inner_same (lt : Fin (m + 1) → Fin (m + 1) → Bool) : ∀ (j : Nat) (d : Array (Fin (m + 1))), j < d.size → (∀ k, k < j → (d[k]!).val < (d[j]!).val) → insInner lt 0 j d = insInner (lexF lt) 0 j d
  | 0, d, _, _ => rfl
  | j + 1, d, hj, h => by
    have hd := h j (by omega)
    have e : lexF lt d[j + 1]! d[j]! = lt d[j + 1]! d[j]! := by
      unfold lexF
      rw [show decide ((d[j + 1]!).val < (d[j]!).val) = false by simp only [decide_eq_false_iff_not]; omega, Bool.and_false, Bool.or_false]
    have hs : j < (swp d (j + 1) j).size := by rw [size_swp]; omega
    have ih := inner_same lt j (swp d (j + 1) j) hs (fun k hk => by
      rw [swp_other d (j + 1) j k (by omega) (by omega), swp_right d (j + 1) j (by omega)]
      exact h k (by omega))
    simp only [insInner, e]
    split
    · exact ih
    · rfl

/-- What stands behind the place stays; what is ahead of it and at it are the same. -/
theorem inner_keep (lt : Fin (m + 1) → Fin (m + 1) → Bool) (i : Nat) : ∀ (j : Nat) (d : Array (Fin (m + 1))), j ≤ i → i < d.size →
    (insInner lt 0 j d).size = d.size ∧ (∀ k, i < k → (insInner lt 0 j d)[k]! = d[k]!) ∧ ((∀ k, k ≤ i → (d[k]!).val ≤ i) → ∀ k, k ≤ i → ((insInner lt 0 j d)[k]!).val ≤ i)
  | 0, d, _, _ => ⟨rfl, fun _ _ => rfl, fun h => h⟩
  | j + 1, d, hj, hi => by
    simp only [insInner]
    split
    · obtain ⟨h1, h2, h3⟩ := inner_keep lt i j (swp d (j + 1) j) (by omega) (by rw [size_swp]; exact hi)
      refine ⟨by rw [h1, size_swp], fun k hk => by rw [h2 k hk, swp_other d _ _ k (by omega) (by omega)], fun h => h3 fun k hk => ?_⟩
      by_cases e1 : k = j + 1
      · subst e1; rw [swp_left d (j + 1) j (by omega) (by omega)]; exact h j (by omega)
      · by_cases e2 : k = j
        · subst e2; rw [swp_right d (k + 1) k (by omega)]; exact h (k + 1) (by omega)
        · rw [swp_other d _ _ k e1 e2]; exact h k hk
    · exact ⟨rfl, fun _ _ => rfl, fun h => h⟩

theorem outer_go (lt : Fin (m + 1) → Fin (m + 1) → Bool) {n i : Nat} (d : Array (Fin (m + 1))) (h : i < n) : insOuter lt 0 n i d = insOuter lt 0 n (i + 1) (insInner lt 0 i d) := by
  rw [insOuter, if_pos h]
theorem outer_stop (lt : Fin (m + 1) → Fin (m + 1) → Bool) {n i : Nat} (d : Array (Fin (m + 1))) (h : ¬ i < n) : insOuter lt 0 n i d = d := by
  rw [insOuter, if_neg h]
theorem outer_same (lt : Fin (m + 1) → Fin (m + 1) → Bool) (n : Nat) : ∀ (t i : Nat) (d : Array (Fin (m + 1))), n - i = t → n ≤ d.size → (∀ k, i ≤ k → k < n → (d[k]!).val = k) → (∀ k, k < i → k < n → (d[k]!).val < i) →
    insOuter lt 0 n i d = insOuter (lexF lt) 0 n i d
  | 0, i, d, ht, _, _, _ => by
    rw [outer_stop _ _ (by omega), outer_stop _ _ (by omega)]
  | t + 1, i, d, ht, hn, h1, h2 => by
    have hin : i < n := by omega
    have hi := h1 i (Nat.le_refl _) hin
    rw [outer_go _ _ hin, outer_go _ _ hin]
    have e := inner_same lt i d (by omega) (fun k hk => by rw [hi]; exact h2 k hk (by omega))
    rw [e]
    obtain ⟨g1, g2, g3⟩ := inner_keep (lexF lt) i i d (Nat.le_refl _) (by omega)
    have g3' := g3 (fun k hk => by
      by_cases e : k = i
      · subst e; omega
      · have := h2 k (by omega) (by omega); omega)
    exact outer_same lt n t (i + 1) _ (by omega) (by rw [g1]; exact hn) (fun k hk hkn => by rw [g2 k (by omega)]; exact h1 k (by omega) hkn) (fun k hk _ => by have := g3' k (by omega); omega)

theorem ofFn_at {k : Nat} (h : k < m + 1) : ((Array.ofFn (n := m + 1) id)[k]!).val = k := by
  rw [getElem!_pos _ k (by simpa using h)]; simp

theorem sort_same (lt : Fin (m + 1) → Fin (m + 1) → Bool) : insertionSort lt (Array.ofFn (n := m + 1) id) 0 (m + 1) = insertionSort (lexF lt) (Array.ofFn (n := m + 1) id) 0 (m + 1) := by
  unfold insertionSort
  refine outer_same lt (m + 1) _ (0 + 1) _ rfl (by simp) (fun k hk hkn => ofFn_at hkn) (fun k hk hkn => ?_)
  rw [ofFn_at hkn]; exact hk

/-- All of them, none twice, ascending by less, equals by their number. -/
theorem sort_list {lt : Fin (m + 1) → Fin (m + 1) → Bool} (hS : SWO lt) (d : Array (Fin (m + 1))) (hd : d = insertionSort lt (Array.ofFn (n := m + 1) id) 0 (m + 1)) :
    d.size = m + 1 ∧ (d.toList.map fun x => x.val).Perm (List.range (m + 1)) ∧ d.toList.Pairwise fun x y => lexF lt y x = false := by
  rw [sort_same lt] at hd
  obtain ⟨⟨p1, _, p3⟩, p4⟩ := insertionSort_holds (lexF_swo hS) (Array.ofFn (n := m + 1) id) 0 (m + 1) (Nat.zero_le _) (by simp)
  rw [← hd] at p1 p3 p4
  have hs : d.size = m + 1 := by rw [p1]; simp
  refine ⟨hs, ?_, ?_⟩
  · rw [ext_all hs, ext_all (show (Array.ofFn (n := m + 1) id).size = m + 1 by simp)] at p3
    have p5 := p3.map fun x => x.val
    refine p5.trans (List.Perm.of_eq ?_)
    apply List.ext_getElem (by simp)
    intro i h1 h2
    simp only [List.getElem_map, List.getElem_range, Array.getElem_toList, Array.getElem_ofFn, id]
  · rw [List.pairwise_iff_getElem]
    intro i j hi hj hij
    have := p4 i j (Nat.zero_le _) hij (by simpa [hs] using hj)
    rw [getElem!_pos d i (by simpa using hi), getElem!_pos d j (by simpa using hj)] at this
    simpa using this
end

end Go.Proofs.Ytmdcpigobfhckaa
