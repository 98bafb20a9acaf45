/- Pure facts for the promises' laws of chapter 1: distances. -/
import Derived.Test.YtfdaaeapfeajjaaWF
import Derived.Test.YtfdaaeapfeajjaaY
namespace Go.Proofs.Ytfdaaeapfeajjaa

theorem far_facts {n : Int} {l : List Rd} {a b : Int} (h : 0 ≤ farOf n l a b) : validR n l = true ∧ (0 ≤ a ∧ a < n) ∧ (0 ≤ b ∧ b < n) ∧ Dist (edge l) a b (farOf n l a b) := by
  by_cases hz : validR n l = true
  · by_cases ha : 0 ≤ a ∧ a < n
    · have e := farOf_in hz ha (b := b)
      cases hd : distO (edge l) a b with
      | none => rw [hd] at e; rw [e] at h; exact absurd h (by decide)
      | some d =>
        rw [hd] at e
        have e' : farOf n l a b = d := e
        have hD := distO_some.1 hd
        exact ⟨hz, ha, (edges_ok hz).town hD ha, by rw [e']; exact hD⟩
    · rw [farOf_out (.inl ha)] at h; omega
  · rw [far_neg (.inl (by simpa using hz))] at h; omega
theorem far_of_dist {n : Int} {l : List Rd} {a b d : Int} (hz : validR n l = true) (ha : 0 ≤ a ∧ a < n) (hd : Dist (edge l) a b d) : farOf n l a b = d := by
  rw [farOf_in hz ha, distO_some.2 hd]; rfl
theorem edge_sym (l : List Rd) : Sym (edge l) := fun x y => edge_symm l x y
theorem far_ge (n : Int) (l : List Rd) (a b : Int) : -1 ≤ farOf n l a b ∧ farOf n l a b ≤ 792 := by
  by_cases h : 0 ≤ farOf n l a b
  · obtain ⟨hz, ha, hb, hd⟩ := far_facts h
    have := (edges_ok hz).dist hd
    omega
  · refine ⟨?_, by omega⟩
    by_cases hz : validR n l = true
    · by_cases ha : 0 ≤ a ∧ a < n
      · rw [farOf_in hz ha]
        cases hd : distO (edge l) a b with
        | none => simp
        | some d => have := dist_bd hz hd; simp; omega
      · rw [farOf_out (.inl ha)]; omega
    · rw [far_neg (.inl (by simpa using hz))]; omega
theorem far_symm_le {n : Int} {l : List Rd} {a b : Int} (h : 0 ≤ farOf n l a b) : farOf n l b a = farOf n l a b := by
  obtain ⟨hz, ha, hb, hd⟩ := far_facts h
  exact far_of_dist hz hb (hd.symm (edge_sym l))
theorem far_symm (n : Int) (l : List Rd) (a b : Int) : farOf n l b a = farOf n l a b := by
  by_cases h : 0 ≤ farOf n l a b
  · exact far_symm_le h
  · by_cases h' : 0 ≤ farOf n l b a
    · exact (far_symm_le h').symm
    · have h1 := far_ge n l a b; have h2 := far_ge n l b a; omega
theorem far_tri {n : Int} {l : List Rd} {a b c : Int} (h1 : 0 ≤ farOf n l a b) (h2 : 0 ≤ farOf n l b c) : 0 ≤ farOf n l a c ∧ farOf n l a c ≤ farOf n l a b + farOf n l b c := by
  obtain ⟨hz, ha, hb, d1⟩ := far_facts h1
  obtain ⟨_, _, hc, d2⟩ := far_facts h2
  have hw := d1.1.trans d2.1
  obtain ⟨d, hd⟩ := dist_exists (edges_ok hz).pos ⟨_, hw⟩
  rw [far_of_dist hz ha hd]
  exact ⟨hd.nonneg (edges_ok hz).pos, hd.2 _ hw⟩
theorem far_zero {n : Int} {l : List Rd} {a b : Int} (h : 0 ≤ farOf n l a b) : farOf n l a b = 0 ↔ a = b := by
  obtain ⟨hz, ha, hb, d1⟩ := far_facts h
  exact d1.zero_iff (edges_ok hz).pos

/-- What FnFar asks. -/
theorem far_law {n : Int} {l : List Rd} {a b : Int} (h : 0 ≤ farOf n l a b) (c : Int) : (0 ≤ farOf n l a c ∧ 0 ≤ farOf n l c b ∧ farOf n l a b ≤ farOf n l a c + farOf n l c b) ∨ (farOf n l a c < 0 ∧ farOf n l c b < 0) := by
  by_cases h1 : 0 ≤ farOf n l a c
  · have h2 := (far_tri (far_symm_le h1 ▸ h1 : 0 ≤ farOf n l c a) h).1
    exact .inl ⟨h1, h2, (far_tri h1 h2).2⟩
  · refine .inr ⟨by omega, ?_⟩
    by_cases h2 : 0 ≤ farOf n l c b
    · have h3 : 0 ≤ farOf n l b c := by rw [far_symm]; exact h2
      have := (far_tri h h3).1
      omega
    · omega

end Go.Proofs.Ytfdaaeapfeajjaa
