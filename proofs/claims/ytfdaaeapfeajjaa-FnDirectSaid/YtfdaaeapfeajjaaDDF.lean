/- Facts of a direct road; no program. -/
import Derived.Test.YtfdaaeapfeajjaaRF
import Derived.Test.YtfdaaeapfeajjaaRP
import Derived.Test.YtfdaaeapfeajjaaW7
namespace Go.Proofs.Ytfdaaeapfeajjaa

theorem direct_facts {n : Int} {l : List Rd} {a b d : Int} (hd : directOf n l a b = d) (h : 0 ≤ d) :
    directOf n l b a = d ∧ (1 ≤ farOf n l a b ∧ farOf n l a b ≤ d) ∧ addROk n l ⟨min a b, max a b, 1⟩ = false ∧ wayLenOf n l [a, b] = d ∧ d ≤ 99 ∧ (0 ≤ a ∧ a < n ∧ 0 ≤ b ∧ b < n) := by
  unfold directOf at hd
  by_cases hz : validR n l = true
  · rw [if_pos hz] at hd
    cases he : edge l a b with
    | none => rw [he] at hd; simp at hd; omega
    | some m =>
      rw [he] at hd
      have hm : m = d := by simpa using hd
      subst hm
      obtain ⟨h1, h2, h3, h4, h5, h6, h7⟩ := edge_miles hz he
      have heb : edge l b a = some m := by rw [← edge_symm]; exact he
      have hw : Way (edge l) a b m := by have := Way.snoc (Way.nil a) he; rwa [Int.zero_add] at this
      obtain ⟨d, hD⟩ := dist_exists (edges_ok hz).pos ⟨_, hw⟩
      have hf := far_of_dist hz ⟨h1, h2⟩ hD
      have n0 := hD.nonneg (edges_ok hz).pos
      have n1 := hD.zero_iff (edges_ok hz).pos
      have n2 := hD.2 _ hw
      refine ⟨?_, ?_, ?_, ?_, h6, h1, h2, h3, h4⟩
      · unfold directOf; rw [if_pos hz, heb]; rfl
      · rw [hf]; exact ⟨by rcases Int.lt_or_le 0 d with q | q; exact q; exact absurd (n1.1 (by omega)) h7, n2⟩
      · cases ho : addROk n l ⟨min a b, max a b, 1⟩ with
        | false => rfl
        | true =>
          unfold addROk at ho
          have hk := (validR_iff.1 ho).2 l.length (by simp)
          obtain ⟨_, hs⟩ := (okAt_iff _ _ _).1 hk
          obtain ⟨r, hr, _, e1, e2⟩ := edge_some he
          have := hs r (by simpa using hr)
          have e3 : (l ++ [(⟨min a b, max a b, 1⟩ : Rd)]).getD l.length rd0 = ⟨min a b, max a b, 1⟩ := by simp [List.getD]
          rw [e3] at this
          unfold same at this
          simp [e1, e2] at this
      · unfold wayLenOf
        rw [if_pos ⟨hz, by simp⟩]
        have t1 : wayTo n l [a, b] 1 = some 0 := by
          have q : 0 ≤ a ∧ a ≤ n - 1 := by omega
          unfold wayTo wayTo
          simp [q]
        have t2 : wayTo n l [a, b] 2 = some m := by
          unfold wayTo
          have q : 0 ≤ b ∧ b ≤ n - 1 := by omega
          rw [t1]
          simp [he, q]
        show (wayTo n l [a, b] 2).getD (-1) = m
        rw [t2]; rfl
  · rw [if_neg hz] at hd; omega

end Go.Proofs.Ytfdaaeapfeajjaa
