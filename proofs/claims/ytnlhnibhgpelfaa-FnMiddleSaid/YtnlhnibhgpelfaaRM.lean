/- Pure facts for FnMiddle. -/
import Derived.Test.YtnlhnibhgpelfaaWH
import Derived.Test.YtnlhnibhgpelfaaRF
namespace Go.Proofs.Ytnlhnibhgpelfaa

theorem bestTo_min (g : Nat → Int) : ∀ {k i : Nat}, i < k → g (bestTo g k) ≤ g i
  | k + 1, i, hi => by
    unfold bestTo
    split
    · rename_i h
      by_cases e : i = k
      · subst e; exact Int.le_refl _
      · have := bestTo_min g (show i < k by omega); omega
    · rename_i h
      by_cases e : i = k
      · subst e; omega
      · exact bestTo_min g (by omega)
theorem bestTo_first (g : Nat → Int) : ∀ {k i : Nat}, i < k → i < bestTo g k → g (bestTo g k) < g i
  | k + 1, i, hi, hb => by
    unfold bestTo at hb ⊢
    split
    · rename_i h
      rw [if_pos h] at hb
      have := bestTo_min g (show i < k by omega); omega
    · rename_i h
      rw [if_neg h] at hb
      by_cases e : i = k
      · subst e; have := bestTo_le g i; omega
      · exact bestTo_first g (by omega) hb

theorem whole_far {n : Int} {l : List Rd} (h : wholeOf n l = true) {s t : Int} (hs : 0 ≤ s ∧ s < n) (ht : 0 ≤ t ∧ t < n) : 0 ≤ farOf n l s t ∧ farOf n l s t = dst l s t := by
  obtain ⟨d, hd⟩ := whole_all h hs ht
  have hz := whole_valid h
  rw [farOf_in hz hs]
  unfold dst
  rw [hd]
  exact ⟨(dist_bd hz hd).1, rfl⟩

/-- What FnMiddle asks. -/
theorem mid_law {n : Int} {l : List Rd} (h : wholeOf n l = true) (hn : 1 ≤ n) :
    bestTo (mostN n l) n.toNat < n.toNat ∧ 0 ≤ mostN n l (bestTo (mostN n l) n.toNat) ∧ mostN n l (bestTo (mostN n l) n.toNat) ≤ 100000 ∧
    (∀ a b : Nat, (a : Int) < n → (b : Int) < n → 0 ≤ farOf n l a b ∧ farOf n l a b = dst l a b ∧ farOf n l a b ≤ 2 * mostN n l (bestTo (mostN n l) n.toNat)) ∧
    (∀ a : Nat, (a : Int) < n → mostN n l (bestTo (mostN n l) n.toNat) ≤ mostN n l a) ∧
    (∀ a : Nat, a < bestTo (mostN n l) n.toNat → mostN n l (bestTo (mostN n l) n.toNat) < mostN n l a) := by
  have hB := bestTo_lt (mostN n l) (show 0 < n.toNat by omega)
  have hz := whole_valid h
  refine ⟨hB, (mostOf_bd hz _).1, (mostOf_bd hz _).2, fun a b ha hb => ?_, fun a ha => bestTo_min _ (by omega), fun a ha => bestTo_first _ (by omega) ha⟩
  generalize bestTo (mostN n l) n.toNat = B at *
  have hBn : 0 ≤ (B : Int) ∧ (B : Int) < n := by omega
  obtain ⟨h1, e1⟩ := whole_far h (s := (a : Int)) (t := (b : Int)) (by omega) (by omega)
  obtain ⟨h2, e2⟩ := whole_far h (s := (B : Int)) (t := (a : Int)) hBn (by omega)
  obtain ⟨h3, e3⟩ := whole_far h (s := (B : Int)) (t := (b : Int)) hBn (by omega)
  have g2 : dst l B a ≤ mostN n l B := mostTo_ge (dst l B) (show a < n.toNat by omega)
  have g3 : dst l B b ≤ mostN n l B := mostTo_ge (dst l B) (show b < n.toNat by omega)
  have ht := (far_tri (show 0 ≤ farOf n l a B by rw [far_symm]; exact h2) h3).2
  rw [far_symm n l B a] at ht
  exact ⟨h1, e1, by omega⟩

end Go.Proofs.Ytnlhnibhgpelfaa
