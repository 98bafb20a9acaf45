/- A free seat can be booked: why, in words; no program. -/
import Derived.Test.YtmadfbncoibapabEV
import Derived.Test.YtmadfbncoibapabEB
namespace Go.Proofs.Ytmadfbncoibapab

theorem takenB_more (l : List Bk) (r : Bk) (g : Int) (k : Bool) : takenB (l ++ [r]) g k = takenB l g k + if onB g k r then 1 else 0 := by
  simp only [takenB, takenTo, List.take_length, List.countP_append, List.countP_cons, List.countP_nil]
  omega
theorem freeUp_le (l : List Bk) (k : Bool) (a : Nat) : ∀ j, freeUp l k a j ≤ (seatsB k : Nat)
  | 0 => Int.le_refl _
  | j + 1 => by have := freeUp_le l k a j; simp only [freeUp]; omega
theorem freeUp_anti (l : List Bk) (k : Bool) (a i : Nat) : ∀ d, freeUp l k a (i + d) ≤ freeUp l k a i
  | 0 => Int.le_refl _
  | d + 1 => by have := freeUp_anti l k a i d; show freeUp l k a (i + d + 1) ≤ _; simp only [freeUp]; omega
theorem freeUp_pos (l : List Bk) (k : Bool) (a : Nat) : ∀ j, (0 < freeUp l k a j ↔ ∀ i, i < j → takenB l ((a + i : Nat) : Int) k < seatsB k)
  | 0 => by
    constructor
    · intro _ i hi; omega
    · intro _; show (0 : Int) < (seatsB k : Nat); cases k <;> decide
  | j + 1 => by
    have ih := freeUp_pos l k a j
    simp only [freeUp]
    constructor
    · intro h i hi
      by_cases e : i = j
      · subst e; omega
      · exact ih.1 (by omega) i (by omega)
    · intro h
      have h1 := ih.2 (fun i hi => h i (by omega))
      have h2 := h j (by omega)
      omega
theorem freeUp_snoc {l : List Bk} {r : Bk} {a : Nat} (ha : r.a = (a : Int)) : ∀ j, ((a + (j + 1) : Nat) : Int) ≤ r.b → freeUp (l ++ [r]) r.m a (j + 1) = freeUp l r.m a (j + 1) - 1
  | 0, hb => by
    have e : onB ((a + 0 : Nat) : Int) r.m r = true := by simp [onB]; omega
    simp only [freeUp]
    rw [takenB_more, e]
    simp only [if_true]
    omega
  | j + 1, hb => by
    have ih := freeUp_snoc (l := l) ha j (by omega)
    have e : onB ((a + (j + 1) : Nat) : Int) r.m r = true := by simp [onB]; omega
    rw [freeUp, ih]
    conv => rhs; rw [freeUp]
    rw [takenB_more, e]
    simp only [if_true]
    omega
theorem legOK_iff {l : List Bk} {g : Nat} : legOK l g = true ↔ ∀ k, takenB l g k ≤ seatsB k := by
  simp only [legOK, Bool.and_eq_true, decide_eq_true_eq]
  constructor
  · rintro ⟨h1, h2⟩ k
    cases k
    · exact h2
    · exact h1
  · intro h; exact ⟨h true, h false⟩
theorem getD_moreB {l : List Bk} {r : Bk} {i : Nat} (h : i < (l ++ [r]).length) : (i < l.length ∧ (l ++ [r]).getD i bk0 = l.getD i bk0) ∨ (i = l.length ∧ (l ++ [r]).getD i bk0 = r) := by
  simp only [List.length_append, List.length_singleton] at h
  by_cases e : i < l.length
  · exact .inl ⟨e, by simp [List.getD, List.getElem?_append, e]⟩
  · obtain rfl : i = l.length := by omega
    exact .inr ⟨rfl, by simp [List.getD]⟩
/-- A booking goes in where a seat is free on each of its legs, and there are not too many. -/
theorem book_free {n : Int} {l : List Bk} {r : Bk} (h : validB n l = true) (hf : fitsB n r = true) :
    validB n (l ++ [r]) = (decide (0 < freeUp l r.m r.a.toNat (r.b - r.a).toNat) && decide (l.length < 16)) := by
  obtain ⟨h0, h1, h2, h3⟩ := validB_iff.1 h
  obtain ⟨f0, f1, f2⟩ := fitsB_iff.1 hf
  have hp := freeUp_pos l r.m r.a.toNat (r.b - r.a).toNat
  rw [Bool.eq_iff_iff, validB_iff]
  simp only [Bool.and_eq_true, decide_eq_true_eq]
  rw [hp]
  constructor
  · rintro ⟨_, g1, _, g3⟩
    simp only [List.length_append, List.length_singleton] at g1
    refine ⟨fun i hi => ?_, by omega⟩
    have := legOK_iff.1 (g3 (r.a.toNat + i) (by omega)) r.m
    rw [takenB_more] at this
    have e : onB ((r.a.toNat + i : Nat) : Int) r.m r = true := by simp [onB]; omega
    rw [e, if_pos rfl] at this
    omega
  · rintro ⟨g1, g2⟩
    refine ⟨h0, by simp; omega, fun j hj => ?_, fun g hg => legOK_iff.2 fun k => ?_⟩
    · rcases getD_moreB hj with ⟨e1, e2⟩ | ⟨e1, e2⟩
      · rw [e2]; exact h2 j e1
      · rw [e2]; exact hf
    · rw [takenB_more]
      have hk := legOK_iff.1 (h3 g hg) k
      cases e : onB (g : Int) k r with
      | false => simpa using hk
      | true =>
        rw [if_pos rfl]
        simp only [onB, Bool.and_eq_true, decide_eq_true_eq, beq_iff_eq] at e
        obtain ⟨⟨e1, e2⟩, e3⟩ := e
        subst e1
        have := g1 (g - r.a.toNat) (by omega)
        rw [show r.a.toNat + (g - r.a.toNat) = g by omega] at this
        omega
theorem free_after {n : Int} {l : List Bk} {r : Bk} (hf : fitsB n r = true) (hv : validB n (l ++ [r]) = true) :
    freeV n (l ++ [r]) r.a r.b r.m = freeUp l r.m r.a.toNat (r.b - r.a).toNat - 1 := by
  obtain ⟨f0, f1, f2⟩ := fitsB_iff.1 hf
  rw [freeV_yes hv (by rw [← hf])]
  obtain ⟨j, hj⟩ : ∃ j, (r.b - r.a).toNat = j + 1 := ⟨(r.b - r.a).toNat - 1, by omega⟩
  rw [hj]
  exact freeUp_snoc (by omega) j (by omega)
theorem free_part {n : Int} {l : List Bk} {a b c : Int} {m : Bool} (h : validB n l = true) (hf : fitsB n ⟨a, b, m⟩ = true) (hc1 : a < c) (hc2 : c ≤ b) :
    freeUp l m a.toNat (b - a).toNat ≤ freeV n l a c m := by
  obtain ⟨f0, f1, f2⟩ := fitsB_iff.1 hf
  simp only at f0 f1 f2
  rw [freeV_yes h (fitsB_iff.2 ⟨f0, hc1, by show c ≤ n; omega⟩)]
  have := freeUp_anti l m a.toNat (c - a).toNat ((b - a).toNat - (c - a).toNat)
  rwa [show (c - a).toNat + ((b - a).toNat - (c - a).toNat) = (b - a).toNat by omega] at this
theorem freeV_neg {n : Int} {l : List Bk} {a b : Int} {m : Bool} (h : ¬ freeV n l a b m < 0) : validB n l = true ∧ fitsB n ⟨a, b, m⟩ = true ∧ freeV n l a b m = freeUp l m a.toNat (b - a).toNat := by
  by_cases hz : validB n l = true ∧ fitsB n ⟨a, b, m⟩ = true
  · exact ⟨hz.1, hz.2, freeV_yes hz.1 hz.2⟩
  · exact absurd (show freeV n l a b m < 0 by unfold freeV; rw [if_neg hz]; omega) h

end Go.Proofs.Ytmadfbncoibapab
