/- Facts of connections. -/
import Derived.Test.YtmphpbjmpokjjabYE
namespace Go.Proofs.Ytmphpbjmpokjjab

theorem waitW_add (n : Int) (a b : List Rd) (town late change : Int) : waitW n a b town late change = waitW n a b town 0 change + late := by
  unfold waitW; omega
theorem made_iff {n : Int} {a b : List Rd} {town late change most : Int} : madeX n a b town late change most = true ↔ 0 ≤ stopsAtV n a town ∧ 0 ≤ stopsAtV n b town ∧ (0 ≤ late ∧ late ≤ 300) ∧ (0 ≤ change ∧ change ≤ 300) ∧ (0 ≤ most ∧ most ≤ 300) ∧ waitW n a b town 0 change + late ≤ most := by
  unfold madeX
  rw [Bool.and_eq_true, Bool.and_eq_true, waitOk_iff, okDl_iff, okDl_iff, okDl_iff, decide_eq_true_eq]
  constructor
  · rintro ⟨⟨h1, h2, h3, h4⟩, h5, h6⟩
    unfold waitX at h6
    rw [if_pos (waitOk_iff.2 ⟨h1, h2, okDl_iff.2 h3, okDl_iff.2 h4⟩), waitW_add] at h6
    exact ⟨h1, h2, h3, h4, h5, h6⟩
  · rintro ⟨h1, h2, h3, h4, h5, h6⟩
    refine ⟨⟨h1, h2, h3, h4⟩, h5, ?_⟩
    unfold waitX
    rw [if_pos (waitOk_iff.2 ⟨h1, h2, okDl_iff.2 h3, okDl_iff.2 h4⟩), waitW_add]
    exact h6
theorem cm_yes {n : Int} {a b : List Rd} {town change most : Int} (h : madeX n a b town 0 change most = true) : cmX n a b town change most = min 300 (most - waitW n a b town 0 change) := by
  obtain ⟨h1, h2, h3, h4, h5, h6⟩ := made_iff.1 h
  unfold cmX waitX
  rw [if_pos h, if_pos (waitOk_iff.2 ⟨h1, h2, okDl_iff.2 h3, okDl_iff.2 h4⟩)]
theorem cm_no {n : Int} {a b : List Rd} {town change most : Int} (h : madeX n a b town 0 change most = false) : cmX n a b town change most = -1 := by
  unfold cmX; rw [h]; rfl
theorem made_less {n : Int} {a b : List Rd} {town late change most k : Int} (h : madeX n a b town late change most = true) (h0 : 0 ≤ k) (hk : k ≤ late) : madeX n a b town k change most = true := by
  obtain ⟨h1, h2, h3, h4, h5, h6⟩ := made_iff.1 h
  exact made_iff.2 ⟨h1, h2, by omega, h4, h5, by omega⟩
theorem made_more {n : Int} {a b : List Rd} {town late change most : Int} (h : madeX n a b town late change most = true) (hm : most ≠ 300) : madeX n a b town late change (most + 1) = true := by
  obtain ⟨h1, h2, h3, h4, h5, h6⟩ := made_iff.1 h
  exact made_iff.2 ⟨h1, h2, h3, h4, by omega, by omega⟩
theorem made_most {n : Int} {a b : List Rd} {town late change most : Int} (h : madeX n a b town late change most = true) : late ≤ cmX n a b town change most := by
  obtain ⟨h1, h2, h3, h4, h5, h6⟩ := made_iff.1 h
  rw [cm_yes (made_less h (Int.le_refl 0) h3.1)]
  omega
/-- The most, and what lies beyond it. -/
theorem most_facts {n : Int} {a b : List Rd} {town change most : Int} (h : 0 ≤ cmX n a b town change most) : (0 ≤ cmX n a b town change most ∧ cmX n a b town change most ≤ 300) ∧ madeX n a b town (cmX n a b town change most) change most = true ∧
    (cmX n a b town change most ≠ 300 → madeX n a b town (cmX n a b town change most + 1) change most = false) ∧ cmX n a b town (change + 1) most ≤ cmX n a b town change most := by
  cases hm : madeX n a b town 0 change most with
  | false => rw [cm_no hm] at h; exact absurd h (by decide)
  | true =>
    obtain ⟨h1, h2, h3, h4, h5, h6⟩ := made_iff.1 hm
    have e := cm_yes hm
    rw [e] at h ⊢
    refine ⟨by omega, made_iff.2 ⟨h1, h2, by omega, h4, h5, by omega⟩, fun hne => ?_, ?_⟩
    · rw [Bool.eq_false_iff]; intro q
      have := made_iff.1 q
      omega
    · cases hm2 : madeX n a b town 0 (change + 1) most with
      | false => rw [cm_no hm2]; omega
      | true =>
        rw [cm_yes hm2]
        have e2 : waitW n a b town 0 (change + 1) = waitW n a b town 0 change + 1 := by unfold waitW; omega
        rw [e2]; omega
theorem cm_bd (n : Int) (a b : List Rd) (town change most : Int) : -1 ≤ cmX n a b town change most ∧ cmX n a b town change most ≤ 300 := by
  cases hm : madeX n a b town 0 change most with
  | false => rw [cm_no hm]; omega
  | true =>
    have := made_iff.1 hm
    rw [cm_yes hm]; omega

end Go.Proofs.Ytmphpbjmpokjjab
