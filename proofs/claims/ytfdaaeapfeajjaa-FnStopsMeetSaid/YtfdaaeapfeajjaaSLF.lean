/- A later coach runs alike, and back again it is the same; no program. -/
import Derived.Test.YtfdaaeapfeajjaaSK
import Derived.Test.YtfdaaeapfeajjaaSE
import Derived.Test.YtfdaaeapfeajjaaSG
namespace Go.Proofs.Ytfdaaeapfeajjaa

theorem ext_rdL {a b : List Rd} (hl : a.length = b.length) (h : ∀ j, j < a.length → a.getD j rd0 = b.getD j rd0) : a = b := by
  apply List.ext_getElem hl
  intro j h1 h2
  have := h j h1
  rwa [getD_eq a h1, getD_eq b h2] at this
theorem later_at (l : List Rd) (k : Int) {i : Nat} (hi : i < l.length) : (laterW l k).getD i rd0 = latR k (l.getD i rd0) := by
  rw [getD_eq _ (by rw [laterW_len]; exact hi), getD_eq l hi]
  simp [laterW]
theorem later_facts {n : Int} {l : List Rd} {k : Int} (h : laterOk n l k = true) (hw : W64 k) :
    validS n l = true ∧ validS n (laterW l k) = true ∧ (-10000 ≤ k ∧ k ≤ 10000) ∧ ∀ i, i < l.length → (laterW l k).getD i rd0 = ⟨(l.getD i rd0).a, (l.getD i rd0).b + k, (l.getD i rd0).m + k⟩ := by
  simp only [laterOk, Bool.and_eq_true] at h
  obtain ⟨h1, h2⟩ := h
  have hk : -10000 ≤ k ∧ k ≤ 10000 := by
    by_cases hk : -10000 ≤ k ∧ k ≤ 10000
    · exact hk
    · rw [later_far h1 hw hk] at h2; cases h2
  refine ⟨h1, h2, hk, fun i hi => ?_⟩
  rw [later_at l k hi]
  have hv := validS_at h1 hi
  generalize l.getD i rd0 = r at *
  unfold latR
  simp only [IntKind.wrap_i64]
  have e1 : (r.b + k + 9223372036854775808) % 18446744073709551616 - 9223372036854775808 = r.b + k := by omega
  have e2 : (r.m + k + 9223372036854775808) % 18446744073709551616 - 9223372036854775808 = r.m + k := by omega
  first | rw [e1, e2] | (congr 1 <;> omega)
theorem later_back {n : Int} {l : List Rd} {k : Int} (h : laterOk n l k = true) (hw : W64 k) : laterOk n (laterW l k) (0 - k) = true ∧ laterL n (laterW l k) (0 - k) = l := by
  obtain ⟨h1, h2, hk, hg⟩ := later_facts h hw
  have e : laterW (laterW l k) (0 - k) = l := by
    refine ext_rdL (by rw [laterW_len, laterW_len]) fun i hi => ?_
    rw [laterW_len, laterW_len] at hi
    rw [later_at _ _ (by rw [laterW_len]; exact hi), hg i hi]
    have hv := validS_at h1 hi
    generalize l.getD i rd0 = r at *
    obtain ⟨ra, rb, rm⟩ := r
    unfold latR
    simp only [IntKind.wrap_i64] at hv ⊢
    have e1 : (rb + k + (0 - k) + 9223372036854775808) % 18446744073709551616 - 9223372036854775808 = rb := by omega
    have e2 : (rm + k + (0 - k) + 9223372036854775808) % 18446744073709551616 - 9223372036854775808 = rm := by omega
    first | rw [e1, e2] | (congr 1 <;> omega)
  have hok : laterOk n (laterW l k) (0 - k) = true := by unfold laterOk; rw [e, h1, h2]; rfl
  exact ⟨hok, by unfold laterL; rw [if_pos hok, e]⟩
theorem later_run {n : Int} {l : List Rd} {k : Int} (h : laterOk n l k = true) (hw : W64 k) : runV n (laterW l k) = runV n l := by
  obtain ⟨h1, h2, hk, hg⟩ := later_facts h hw
  have h3 := (validS_iff.1 h1).1.2.2.1
  unfold runV runS
  rw [if_pos h1, if_pos h2, laterW_len, hg 0 (by omega), hg (l.length - 1) (by omega)]
  simp only
  omega
theorem later_wait {n : Int} {l : List Rd} {k : Int} (h : laterOk n l k = true) (hw : W64 k) : waitV n (laterW l k) = waitV n l := by
  obtain ⟨h1, h2, hk, hg⟩ := later_facts h hw
  have h3 := (validS_iff.1 h1).1.2.2.1
  have key : ∀ j, j + 1 ≤ l.length → waitTo (laterW l k) j = waitTo l j := by
    intro j
    induction j with
    | zero => intro _; rfl
    | succ j ih =>
      intro hj
      show waitTo (laterW l k) j + _ = waitTo l j + _
      rw [ih (by omega), hg (j + 1) (by omega)]
      simp only
      omega
  unfold waitV
  rw [if_pos h1, if_pos h2, laterW_len]
  exact key _ (by omega)

end Go.Proofs.Ytfdaaeapfeajjaa
