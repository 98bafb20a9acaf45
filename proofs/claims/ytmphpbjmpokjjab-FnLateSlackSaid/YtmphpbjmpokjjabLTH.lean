/- Facts of slacks: what they are, and that without a least they are the waits. -/
import Derived.Test.YtmphpbjmpokjjabLTG
import Derived.Test.YtmphpbjmpokjjabSG
namespace Go.Proofs.Ytmphpbjmpokjjab

theorem slk_wait {n : Int} {l : List Rd} (h : validS n l = true) : ∀ k, k + 1 ≤ l.length → slkSum l 0 k = waitTo l k
  | 0, _ => rfl
  | k + 1, hk => by
    have ih := slk_wait h k (by omega)
    have hb := validS_at h (i := k + 1) (by omega)
    show slkSum l 0 k + slkV l 0 (k + 1) = waitTo l k + ((l.getD (k + 1) rd0).m - (l.getD (k + 1) rd0).b)
    have e : slkV l 0 (k + 1) = max 0 ((l.getD (k + 1) rd0).m - (l.getD (k + 1) rd0).b - 0) := rfl
    rw [ih, e]; omega
theorem slkOk_zero {n : Int} {l : List Rd} {least : Int} (h : slkOk n l least = true) : slkOk n l 0 = true :=
  slkOk_iff.2 ⟨(slkOk_iff.1 h).1, okDl_iff.2 (by omega)⟩
theorem slack_law {n : Int} {l : List Rd} {least : Int} (h : slkOk n l least = true) : ∃ m, l.length = m + 2 ∧ m ≤ 6 ∧ (slkX n l least).length = m + 2 ∧ (slkX n l 0).length = m + 2 ∧
    (slkX n l 0).sum = waitV n l + (l.getD (m + 1) rd0).m - (l.getD (m + 1) rd0).b ∧ 0 ≤ waitV n l ∧ waitV n l ≤ 60000 ∧ 0 ≤ (l.getD (m + 1) rd0).b ∧ (l.getD (m + 1) rd0).b ≤ (l.getD (m + 1) rd0).m ∧ (l.getD (m + 1) rd0).m ≤ 10000 ∧ 0 ≤ least ∧ least ≤ 300 := by
  obtain ⟨h1, h2⟩ := slkOk_iff.1 h
  have h3 := (validS_iff.1 h1).1.2.2
  obtain ⟨m, hm⟩ : ∃ m, l.length = m + 2 := ⟨l.length - 2, by omega⟩
  obtain ⟨a, b⟩ := slkX_sum (slkOk_zero h) hm
  have hw : waitV n l = waitTo l m := by unfold waitV; rw [if_pos h1, hm]; rfl
  have hb := waitTo_bd h1 m (by omega)
  have hl := validS_at h1 (i := m + 1) (by omega)
  have h4 := okDl_iff.1 h2
  have e : (slkX n l 0).getD (m + 1) 0 = max 0 ((l.getD (m + 1) rd0).m - (l.getD (m + 1) rd0).b - 0) := by
    rw [slkX_at (slkOk_zero h) (by omega)]; rfl
  refine ⟨m, hm, by omega, by rw [slkX_len h, hm], b, ?_, ?_⟩
  · rw [a, e, hw, slk_wait h1 m (by omega)]; omega
  · rw [hw]; omega
/-- The slack of a stop. -/
theorem slk_at {n : Int} {l : List Rd} {least : Int} (h : slkOk n l least = true) (i : Nat) (hi : i < l.length) : (i = 0 → (slkX n l least).getD i 0 = 0) ∧
    (i ≠ 0 → (slkX n l least).getD i 0 = max 0 ((l.getD i rd0).m - (l.getD i rd0).b - least)) ∧ (0 ≤ (l.getD i rd0).b ∧ (l.getD i rd0).b ≤ (l.getD i rd0).m ∧ (l.getD i rd0).m ≤ 10000) := by
  have h1 := validS_at (slkOk_iff.1 h).1 hi
  rw [slkX_at h hi]
  refine ⟨fun e => by unfold slkV; rw [if_pos e], fun e => by unfold slkV; rw [if_neg e]; rfl, h1.2.2.1, h1.2.2.2.1, h1.2.2.2.2.1⟩

end Go.Proofs.Ytmphpbjmpokjjab
