/- Settlements, pure. -/
import Derived.Test.YthdkjjfnockldaaQV
import Derived.Test.YthdkjjfnockldaaQJ
namespace Go.Proofs.Ythdkjjfnockldaa

theorem sum_nonneg {t : List Int} (h : ∀ x ∈ t, 0 ≤ x) : 0 ≤ t.sum := by
  induction t with
  | nil => simp
  | cons x t ih => have := h x (by simp); have := ih (fun y hy => h y (by simp [hy])); simp; omega
theorem take_sum_le {t : List Int} (h : ∀ x ∈ t, 0 ≤ x) (k : Nat) : (t.take k).sum ≤ t.sum := by
  have e : t.sum = (t.take k).sum + (t.drop k).sum := by rw [← List.sum_append, List.take_append_drop]
  have := sum_nonneg (t := t.drop k) (fun x hx => h x (List.mem_of_mem_drop hx))
  omega
def tkV (t : List Int) : Int := if tkOk t then t.sum else 0

/-- The first k amounts are taken away. -/
def subs (s t : List Int) : Nat → List Int
  | 0 => s
  | k + 1 => (subs s t k).set k ((subs s t k).getD k 0 - t.getD k 0)
theorem subs_len (s t : List Int) : ∀ k, (subs s t k).length = s.length
  | 0 => rfl
  | k + 1 => by unfold subs; rw [List.length_set, subs_len s t k]
theorem subs_at (s t : List Int) : ∀ k i, i < s.length → (subs s t k).getD i 0 = if i < k then s.getD i 0 - t.getD i 0 else s.getD i 0
  | 0, i, _ => by simp [subs]
  | k + 1, i, hi => by
    unfold subs
    by_cases e : k = i
    · subst e
      rw [show ((subs s t k).set k ((subs s t k).getD k 0 - t.getD k 0)).getD k 0 = (subs s t k).getD k 0 - t.getD k 0 by simp [List.getD, subs_len, hi], subs_at s t k k hi, if_neg (by omega), if_pos (by omega)]
    · rw [show ((subs s t k).set k ((subs s t k).getD k 0 - t.getD k 0)).getD i 0 = (subs s t k).getD i 0 by simp [List.getD, List.getElem?_set, e], subs_at s t k i hi]
      by_cases q : i < k
      · rw [if_pos q, if_pos (by omega)]
      · rw [if_neg q, if_neg (by omega)]
theorem subs_all {s t : List Int} (h : t.length = s.length) : subs s t t.length = List.zipWith (fun a b => a - b) s t := by
  apply List.ext_getElem (by rw [subs_len, List.length_zipWith]; omega)
  intro i h1 h2
  rw [subs_len] at h1
  have := subs_at s t t.length i h1
  rw [if_pos (by omega)] at this
  simp only [List.getD_eq_getElem?_getD, List.getElem?_eq_getElem h1, List.getElem?_eq_getElem (show i < t.length by omega), List.getElem?_eq_getElem (show i < (subs s t t.length).length by rw [subs_len]; exact h1), Option.getD_some] at this
  rw [this, List.getElem_zipWith]
theorem shareL_bd {ms : List Int} {amt : Int} (hn : ms.length ≤ 6) (hm : ∀ i, 0 ≤ ms.getD i 0 ∧ ms.getD i 0 ≤ 1188) (ha : 0 ≤ amt ∧ amt ≤ 1000000) (hs : 0 < ms.sum) : ∀ i, 0 ≤ (shareL ms amt).getD i 0 ∧ (shareL ms amt).getD i 0 ≤ 1188000006 := fun i => by
  have hd0 : ∀ i, 0 ≤ (dueL ms amt).getD i 0 ∧ (dueL ms amt).getD i 0 ≤ 1188000000 := fun i => by
    rw [dueL_at]
    have := mul_bd ha.1 ha.2 (hm i).1 (hm i).2
    omega
  have h1 := giveP_bd ((orderR (rstL (dueL ms amt) ms.sum)).take (leftL ms amt).toNat) (quoL (dueL ms amt) ms.sum) 1188000000 (quoL_bd hs hd0) i
  have h2 : ((orderR (rstL (dueL ms amt) ms.sum)).take (leftL ms amt).toNat).length ≤ 6 := by
    rw [List.length_take, orderR_length, rstL_len, dueL_len]; omega
  unfold shareL
  omega


end Go.Proofs.Ythdkjjfnockldaa
