/- Facts of lateness: one minute more on a way. -/
import Derived.Test.YtmphpbjmpokjjabYB
namespace Go.Proofs.Ytmphpbjmpokjjab

theorem getD_setI (ds : List Int) (k j : Nat) (x : Int) (hk : k < ds.length) : (ds.set k x).getD j 0 = if j = k then x else ds.getD j 0 := by
  rw [List.getD_eq_getElem?_getD, List.getD_eq_getElem?_getD, List.getElem?_set]
  by_cases e : k = j
  · subst e
    rw [if_pos rfl, if_pos rfl, if_pos hk]; rfl
  · rw [if_neg e, if_neg (fun h => e h.symm)]
/-- Up to the way nothing changes. -/
theorem more_before (l : List Rd) (least start : Int) (ds : List Int) {k : Nat} (hk : k < ds.length) (x : Int) : ∀ j, j ≤ k → arrV l least start (ds.set k x) j = arrV l least start ds j ∧ leaV l least start (ds.set k x) j = leaV l least start ds j
  | 0, _ => ⟨rfl, rfl⟩
  | j + 1, h => by
    obtain ⟨_, h2⟩ := more_before l least start ds hk x j (by omega)
    have e : arrV l least start (ds.set k x) (j + 1) = arrV l least start ds (j + 1) := by
      rw [arrV_succ, arrV_succ, h2, getD_setI ds k j x hk, if_neg (by omega)]
    exact ⟨e, by rw [leaV_succ, leaV_succ, e]⟩
/-- Behind the way it is at most the minute. -/
theorem more_behind (l : List Rd) (least start : Int) (ds : List Int) {k : Nat} (hk : k < ds.length) : ∀ j, k < j → arrV l least start ds j ≤ arrV l least start (ds.set k (ds.getD k 0 + 1)) j ∧ arrV l least start (ds.set k (ds.getD k 0 + 1)) j ≤ arrV l least start ds j + 1 ∧
    leaV l least start ds j ≤ leaV l least start (ds.set k (ds.getD k 0 + 1)) j ∧ leaV l least start (ds.set k (ds.getD k 0 + 1)) j ≤ leaV l least start ds j + 1
  | 0, h => by omega
  | j + 1, h => by
    have e : arrV l least start ds (j + 1) ≤ arrV l least start (ds.set k (ds.getD k 0 + 1)) (j + 1) ∧ arrV l least start (ds.set k (ds.getD k 0 + 1)) (j + 1) ≤ arrV l least start ds (j + 1) + 1 := by
      rw [arrV_succ, arrV_succ, getD_setI ds k j _ hk]
      by_cases hj : j = k
      · subst hj
        rw [(more_before l least start ds hk (ds.getD j 0 + 1) j (Nat.le_refl _)).2, if_pos rfl]; omega
      · obtain ⟨_, _, h3, h4⟩ := more_behind l least start ds hk j (by omega)
        rw [if_neg hj]; omega
    have e2 := slackOf_pos least (l.getD (j + 1) rd0)
    rw [leaV_succ, leaV_succ]
    exact ⟨e.1, e.2, by omega, by omega⟩
theorem more_next (l : List Rd) (least start : Int) (ds : List Int) {k : Nat} (hk : k < ds.length) : arrV l least start (ds.set k (ds.getD k 0 + 1)) (k + 1) = arrV l least start ds (k + 1) + 1 := by
  rw [arrV_succ, arrV_succ, (more_before l least start ds hk _ k (Nat.le_refl _)).2, getD_setI ds k k _ hk, if_pos rfl]; omega
theorem more_ok {n : Int} {l : List Rd} {least start : Int} {ds : List Int} (h : okLate n l least start ds = true) {k : Nat} (hk : k < ds.length) : okLate n l least start (ds.set k (ds.getD k 0 + 1)) = decide (ds.getD k 0 + 1 ≤ 300) := by
  obtain ⟨h1, h2, h3, h4, h5⟩ := okLate_iff.1 h
  have hd := allDl_at h1 k
  by_cases q : ds.getD k 0 + 1 ≤ 300
  · rw [decide_eq_true q]
    refine okLate_iff.2 ⟨allDl_iff.2 fun d hd => ?_, h2, h3, h4, by rw [List.length_set]; exact h5⟩
    rcases List.mem_or_eq_of_mem_set hd with hd | rfl
    · exact allDl_iff.1 h1 d hd
    · exact okDl_iff.2 (by omega)
  · rw [decide_eq_false q, Bool.eq_false_iff]
    intro hc
    have := allDl_at (okLate_iff.1 hc).1 k
    rw [getD_setI ds k k _ hk, if_pos rfl] at this
    omega
theorem more_sum (l : List Rd) (least start : Int) (ds : List Int) {k : Nat} (hk : k < ds.length) : ∀ m, (m ≤ k + 1 → (arrL l least start (ds.set k (ds.getD k 0 + 1)) m).sum = (arrL l least start ds m).sum) ∧
    (k + 1 < m → (arrL l least start ds m).sum + 1 ≤ (arrL l least start (ds.set k (ds.getD k 0 + 1)) m).sum ∧ (arrL l least start (ds.set k (ds.getD k 0 + 1)) m).sum ≤ (arrL l least start ds m).sum + ((m : Int) - 1 - k))
  | 0 => ⟨fun _ => rfl, fun h => by omega⟩
  | m + 1 => by
    obtain ⟨h1, h2⟩ := more_sum l least start ds hk m
    rw [arrL_succ, arrL_succ, List.sum_append, List.sum_append]
    simp only [List.sum_cons, List.sum_nil]
    refine ⟨fun h => ?_, fun h => ?_⟩
    · rw [h1 (by omega), (more_before l least start ds hk _ m (by omega)).1]
    · by_cases e : m = k + 1
      · subst e
        rw [h1 (Nat.le_refl _), more_next l least start ds hk]
        push_cast
        omega
      · obtain ⟨a, b⟩ := h2 (by omega)
        obtain ⟨c, d, _, _⟩ := more_behind l least start ds hk m (by omega)
        push_cast
        omega
theorem sum_more {n : Int} {l : List Rd} {least start : Int} {ds : List Int} (h : okLate n l least start ds = true) {k : Nat} (hk : k < ds.length) :
    (300 < ds.getD k 0 + 1 ∧ sumLate n l least start (ds.set k (ds.getD k 0 + 1)) = -1) ∨
    (ds.getD k 0 + 1 ≤ 300 ∧ sumLate n l least start ds + 1 ≤ sumLate n l least start (ds.set k (ds.getD k 0 + 1)) ∧ sumLate n l least start (ds.set k (ds.getD k 0 + 1)) ≤ sumLate n l least start ds + ds.length - k) := by
  have ho := more_ok h hk
  by_cases q : ds.getD k 0 + 1 ≤ 300
  · rw [decide_eq_true q] at ho
    have hl := (okLate_iff.1 h).2.2.2.2
    obtain ⟨a, b⟩ := (more_sum l least start ds hk l.length).2 (by omega)
    right
    rw [sumLate_yes h, sumLate_yes ho]
    exact ⟨q, a, by omega⟩
  · rw [decide_eq_false q] at ho
    left
    exact ⟨by omega, sumLate_no ho⟩

theorem end_more {n : Int} {l : List Rd} {least start : Int} {ds : List Int} (h : okLate n l least start ds = true) {k : Nat} (hk : k < ds.length) :
    (300 < ds.getD k 0 + 1 ∧ endX n l least start (ds.set k (ds.getD k 0 + 1)) = -1) ∨
    (ds.getD k 0 + 1 ≤ 300 ∧ (endX n l least start (ds.set k (ds.getD k 0 + 1)) = endX n l least start ds ∨ endX n l least start (ds.set k (ds.getD k 0 + 1)) = endX n l least start ds + 1) ∧
      (k + 1 = ds.length → endX n l least start (ds.set k (ds.getD k 0 + 1)) = endX n l least start ds + 1)) := by
  have ho := more_ok h hk
  have hl := (okLate_iff.1 h).2.2.2.2
  by_cases q : ds.getD k 0 + 1 ≤ 300
  · rw [decide_eq_true q] at ho
    right
    obtain ⟨a, b, _, _⟩ := more_behind l least start ds hk (l.length - 1) (by omega)
    rw [endX_yes h, endX_yes ho]
    refine ⟨q, by omega, fun hk2 => ?_⟩
    rw [show l.length - 1 = k + 1 by omega]
    exact more_next l least start ds hk
  · rw [decide_eq_false q] at ho
    left
    exact ⟨by omega, endX_no ho⟩

end Go.Proofs.Ytmphpbjmpokjjab
