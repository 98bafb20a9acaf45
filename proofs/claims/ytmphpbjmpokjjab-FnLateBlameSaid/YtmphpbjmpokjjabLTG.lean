/- Facts of lateness: sums, slacks, free lateness. -/
import Derived.Test.YtmphpbjmpokjjabLTF
import Derived.Test.YtmphpbjmpokjjabY4
namespace Go.Proofs.Ytmphpbjmpokjjab

theorem take_sumD {ds : List Int} (k : Nat) : (ds.take (k + 1)).sum = (ds.take k).sum + ds.getD k 0 := by
  by_cases h : k < ds.length
  · exact take_sum h
  · rw [List.take_of_length_le (by omega), List.take_of_length_le (by omega), List.getD_eq_getElem?_getD, List.getElem?_eq_none (by omega)]; simp
/-- Lateness is what came together, less slacks at most. -/
theorem lea_sum {l : List Rd} {least start : Int} {ds : List Int} (hd : allDl ds = true) (hs : 0 ≤ start) : ∀ k, leaV l least start ds k ≤ start + (ds.take k).sum ∧ start + (ds.take k).sum - slkSum l least k ≤ leaV l least start ds k ∧ 0 ≤ (ds.take k).sum
  | 0 => by simp only [List.take_zero, List.sum_nil]; show start ≤ start + 0 ∧ start + 0 - 0 ≤ start ∧ _; omega
  | k + 1 => by
    obtain ⟨h1, h2, h3⟩ := lea_sum (l := l) (least := least) hd hs k
    have hb := allDl_at hd k
    have hp := slackOf_pos least (l.getD (k + 1) rd0)
    have e : slkSum l least (k + 1) = slkSum l least k + slackOf least (l.getD (k + 1) rd0) := by
      show slkSum l least k + slkV l least (k + 1) = _
      unfold slkV; rw [if_neg (by omega)]
    rw [take_sumD, leaV_succ, arrV_succ, e]
    have h4 := slkSum_pos l least k
    omega
theorem slkL_sum (l : List Rd) (least : Int) : ∀ k, (slkL l least (k + 1)).sum = slkSum l least k
  | 0 => by simp [slkL, slkV, slkSum]
  | k + 1 => by
    rw [slkL_succ, List.sum_append, slkL_sum l least k]
    simp only [List.sum_cons, List.sum_nil, Int.add_zero]
    rfl
theorem end_law {n : Int} {l : List Rd} {least start : Int} {ds : List Int} (h : okLate n l least start ds = true) {m : Nat} (hm : l.length = m + 2) :
    endX n l least start ds ≤ start + ds.sum ∧ start + ds.sum - slkSum l least m ≤ endX n l least start ds ∧ ds.getD m 0 ≤ endX n l least start ds ∧ (slkSum l least m = 0 → endX n l least start ds = start + ds.sum) := by
  obtain ⟨h1, _, _, h4, h5⟩ := okLate_iff.1 h
  have hs := okDl_iff.1 h4
  obtain ⟨a, b, _⟩ := lea_sum (l := l) (least := least) h1 hs.1 m
  have hsum : ds.sum = (ds.take m).sum + ds.getD m 0 := by
    rw [← take_sumD, List.take_of_length_le (by omega)]
  have e : endX n l least start ds = leaV l least start ds m + ds.getD m 0 := by
    rw [endX_yes h, hm, show m + 2 - 1 = m + 1 by omega, arrV_succ]
  have hb := (okLate_bd h m).2.2.1
  have hp := slkSum_pos l least m
  rw [e, hsum]
  omega
theorem slk_ok {n : Int} {l : List Rd} {least start : Int} {ds : List Int} (h : okLate n l least start ds = true) : slkOk n l least = true := by
  obtain ⟨_, h2, h3, _⟩ := okLate_iff.1 h
  exact slkOk_iff.2 ⟨h2, h3⟩
theorem slkX_sum {n : Int} {l : List Rd} {least : Int} (h : slkOk n l least = true) {m : Nat} (hm : l.length = m + 2) : (slkX n l least).sum = slkSum l least m + (slkX n l least).getD (m + 1) 0 ∧ (slkX n l least).length = m + 2 := by
  rw [slkX_len h, slkX_at h (by omega)]
  refine ⟨?_, hm⟩
  unfold slkX
  rw [if_pos h, hm, show m + 2 = (m + 1) + 1 by omega, slkL_sum]
  rfl
theorem slkX_bd {n : Int} {l : List Rd} {least : Int} (h : slkOk n l least = true) (i : Nat) : 0 ≤ (slkX n l least).getD i 0 ∧ (slkX n l least).getD i 0 ≤ 10000 := by
  by_cases hi : i < l.length
  · rw [slkX_at h hi]; exact slkV_bd h hi
  · rw [List.getD_eq_getElem?_getD, List.getElem?_eq_none (by rw [slkX_len h]; omega)]; simp
/-- Without delays. -/
theorem zero_at (k j : Nat) : (List.replicate k (0 : Int)).getD j 0 = 0 := by
  by_cases h : j < k
  · rw [List.getD_eq_getElem?_getD, List.getElem?_replicate, if_pos h]; rfl
  · rw [List.getD_eq_getElem?_getD, List.getElem?_eq_none (by simp; omega)]; rfl
theorem lea_zero (l : List Rd) (least s : Int) (n : Nat) : ∀ k, leaV l least s (List.replicate n 0) k = leaV l least s [] k
  | 0 => rfl
  | k + 1 => by rw [leaV_succ, leaV_succ, arrV_succ, arrV_succ, lea_zero l least s n k, zero_at]; rfl
theorem end_zero {n : Int} {l : List Rd} {least s : Int} (h : slkOk n l least = true) {m : Nat} (hm : l.length = m + 2) : endX n l least s (List.replicate (m + 1) 0) = if 0 ≤ s ∧ s ≤ 300 then max 0 (s - slkSum l least m) else -1 := by
  obtain ⟨h1, h2⟩ := slkOk_iff.1 h
  by_cases q : 0 ≤ s ∧ s ≤ 300
  · have ho : okLate n l least s (List.replicate (m + 1) 0) = true := okLate_iff.2 ⟨allDl_iff.2 fun d hd => by
      obtain ⟨_, rfl⟩ := List.mem_replicate.1 hd
      rfl, h1, h2, okDl_iff.2 q, by simp; omega⟩
    rw [if_pos q, endX_yes ho, hm, show m + 2 - 1 = m + 1 by omega, arrV_succ, lea_zero, zero_at, lea_free l least s q.1 m]
    omega
  · have ho : okLate n l least s (List.replicate (m + 1) 0) = false := by
      rw [Bool.eq_false_iff]; intro hc
      exact q (okDl_iff.1 (okLate_iff.1 hc).2.2.2.1)
    rw [if_neg q, endX_no ho]
theorem free_law {n : Int} {l : List Rd} {least : Int} (h : 0 ≤ freeX n l least) : ∃ m, l.length = m + 2 ∧ m ≤ 6 ∧ (0 ≤ freeX n l least ∧ freeX n l least ≤ 300) ∧ endX n l least (freeX n l least) (List.replicate (m + 1) 0) = 0 ∧
    ((freeX n l least = 300 ∧ endX n l least (freeX n l least + 1) (List.replicate (m + 1) 0) = -1) ∨ (freeX n l least ≠ 300 ∧ endX n l least (freeX n l least + 1) (List.replicate (m + 1) 0) = 1)) := by
  cases hs : slkOk n l least with
  | false => unfold freeX at h; rw [hs, if_neg (by decide)] at h; omega
  | true =>
    have h2 := (validS_iff.1 (slkOk_iff.1 hs).1).1.2.2
    obtain ⟨m, hm⟩ : ∃ m, l.length = m + 2 := ⟨l.length - 2, by omega⟩
    have e : freeX n l least = min (slkSum l least m) 300 := by
      unfold freeX; rw [if_pos hs, hm]; rfl
    have hp := slkSum_pos l least m
    refine ⟨m, hm, by omega, by omega, ?_, ?_⟩
    · rw [end_zero hs hm, e, if_pos (by omega)]; omega
    · by_cases q : freeX n l least = 300
      · left
        refine ⟨q, ?_⟩
        rw [end_zero hs hm, q, if_neg (by omega)]
      · right
        refine ⟨q, ?_⟩
        rw [end_zero hs hm, if_pos (by omega)]; omega
theorem free_neg (n : Int) (l : List Rd) (least : Int) : -1 ≤ freeX n l least := by
  unfold freeX; split
  · have := slkSum_pos l least (l.length - 2); omega
  · omega

end Go.Proofs.Ytmphpbjmpokjjab
