/- Lateness, pure: free lateness, blame, lengths. -/
import Derived.Test.YtmkcnoaphoiiaaaYA
namespace Go.Proofs.Ytmkcnoaphoiiaaa

theorem slackOf_pos (least : Int) (r : Rd) : 0 ≤ slackOf least r := by unfold slackOf; omega
theorem slkV_pos (l : List Rd) (least : Int) (i : Nat) : 0 ≤ slkV l least i := by
  unfold slkV; split
  · exact Int.le_refl _
  · exact slackOf_pos _ _
theorem slkSum_pos (l : List Rd) (least : Int) : ∀ k, 0 ≤ slkSum l least k
  | 0 => Int.le_refl _
  | k + 1 => by have := slkSum_pos l least k; have := slkV_pos l least (k + 1); show 0 ≤ slkSum l least k + slkV l least (k + 1); omega
/-- Without delays each slack takes away what it can. -/
theorem lea_free (l : List Rd) (least s : Int) (hs : 0 ≤ s) : ∀ k, leaV l least s [] k = max 0 (s - slkSum l least k)
  | 0 => by show s = max 0 (s - 0); omega
  | k + 1 => by
    have ih := lea_free l least s hs k
    have h1 := slkSum_pos l least k
    have h2 := slackOf_pos least (l.getD (k + 1) rd0)
    rw [leaV_succ, arrV_succ, ih]
    have e : slkSum l least (k + 1) = slkSum l least k + slackOf least (l.getD (k + 1) rd0) := by
      show slkSum l least k + slkV l least (k + 1) = _
      unfold slkV; rw [if_neg (by omega)]
    rw [e]
    simp only [List.getD_nil]
    omega
theorem free_is {n : Int} {l : List Rd} {least : Int} (h : slkOk n l least = true) (h2 : 2 ≤ l.length) : freeX n l least = 300 - arrV l least 300 [] (l.length - 1) := by
  obtain ⟨k, hk⟩ : ∃ k, l.length = k + 2 := ⟨l.length - 2, by omega⟩
  unfold freeX
  rw [if_pos h, hk, show k + 2 - 2 = k by omega, show k + 2 - 1 = k + 1 by omega, arrV_succ, lea_free l least 300 (by decide) k]
  have := slkSum_pos l least k
  simp only [List.getD_nil]
  omega
theorem arrX_len {n : Int} {l : List Rd} {least start : Int} {ds : List Int} (h : okLate n l least start ds = true) : (arrX n l least start ds).length = l.length := by
  unfold arrX; rw [if_pos h, arrL_len]
theorem arrX_at {n : Int} {l : List Rd} {least start : Int} {ds : List Int} (h : okLate n l least start ds = true) {k : Nat} (hk : k < l.length) : (arrX n l least start ds).getD k 0 = arrV l least start ds k := by
  unfold arrX; rw [if_pos h, arrL_at _ _ _ _ hk]
theorem okLate_2 {n : Int} {l : List Rd} {least start : Int} {ds : List Int} (h : okLate n l least start ds = true) : 2 ≤ l.length ∧ l.length ≤ 8 := by
  have := (okLate_iff.1 h).2.1
  exact (validS_iff.1 this).1.2.2
theorem okLate_bd {n : Int} {l : List Rd} {least start : Int} {ds : List Int} (h : okLate n l least start ds = true) (k : Nat) : 0 ≤ arrV l least start ds k ∧ arrV l least start ds k ≤ 300 * (k + 1) ∧ 0 ≤ leaV l least start ds k ∧ leaV l least start ds k ≤ 300 * (k + 1) := by
  obtain ⟨h1, _, _, h4, _⟩ := okLate_iff.1 h
  exact late_bd h1 (okDl_iff.1 h4) k
theorem endX_no {n : Int} {l : List Rd} {least start : Int} {ds : List Int} (h : okLate n l least start ds = false) : endX n l least start ds = -1 := by unfold endX; rw [h]; rfl
theorem endX_yes {n : Int} {l : List Rd} {least start : Int} {ds : List Int} (h : okLate n l least start ds = true) : endX n l least start ds = arrV l least start ds (l.length - 1) := by unfold endX; rw [if_pos h]
theorem endX_bd (n : Int) (l : List Rd) (least start : Int) (ds : List Int) : -1 ≤ endX n l least start ds ∧ endX n l least start ds ≤ 3000 := by
  cases h : okLate n l least start ds with
  | false => rw [endX_no h]; omega
  | true => rw [endX_yes h]; have := okLate_bd h (l.length - 1); have := okLate_2 h; omega
theorem endX_ok {n : Int} {l : List Rd} {least start : Int} {ds : List Int} : 0 ≤ endX n l least start ds ↔ okLate n l least start ds = true := by
  cases h : okLate n l least start ds with
  | false => rw [endX_no h]; simp
  | true => rw [endX_yes h]; have := okLate_bd h (l.length - 1); simp; omega
/-- The arrivals' sum up to a stop. -/
theorem arrS_bd {n : Int} {l : List Rd} {least start : Int} {ds : List Int} (h : okLate n l least start ds = true) : ∀ k, k ≤ 8 → 0 ≤ (arrL l least start ds k).sum ∧ (arrL l least start ds k).sum ≤ 3000 * k
  | 0, _ => by simp [arrL]
  | k + 1, hk => by
    have ih := arrS_bd h k (by omega)
    have := okLate_bd h k
    rw [arrL_succ, List.sum_append]
    simp only [List.sum_cons, List.sum_nil]
    omega
theorem sumLate_no {n : Int} {l : List Rd} {least start : Int} {ds : List Int} (h : okLate n l least start ds = false) : sumLate n l least start ds = -1 := by unfold sumLate; rw [h]; rfl
theorem sumLate_yes {n : Int} {l : List Rd} {least start : Int} {ds : List Int} (h : okLate n l least start ds = true) : sumLate n l least start ds = (arrL l least start ds l.length).sum := by unfold sumLate; rw [if_pos h]
theorem getD_set0 (ds : List Int) (k j : Nat) : (ds.set k 0).getD j 0 = if j = k then 0 else ds.getD j 0 := by
  rw [List.getD_eq_getElem?_getD, List.getD_eq_getElem?_getD, List.getElem?_set]
  by_cases e : k = j
  · subst e
    rw [if_pos rfl, if_pos rfl]
    split <;> rfl
  · rw [if_neg e, if_neg (fun h => e h.symm)]
theorem okLate_set {n : Int} {l : List Rd} {least start : Int} {ds : List Int} (h : okLate n l least start ds = true) (k : Nat) : okLate n l least start (ds.set k 0) = true := by
  obtain ⟨h1, h2, h3, h4, h5⟩ := okLate_iff.1 h
  refine okLate_iff.2 ⟨allDl_iff.2 fun d hd => ?_, h2, h3, h4, by rw [List.length_set]; exact h5⟩
  rcases List.mem_or_eq_of_mem_set hd with hd | rfl
  · exact allDl_iff.1 h1 d hd
  · rfl
theorem blame_no {n : Int} {l : List Rd} {least start : Int} {ds : List Int} {k : Int} (h : ¬ (0 ≤ endX n l least start ds ∧ 0 ≤ k ∧ k < ds.length)) : blameX n l least start ds k = -1 := by
  unfold blameX
  rw [if_neg]
  intro q
  rw [Bool.and_eq_true, Bool.and_eq_true, decide_eq_true_eq, decide_eq_true_eq] at q
  exact h ⟨endX_ok.2 q.1, q.2.1, q.2.2⟩
theorem blame_yes {n : Int} {l : List Rd} {least start : Int} {ds : List Int} {k : Nat} (h : 0 ≤ endX n l least start ds) (hk : k < ds.length) : blameX n l least start ds k = endX n l least start ds - endX n l least start (ds.set k 0) := by
  unfold blameX
  rw [if_pos, Int.toNat_natCast]
  rw [Bool.and_eq_true, Bool.and_eq_true, decide_eq_true_eq, decide_eq_true_eq]
  exact ⟨endX_ok.1 h, by omega, by omega⟩
theorem lateSL_len (l : List Rd) (least start : Int) (ds : List Int) (n : Nat) : (lateSL l least start ds n).length = n := by simp [lateSL]
theorem lateSL_succ (l : List Rd) (least start : Int) (ds : List Int) (n : Nat) : lateSL l least start ds (n + 1) = lateSL l least start ds n ++ [lateS l least start ds n] := by simp [lateSL, List.range_succ]
theorem lateSX_no {n : Int} {l : List Rd} {least start : Int} {ds : List Int} (h : lateSOk n l least start ds = false) : lateSX n l least start ds = [] := by unfold lateSX; rw [h]; rfl
theorem lateSX_yes {n : Int} {l : List Rd} {least start : Int} {ds : List Int} (h : lateSOk n l least start ds = true) : lateSX n l least start ds = lateSL l least start ds l.length := by unfold lateSX; rw [if_pos h]
theorem arrX_short {n : Int} {l : List Rd} {least start : Int} {ds : List Int} (hl : l.length ≤ 1048576) : (arrX n l least start ds).length ≤ 1048576 := by
  unfold arrX; split
  · rw [arrL_len]; exact hl
  · simp
theorem leaX_short {n : Int} {l : List Rd} {least start : Int} {ds : List Int} (hl : l.length ≤ 1048576) : (leaX n l least start ds).length ≤ 1048576 := by
  unfold leaX; split
  · rw [leaL_len]; exact hl
  · simp
theorem slkX_short {n : Int} {l : List Rd} {least : Int} (hl : l.length ≤ 1048576) : (slkX n l least).length ≤ 1048576 := by
  unfold slkX; split
  · simpa [slkL] using hl
  · simp
theorem lateSX_short {n : Int} {l : List Rd} {least start : Int} {ds : List Int} (hl : l.length ≤ 1048576) : (lateSX n l least start ds).length ≤ 1048576 := by
  unfold lateSX; split
  · rw [lateSL_len]; exact hl
  · simp

end Go.Proofs.Ytmkcnoaphoiiaaa
