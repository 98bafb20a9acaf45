/- Facts of lateness, stop by stop. -/
import Derived.Test.YtmphpbjmpokjjabLTG
namespace Go.Proofs.Ytmphpbjmpokjjab

theorem leaX_len {n : Int} {l : List Rd} {least start : Int} {ds : List Int} (h : okLate n l least start ds = true) : (leaX n l least start ds).length = l.length := by
  unfold leaX; rw [if_pos h, leaL_len]
theorem leaX_atI {n : Int} {l : List Rd} {least start : Int} {ds : List Int} (h : okLate n l least start ds = true) {k : Nat} (hk : k < l.length) : (leaX n l least start ds).getD k 0 = leaV l least start ds k := by
  unfold leaX; rw [if_pos h, leaL_at _ _ _ _ hk]
theorem leaX_no {n : Int} {l : List Rd} {least start : Int} {ds : List Int} (h : okLate n l least start ds = false) : leaX n l least start ds = [] := by unfold leaX; rw [h]; rfl
theorem arrX_no {n : Int} {l : List Rd} {least start : Int} {ds : List Int} (h : okLate n l least start ds = false) : arrX n l least start ds = [] := by unfold arrX; rw [h]; rfl
theorem lea_le_arr (l : List Rd) (least start : Int) (ds : List Int) (h : ∀ k, 0 ≤ arrV l least start ds k) : ∀ k, leaV l least start ds k ≤ arrV l least start ds k
  | 0 => Int.le_refl _
  | k + 1 => by
    have := h (k + 1)
    have hp := slackOf_pos least (l.getD (k + 1) rd0)
    rw [leaV_succ]; omega
/-- A greater least makes nobody earlier. -/
theorem lea_least (l : List Rd) (least start : Int) (ds : List Int) : ∀ k, leaV l least start ds k ≤ leaV l (least + 1) start ds k
  | 0 => Int.le_refl _
  | k + 1 => by
    have ih := lea_least l least start ds k
    have hs : slackOf (least + 1) (l.getD (k + 1) rd0) ≤ slackOf least (l.getD (k + 1) rd0) := by unfold slackOf; omega
    rw [leaV_succ, leaV_succ, arrV_succ, arrV_succ]; omega
theorem late_dims {n : Int} {l : List Rd} {ls st : Int} {ds : List Int} (h : okLate n l ls st ds = true) : ∃ m, l.length = m + 2 ∧ m ≤ 6 ∧ ds.length = m + 1 ∧ (arrX n l ls st ds).length = m + 2 ∧ (leaX n l ls st ds).length = m + 2 ∧ (slkX n l ls).length = m + 2 ∧ (0 ≤ ls ∧ ls ≤ 300) ∧ (0 ≤ st ∧ st ≤ 300) := by
  have h2 := okLate_2 h
  obtain ⟨h1, _, h3, h4, h5⟩ := okLate_iff.1 h
  obtain ⟨m, hm⟩ : ∃ m, l.length = m + 2 := ⟨l.length - 2, by omega⟩
  exact ⟨m, hm, by omega, by omega, by rw [arrX_len h, hm], by rw [leaX_len h, hm], by rw [slkX_len (slk_ok h), hm], okDl_iff.1 h3, okDl_iff.1 h4⟩
theorem late_zero {n : Int} {l : List Rd} {ls st : Int} {ds : List Int} (h : okLate n l ls st ds = true) : (arrX n l ls st ds).getD 0 0 = st ∧ (leaX n l ls st ds).getD 0 0 = st := by
  have h2 := okLate_2 h
  exact ⟨by rw [arrX_at h (by omega)]; rfl, by rw [leaX_atI h (by omega)]; rfl⟩
theorem late_at {n : Int} {l : List Rd} {ls st : Int} {ds : List Int} (h : okLate n l ls st ds = true) (i : Nat) (hi : i < l.length) :
    0 ≤ (leaX n l ls st ds).getD i 0 ∧ (leaX n l ls st ds).getD i 0 ≤ (arrX n l ls st ds).getD i 0 ∧ (arrX n l ls st ds).getD i 0 ≤ 3000 := by
  have h2 := okLate_2 h
  rw [arrX_at h hi, leaX_atI h hi]
  have hb := okLate_bd h i
  have hl := lea_le_arr l ls st ds (fun k => (okLate_bd h k).1) i
  omega
theorem late_next {n : Int} {l : List Rd} {ls st : Int} {ds : List Int} (h : okLate n l ls st ds = true) (i : Nat) (hi : i + 1 < l.length) :
    (arrX n l ls st ds).getD (i + 1) 0 = (leaX n l ls st ds).getD i 0 + ds.getD i 0 ∧ (leaX n l ls st ds).getD (i + 1) 0 = max 0 ((arrX n l ls st ds).getD (i + 1) 0 - (slkX n l ls).getD (i + 1) 0) ∧
    (0 ≤ ds.getD i 0 ∧ ds.getD i 0 ≤ 300) ∧ 0 ≤ (slkX n l ls).getD (i + 1) 0 ∧ (slkX n l ls).getD (i + 1) 0 ≤ 10000 := by
  have hs := slkX_bd (slk_ok h) (i + 1)
  have hd := allDl_at (okLate_iff.1 h).1 i
  refine ⟨?_, ?_, hd, hs⟩
  · rw [arrX_at h hi, leaX_atI h (by omega), arrV_succ]
  · rw [arrX_at h hi, leaX_atI h hi, slkX_at (slk_ok h) hi, leaV_succ]
    unfold slkV; rw [if_neg (by omega)]
/-- With a greater least. -/
theorem late_least {n : Int} {l : List Rd} {ls st : Int} {ds : List Int} (h : okLate n l ls st ds = true) : (ls = 300 ∧ okLate n l (ls + 1) st ds = false ∧ leaX n l (ls + 1) st ds = []) ∨
    (ls ≠ 300 ∧ okLate n l (ls + 1) st ds = true ∧ (leaX n l (ls + 1) st ds).length = l.length ∧ ∀ i, i < l.length → (leaX n l ls st ds).getD i 0 ≤ (leaX n l (ls + 1) st ds).getD i 0) := by
  obtain ⟨h1, h2, h3, h4, h5⟩ := okLate_iff.1 h
  have h6 := okDl_iff.1 h3
  by_cases q : ls = 300
  · left
    have hn : okLate n l (ls + 1) st ds = false := by
      rw [Bool.eq_false_iff]; intro hc
      have := okDl_iff.1 (okLate_iff.1 hc).2.2.1
      omega
    exact ⟨q, hn, leaX_no hn⟩
  · right
    have hy : okLate n l (ls + 1) st ds = true := okLate_iff.2 ⟨h1, h2, okDl_iff.2 (by omega), h4, h5⟩
    exact ⟨q, hy, leaX_len hy, fun i hi => by rw [leaX_atI h hi, leaX_atI hy hi]; exact lea_least l ls st ds i⟩

end Go.Proofs.Ytmphpbjmpokjjab
