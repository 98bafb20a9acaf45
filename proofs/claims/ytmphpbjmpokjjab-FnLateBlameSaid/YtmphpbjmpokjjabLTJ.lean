/- Facts of blame. -/
import Derived.Test.YtmphpbjmpokjjabLTI
import Derived.Test.YtmphpbjmpokjjabY5
namespace Go.Proofs.Ytmphpbjmpokjjab

theorem set_at (ds : List Int) (i k : Nat) (x : Int) : (ds.set i x).getD k 0 = if k = i ∧ i < ds.length then x else ds.getD k 0 := by
  rw [List.getD_eq_getElem?_getD, List.getD_eq_getElem?_getD, List.getElem?_set]
  by_cases h : i = k
  · subst h
    by_cases h2 : i < ds.length
    · simp [h2]
    · simp [h2]
  · rw [if_neg h, if_neg (by omega)]
/-- A delay left out takes away no more than itself. -/
theorem lea_set (l : List Rd) (least start : Int) (ds : List Int) (i : Nat) (hi : i < ds.length) (hd : 0 ≤ ds.getD i 0) : ∀ k, leaV l least start (ds.set i 0) k ≤ leaV l least start ds k ∧ leaV l least start ds k ≤ leaV l least start (ds.set i 0) k + ds.getD i 0 ∧ (k ≤ i → leaV l least start (ds.set i 0) k = leaV l least start ds k)
  | 0 => ⟨Int.le_refl _, by show start ≤ start + _; omega, fun _ => rfl⟩
  | k + 1 => by
    obtain ⟨h1, h2, h3⟩ := lea_set l least start ds i hi hd k
    have hs := slackOf_pos least (l.getD (k + 1) rd0)
    have e := set_at ds i k 0
    rw [leaV_succ, leaV_succ, arrV_succ, arrV_succ, e]
    by_cases q : k = i
    · subst q
      rw [if_pos ⟨rfl, hi⟩]
      have := h3 (Nat.le_refl _)
      refine ⟨by omega, by omega, fun h => by omega⟩
    · rw [if_neg (by omega)]
      refine ⟨by omega, by omega, fun h => by have := h3 (by omega); omega⟩
theorem late_set {n : Int} {l : List Rd} {ls st : Int} {ds : List Int} (h : okLate n l ls st ds = true) (i : Nat) : okLate n l ls st (ds.set i 0) = true := by
  obtain ⟨h1, h2, h3, h4, h5⟩ := okLate_iff.1 h
  refine okLate_iff.2 ⟨allDl_iff.2 fun d hd => ?_, h2, h3, h4, by rw [List.length_set]; exact h5⟩
  rcases List.mem_or_eq_of_mem_set hd with h' | h'
  · exact allDl_iff.1 h1 _ h'
  · rw [h']; rfl
theorem blame_law {n : Int} {l : List Rd} {ls st : Int} {ds : List Int} (h : okLate n l ls st ds = true) (i : Nat) (hi : i < ds.length) :
    0 ≤ blameX n l ls st ds (i : Int) ∧ blameX n l ls st ds (i : Int) ≤ ds.getD i 0 ∧ ds.getD i 0 ≤ 300 ∧ blameX n l ls st ds (i : Int) ≤ endX n l ls st ds ∧ endX n l ls st ds ≤ 3000 ∧ (i + 1 = ds.length → blameX n l ls st ds (i : Int) = ds.getD i 0) := by
  have hd := allDl_at (okLate_iff.1 h).1 i
  have h5 := (okLate_iff.1 h).2.2.2.2
  have hb : blameX n l ls st ds (i : Int) = endX n l ls st ds - endX n l ls st (ds.set i 0) := by
    unfold blameX; rw [if_pos (by simp [h]; omega), Int.toNat_natCast]
  have h2 := late_set h i
  have e0 := endX_bd n l ls st ds
  have e1 := endX_ok.2 h2
  obtain ⟨m, hm⟩ : ∃ m, ds.length = m + 1 := ⟨ds.length - 1, by omega⟩
  have e2 : endX n l ls st ds = leaV l ls st ds m + ds.getD m 0 := by
    rw [endX_yes h, show l.length - 1 = m + 1 by omega, arrV_succ]
  have e3 : endX n l ls st (ds.set i 0) = leaV l ls st (ds.set i 0) m + (ds.set i 0).getD m 0 := by
    rw [endX_yes h2, show l.length - 1 = m + 1 by omega, arrV_succ]
  obtain ⟨a1, a2, a3⟩ := lea_set l ls st ds i hi hd.1 m
  have e4 := set_at ds i m 0
  by_cases q : m = i
  · subst q
    rw [if_pos ⟨rfl, hi⟩] at e4
    have := a3 (Nat.le_refl _)
    rw [e4] at e3
    rw [hb]
    refine ⟨by omega, by omega, hd.2, by omega, e0.2, fun _ => by omega⟩
  · rw [if_neg (by omega)] at e4
    rw [e4] at e3
    rw [hb]
    refine ⟨by omega, by omega, hd.2, by omega, e0.2, fun hx => by omega⟩
/-- All blames of the first ways. -/
def blameSum (n : Int) (l : List Rd) (ls st : Int) (ds : List Int) : Nat → Int
  | 0 => 0
  | k + 1 => blameSum n l ls st ds k + blameX n l ls st ds (k : Int)
theorem blameSum_bd {n : Int} {l : List Rd} {ls st : Int} {ds : List Int} (h : okLate n l ls st ds = true) : ∀ k, k ≤ ds.length → 0 ≤ blameSum n l ls st ds k ∧ blameSum n l ls st ds k ≤ (ds.take k).sum ∧ (ds.take k).sum ≤ 300 * k
  | 0, _ => by simp [blameSum]
  | k + 1, hk => by
    obtain ⟨h1, h2, h3⟩ := blameSum_bd h k (by omega)
    have hb := blame_law h k (by omega)
    rw [take_sumD]
    show 0 ≤ blameSum n l ls st ds k + blameX n l ls st ds (k : Int) ∧ blameSum n l ls st ds k + blameX n l ls st ds (k : Int) ≤ _ ∧ _
    omega

end Go.Proofs.Ytmphpbjmpokjjab
