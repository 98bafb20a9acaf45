/- People get on and off: how many ride, in words; no program. -/
import Derived.Test.YtmadfbncoibapabEV
namespace Go.Proofs.Ytmadfbncoibapab

/-- Those who got on up to a stop, less those who got off. -/
def onN (l : List Bk) (g : Int) : Int := (l.countP (fun r => decide (r.a ≤ g)) : Nat) - (l.countP (fun r => decide (r.b ≤ g)) : Nat)
/-- The same, at the stop g, when the first j have been looked at. -/
def nowAt (l : List Bk) (g : Int) (j : Nat) : Int := onN l (g - 1) + ((l.take j).countP (fun r => decide (r.a = g)) : Nat) - ((l.take j).countP (fun r => decide (r.b = g)) : Nat)
theorem onN_nil (g : Int) : onN [] g = 0 := rfl
theorem onN_cons (r : Bk) (l : List Bk) (g : Int) : onN (r :: l) g = onN l g + (if r.a ≤ g then 1 else 0) - (if r.b ≤ g then 1 else 0) := by
  unfold onN
  simp only [List.countP_cons, decide_eq_true_eq]
  split <;> split <;> omega
theorem ride_now : ∀ {l : List Bk} (_ : ∀ r ∈ l, r.a < r.b) (g : Int), ((takenB l g true + takenB l g false : Nat) : Int) = onN l g
  | [], _, g => by simp [takenB, takenTo, onN]
  | r :: l, hf, g => by
    have ih := ride_now (l := l) (fun x hx => hf x (List.mem_cons_of_mem _ hx)) g
    have hr := hf r (List.mem_cons_self ..)
    rw [onN_cons, ← ih]
    have e : ∀ k, takenB (r :: l) g k = takenB l g k + if onB g k r then 1 else 0 := fun k => by
      simp only [takenB, takenTo, List.take_length, List.countP_cons]
    rw [e, e]
    obtain ⟨a, b, m⟩ := r
    simp only at hr
    simp only [onB]
    by_cases h1 : a ≤ g <;> by_cases h2 : g < b <;> cases m <;> simp [h1, h2] <;> omega
theorem nowAt_zero (l : List Bk) (g : Int) : nowAt l g 0 = onN l (g - 1) := by simp [nowAt]
theorem countP_eq_le (f : Bk → Int) (g : Int) : ∀ l : List Bk, (l.countP (fun r => decide (f r ≤ g))) = l.countP (fun r => decide (f r ≤ g - 1)) + l.countP (fun r => decide (f r = g))
  | [] => rfl
  | r :: l => by
    have ih := countP_eq_le f g l
    simp only [List.countP_cons, decide_eq_true_eq]
    rw [ih]
    by_cases h1 : f r ≤ g - 1
    · rw [if_pos (by omega), if_pos h1, if_neg (by omega)]; omega
    · by_cases h2 : f r = g
      · rw [if_pos (by omega), if_neg h1, if_pos h2]; omega
      · rw [if_neg (by omega), if_neg h1, if_neg h2]; omega
theorem nowAt_end (l : List Bk) (g : Int) : nowAt l g l.length = onN l g := by
  have h1 := countP_eq_le (fun r => r.a) g l
  have h2 := countP_eq_le (fun r => r.b) g l
  unfold nowAt onN
  rw [List.take_length]; omega
theorem nowAt_succ {l : List Bk} {g : Int} {j : Nat} (hj : j < l.length) : nowAt l g (j + 1) = nowAt l g j + (if (l.getD j bk0).a = g then 1 else 0) - (if (l.getD j bk0).b = g then 1 else 0) := by
  unfold nowAt
  rw [List.take_succ_eq_append_getElem hj, List.countP_append, List.countP_append]
  have e : l.getD j bk0 = l[j] := by simp [List.getD, hj]
  rw [e]
  simp only [List.countP_cons, List.countP_nil, decide_eq_true_eq]
  split <;> split <;> omega
theorem onN_start {l : List Bk} (hf : ∀ r ∈ l, 0 ≤ r.a ∧ r.a < r.b) : onN l (-1) = 0 := by
  unfold onN
  have h1 : l.countP (fun r => decide (r.a ≤ -1)) = 0 := by
    rw [List.countP_eq_zero]; intro r hr; have := hf r hr; simp; omega
  have h2 : l.countP (fun r => decide (r.b ≤ -1)) = 0 := by
    rw [List.countP_eq_zero]; intro r hr; have := hf r hr; simp; omega
  rw [h1, h2]; rfl
theorem nowAt_bd (l : List Bk) (g : Int) (j : Nat) : -(2 * (l.length : Int)) ≤ nowAt l g j ∧ nowAt l g j ≤ 2 * (l.length : Int) := by
  unfold nowAt onN
  have h1 := List.countP_le_length (p := fun r : Bk => decide (r.a ≤ g - 1)) (l := l)
  have h2 := List.countP_le_length (p := fun r : Bk => decide (r.b ≤ g - 1)) (l := l)
  have h3 := List.countP_le_length (p := fun r : Bk => decide (r.a = g)) (l := l.take j)
  have h4 := List.countP_le_length (p := fun r : Bk => decide (r.b = g)) (l := l.take j)
  have h5 := List.length_take_le j l
  have h6 := List.length_take_le' j l
  omega
theorem valid_all {n : Int} {l : List Bk} (h : validB n l = true) : ∀ r ∈ l, 0 ≤ r.a ∧ r.a < r.b := fun r hr => by
  obtain ⟨i, hi, rfl⟩ := List.getElem_of_mem hr
  have := fitsB_iff.1 ((validB_iff.1 h).2.2.1 i hi)
  have e : l.getD i bk0 = l[i] := by simp [List.getD, hi]
  rw [e] at this
  exact ⟨this.1, this.2.1⟩
/-- On each leg: those who ride, at most ten. -/
theorem ride_leg {n : Int} {l : List Bk} (h : validB n l = true) {g : Nat} (hg : g < n.toNat) : (rideUp l n.toNat).getD g 0 = onN l g ∧ onN l g ≤ 10 := by
  have hf := valid_all h
  have e := ride_now (fun r hr => (hf r hr).2) (g : Int)
  rw [rideUp_at l hg, e]
  refine ⟨rfl, ?_⟩
  rw [← e]
  have := (validB_iff.1 h).2.2.2 g hg
  simp only [legOK, Bool.and_eq_true, decide_eq_true_eq] at this
  omega

end Go.Proofs.Ytmadfbncoibapab
