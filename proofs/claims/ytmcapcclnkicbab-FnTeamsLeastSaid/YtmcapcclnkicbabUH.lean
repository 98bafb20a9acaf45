/- The busiest minute tells the least number of teams: plain facts. -/
import Derived.Test.YtmcapcclnkicbabUG
namespace Go.Proofs.Ytmcapcclnkicbab

theorem countP_disj {α : Type} (p q : α → Bool) (hd : ∀ x, p x = true → q x = false) : ∀ l : List α, l.countP (fun x => p x || q x) = l.countP p + l.countP q
  | [] => rfl
  | x :: l => by
    have ih := countP_disj p q hd l
    simp only [List.countP_cons]
    rw [ih]
    cases hp : p x with
    | true => have := hd x hp; rw [this]; simp; omega
    | false => cases hq : q x <;> simp <;> omega

/-- At most one index. -/
theorem countP_one {n : Nat} {q : Nat → Bool} (h : ∀ i j, i < n → j < n → q i = true → q j = true → i = j) : (List.range n).countP q ≤ 1 := by
  induction n with
  | zero => simp
  | succ n ih =>
    rw [List.range_succ, List.countP_append]
    have i1 := ih (fun i j hi hj => h i j (by omega) (by omega))
    cases hq : q n with
    | false => simp [List.countP_cons, hq]; exact i1
    | true =>
      have : (List.range n).countP q = 0 := by
        rw [List.countP_eq_zero]
        intro i hi hqi
        simp only [List.mem_range] at hi
        have := h i n (by omega) (by omega) hqi hq
        omega
      simp [List.countP_cons, hq, this]

theorem countP_step (p : Nat → Bool) (f : Nat → Nat) (l : List Nat) (t : Nat) : l.countP (fun j => p j && decide (f j < t + 1)) = l.countP (fun j => p j && decide (f j < t)) + l.countP (fun j => p j && decide (f j = t)) := by
  rw [← countP_disj]
  · congr 1
    funext j
    cases p j with
    | false => rfl
    | true =>
      by_cases h : f j < t
      · simp [h, show f j < t + 1 by omega]
      · by_cases e : f j = t
        · simp [e]
        · simp [h, e, show ¬ f j < t + 1 by omega]
  · intro j hj
    simp only [Bool.and_eq_true, decide_eq_true_eq] at hj
    simp only [Bool.and_eq_false_iff, decide_eq_false_iff_not]
    exact .inr (by omega)

/-- As many as there are numbers below t. -/
theorem countP_onto {n : Nat} {p : Nat → Bool} {f : Nat → Nat} : ∀ {t : Nat}, (∀ u, u < t → ∃ j, j < n ∧ p j = true ∧ f j = u) → t ≤ (List.range n).countP (fun j => p j && decide (f j < t))
  | 0, _ => Nat.zero_le _
  | t + 1, h => by
    have ih := countP_onto (t := t) (fun u hu => h u (by omega))
    rw [countP_step]
    obtain ⟨j, hj, hp, hf⟩ := h t (by omega)
    have : 0 < (List.range n).countP (fun j => p j && decide (f j = t)) := List.countP_pos_iff.2 ⟨j, by simpa using hj, by simp [hp, hf]⟩
    omega

theorem countP_into {n : Nat} {p : Nat → Bool} {f : Nat → Nat} (hi : ∀ i j, i < n → j < n → p i = true → p j = true → f i = f j → i = j) : ∀ (t : Nat), (List.range n).countP (fun j => p j && decide (f j < t)) ≤ t
  | 0 => by
    have : (List.range n).countP (fun j => p j && decide (f j < 0)) = 0 := by rw [List.countP_eq_zero]; intro j _; simp
    omega
  | t + 1 => by
    have ih := countP_into hi t
    rw [countP_step]
    have : (List.range n).countP (fun j => p j && decide (f j = t)) ≤ 1 := countP_one fun i j hi' hj' hp hq => by
      simp only [Bool.and_eq_true, decide_eq_true_eq] at hp hq
      exact hi i j hi' hj' hp.1 hq.1 (by omega)
    omega

def busyB (l : List Rn) (rest t : Int) (j : Nat) : Bool := decide ((l.getD j rn0).a ≤ t) && decide (t < (l.getD j rn0).b + rest)

theorem busyTo_range (l : List Rn) (rest t : Int) : ∀ k, k ≤ l.length → busyTo l rest t k = (List.range k).countP (busyB l rest t)
  | 0, _ => rfl
  | k + 1, h => by
    rw [busyTo_succ (by omega), busyTo_range l rest t k (by omega), List.range_succ, List.countP_append]
    congr 1
    simp [List.countP_cons, busyB]

theorem busyTo_mono (l : List Rn) (rest t : Int) {k : Nat} : ∀ {m : Nat}, k ≤ m → m ≤ l.length → busyTo l rest t k ≤ busyTo l rest t m
  | 0, h, _ => by obtain rfl : k = 0 := by omega
                  exact Nat.le_refl _
  | m + 1, h, hm => by
    by_cases e : k = m + 1
    · subst e; exact Nat.le_refl _
    · have := busyTo_mono l rest t (show k ≤ m by omega) (by omega)
      rw [busyTo_succ (by omega)]; omega

/-- The most that are busy at a Start of the first k. -/
def mostTo (l : List Rn) (rest : Int) : Nat → Nat
  | 0 => 0
  | k + 1 => max (mostTo l rest k) (busyU l rest (l.getD k rn0).a)

theorem mostTo_ge (l : List Rn) (rest : Int) {i : Nat} : ∀ {k : Nat}, i < k → busyU l rest (l.getD i rn0).a ≤ mostTo l rest k
  | k + 1, h => by
    show _ ≤ max (mostTo l rest k) (busyU l rest (l.getD k rn0).a)
    by_cases e : i = k
    · subst e; omega
    · have := mostTo_ge l rest (show i < k by omega); omega
theorem mostTo_le (l : List Rn) (rest : Int) {m : Nat} : ∀ {k : Nat}, (∀ i, i < k → busyU l rest (l.getD i rn0).a ≤ m) → mostTo l rest k ≤ m
  | 0, _ => Nat.zero_le _
  | k + 1, h => by
    have h1 := mostTo_le l rest (k := k) (fun i hi => h i (by omega))
    have h2 := h k (by omega)
    show max (mostTo l rest k) (busyU l rest (l.getD k rn0).a) ≤ m
    omega
theorem mostTo_len (l : List Rn) (rest : Int) (k : Nat) : mostTo l rest k ≤ l.length := mostTo_le l rest fun _ _ => busyU_le _ _ _

theorem least_busy {l : List Rn} {rest : Int} (hz : okR l rest = true) {k : Nat} (hk : k < l.length) : leastT l rest (mkTo l rest k) k + 1 ≤ busyU l rest (l.getD k rn0).a := by
  obtain ⟨hz1, r0, r6⟩ := okR_parts.1 hz
  have hat := validU_at hz1 hk
  have h1 := busyTo_mono l rest (l.getD k rn0).a (show k + 1 ≤ l.length by omega) (Nat.le_refl _)
  rw [busyTo_succ hk, if_pos ⟨by omega, by omega⟩, busyTo_range l rest _ k (by omega)] at h1
  have h2 : leastT l rest (mkTo l rest k) k ≤ (List.range k).countP (fun j => busyB l rest (l.getD k rn0).a j && decide (((mkTo l rest k).getD j 0).toNat < leastT l rest (mkTo l rest k) k)) := by
    refine countP_onto fun u hu => ?_
    have hc := least_lt l rest k hu
    have hne : ¬ ∀ j, j < k → (mkTo l rest k).getD j 0 = (u : Int) → (l.getD j rn0).b + rest ≤ (l.getD k rn0).a := fun h => by
      have := canTo_iff.2 h
      unfold canU at hc; rw [this] at hc; cases hc
    have : ∃ j, j < k ∧ (mkTo l rest k).getD j 0 = (u : Int) ∧ (l.getD k rn0).a < (l.getD j rn0).b + rest := by
      apply Classical.byContradiction
      intro h
      refine hne fun j hj ht => ?_
      apply Classical.byContradiction
      intro h'
      exact h ⟨j, hj, ht, by omega⟩
    obtain ⟨j, hj, ht, hb⟩ := this
    have hle := validU_le hz1 (show j ≤ k by omega) hk
    exact ⟨j, hj, by simp only [busyB, Bool.and_eq_true, decide_eq_true_eq]; exact ⟨hle, hb⟩, by rw [ht]; simp⟩
  have h3 : (List.range k).countP (fun j => busyB l rest (l.getD k rn0).a j && decide (((mkTo l rest k).getD j 0).toNat < leastT l rest (mkTo l rest k) k)) ≤ (List.range k).countP (busyB l rest (l.getD k rn0).a) :=
    List.countP_mono_left fun j _ h => by simp only [Bool.and_eq_true] at h; exact h.1
  unfold busyU
  omega

theorem cnt_le_most {l : List Rn} {rest : Int} (hz : okR l rest = true) : ∀ {k : Nat}, k ≤ l.length → cntTo l rest k ≤ mostTo l rest k
  | 0, _ => Nat.le_refl _
  | k + 1, h => by
    have h1 := cnt_le_most hz (show k ≤ l.length by omega)
    have h2 := least_busy hz (show k < l.length by omega)
    rw [cntTo_succ]
    show _ ≤ max (mostTo l rest k) (busyU l rest (l.getD k rn0).a)
    omega

theorem busy_le_cnt {l : List Rn} {rest : Int} (hz : okR l rest = true) (t : Int) : busyU l rest t ≤ cntTo l rest l.length := by
  obtain ⟨hz1, r0, r6⟩ := okR_parts.1 hz
  unfold busyU
  rw [busyTo_range l rest t _ (Nat.le_refl _)]
  have h1 := countP_into (n := l.length) (p := busyB l rest t) (f := fun j => ((mkTo l rest l.length).getD j 0).toNat) (fun i j hi hj hp hq hf => by
    have hb1 := mk_bd l rest hi
    have hb2 := mk_bd l rest hj
    have hf' : (mkTo l rest l.length).getD i 0 = (mkTo l rest l.length).getD j 0 := by omega
    simp only [busyB, Bool.and_eq_true, decide_eq_true_eq] at hp hq
    have key : ∀ i j, i < j → j < l.length → (mkTo l rest l.length).getD i 0 = (mkTo l rest l.length).getD j 0 → (l.getD i rn0).b + rest ≤ (l.getD j rn0).a := fun i j hij hj hf =>
      canTo_iff.1 (mk_can l rest hj) i hij hf
    rcases Nat.lt_trichotomy i j with h | h | h
    · have := key i j h hj hf'; omega
    · exact h
    · have := key j i h hi hf'.symm; omega) (cntTo l rest l.length)
  have h2 : (List.range l.length).countP (busyB l rest t) ≤ (List.range l.length).countP (fun j => busyB l rest t j && decide (((mkTo l rest l.length).getD j 0).toNat < cntTo l rest l.length)) := by
    refine List.countP_mono_left fun j hj h => ?_
    simp only [List.mem_range] at hj
    have := mk_cnt l rest hj
    simp only [Bool.and_eq_true, decide_eq_true_eq]
    refine ⟨h, ?_⟩
    have hb := mk_bd l rest hj
    omega
  omega

/-- The busiest minute tells the least number of teams. -/
theorem cnt_most {l : List Rn} {rest : Int} (hz : okR l rest = true) : cntTo l rest l.length = mostTo l rest l.length := by
  have h1 := cnt_le_most hz (Nat.le_refl l.length)
  have h2 := mostTo_le l rest (k := l.length) (fun i _ => busy_le_cnt hz (l.getD i rn0).a)
  omega

def leastV (l : List Rn) (rest : Int) : Int := if okR l rest = true then (mostTo l rest l.length : Nat) else -1

/-- The greatest rest below k with which so many teams are enough. -/
def downTo (l : List Rn) (teams : Int) : Nat → Int
  | 0 => -1
  | k + 1 => if leastV l (k : Int) ≤ teams then (k : Int) else downTo l teams k
def restOk (l : List Rn) (teams : Int) : Bool := validU l && (decide (1 ≤ teams) && decide (teams ≤ 12))
def restV (l : List Rn) (teams : Int) : Int := if restOk l teams = true then downTo l teams 601 else -1

end Go.Proofs.Ytmcapcclnkicbab
