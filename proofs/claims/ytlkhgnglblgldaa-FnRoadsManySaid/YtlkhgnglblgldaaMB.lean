/- Shortest ways are counted alike from either end; no program. -/
import Derived.Test.YtlkhgnglblgldaaRF
import Derived.Test.YtlkhgnglblgldaaAA
namespace Go.Proofs.Ytlkhgnglblgldaa
open Go.RowKit

theorem wrap_small {x : Int} (h0 : -9223372036854775808 ≤ x) (h1 : x ≤ 9223372036854775807) : wrap64 x = x := by
  unfold wrap64; omega
/-- A sum over the first k numbers. -/
def sumR (h : Nat → Int) : Nat → Int
  | 0 => 0
  | k + 1 => sumR h k + h k
theorem sumR_congr {f g : Nat → Int} : ∀ {k : Nat}, (∀ i, i < k → f i = g i) → sumR f k = sumR g k
  | 0, _ => rfl
  | k + 1, h => by simp only [sumR]; rw [sumR_congr (k := k) fun i hi => h i (by omega), h k (by omega)]
theorem sumR_add (f g : Nat → Int) : ∀ k, sumR (fun i => f i + g i) k = sumR f k + sumR g k
  | 0 => rfl
  | k + 1 => by simp only [sumR]; rw [sumR_add f g k]; omega
theorem sumR_zero : ∀ k, sumR (fun _ => 0) k = 0
  | 0 => rfl
  | k + 1 => by simp only [sumR]; rw [sumR_zero k]; rfl
theorem sumR_swap (f : Nat → Nat → Int) (m : Nat) : ∀ k, sumR (fun i => sumR (f i) m) k = sumR (fun j => sumR (fun i => f i j) k) m
  | 0 => by show (0 : Int) = sumR (fun _ => 0) m; rw [sumR_zero]
  | k + 1 => by
    show sumR (fun i => sumR (f i) m) k + sumR (f k) m = sumR (fun j => sumR (fun i => f i j) k + f k j) m
    rw [sumR_add, sumR_swap f m k]
theorem sumR_if (p : Bool) (h : Nat → Int) (k : Nat) : (if p = true then sumR h k else 0) = sumR (fun i => if p = true then h i else 0) k := by
  cases p
  · simp [sumR_zero]
  · simp
theorem sumR_none {h : Nat → Int} {k : Nat} (h0 : ∀ i, i < k → h i = 0) : sumR h k = 0 := by
  rw [sumR_congr (g := fun _ => 0) h0, sumR_zero]
theorem sumR_one (y : Nat) (c : Nat → Int) : ∀ k, y < k → sumR (fun i => if i = y then c i else 0) k = c y
  | 0, h => by omega
  | k + 1, h => by
    simp only [sumR]
    by_cases e : y = k
    · subst e
      rw [sumR_none (fun i hi => if_neg (by omega)), if_pos rfl, Int.zero_add]
    · rw [sumR_one y c k (by omega), if_neg (by omega), Int.add_zero]
theorem sumR_ge {h : Nat → Int} : ∀ {k : Nat}, (∀ i, i < k → 0 ≤ h i) → 0 ≤ sumR h k ∧ ∀ y, y < k → h y ≤ sumR h k
  | 0, _ => ⟨Int.le_refl _, fun y hy => by omega⟩
  | k + 1, h0 => by
    obtain ⟨h1, h2⟩ := sumR_ge (k := k) fun i hi => h0 i (by omega)
    have h3 := h0 k (by omega)
    simp only [sumR]
    refine ⟨by omega, fun y hy => ?_⟩
    by_cases e : y = k
    · subst e; omega
    · have := h2 y (by omega); omega
theorem sumR_le {h : Nat → Int} {B : Int} : ∀ {k : Nat}, (∀ i, i < k → h i ≤ B) → sumR h k ≤ (k : Int) * B
  | 0, _ => by simp [sumR]
  | k + 1, h0 => by
    have h1 := sumR_le (k := k) fun i hi => h0 i (by omega)
    have h2 := h0 k (by omega)
    simp only [sumR]
    rw [Int.natCast_add, Int.add_mul]
    simp only [Int.natCast_one, Int.one_mul]; omega
theorem sumR_mono {h : Nat → Int} {k m : Nat} (h0 : ∀ i, i < m → 0 ≤ h i) (hk : k ≤ m) : sumR h k ≤ sumR h m := by
  induction m with
  | zero => obtain rfl : k = 0 := by omega
            exact Int.le_refl _
  | succ m ih =>
    by_cases e : k = m + 1
    · subst e; exact Int.le_refl _
    · have := ih (fun i hi => h0 i (by omega)) (by omega)
      have := h0 m (by omega)
      simp only [sumR]; omega

noncomputable def nearB (n : Int) (l : List Rd) (b t x : Int) : Bool := nearP (edge l) (distN n (edge l) b) t x
theorem nearB_iff {n : Int} {l : List Rd} (hz : validR n l = true) {b t d x : Int} (hb : 0 ≤ b ∧ b < n) (hd : Dist (edge l) b t d) :
    nearB n l b t x = true ↔ ∃ m dx, edge l t x = some m ∧ Dist (edge l) b x dx ∧ dx + m = d := by
  unfold nearB
  rw [nearP_iff, distN_of hb hd]
  constructor
  · rintro ⟨m, h1, h2⟩
    obtain ⟨dx, h3⟩ := near_dist hz hd h1
    rw [distN_of hb h3] at h2
    exact ⟨m, dx, h1, h3, h2⟩
  · rintro ⟨m, dx, h1, h2, h3⟩
    rw [distN_of hb h2]
    exact ⟨m, h1, h3⟩
/-- The number of shortest ways from t to b, k deep. -/
noncomputable def cntW (n : Int) (l : List Rd) (b : Int) : Nat → Int → Int
  | 0, _ => 1
  | k + 1, t => if (distN n (edge l) b t).getD 0 = 0 then 1 else sumR (fun i => if nearB n l b t i = true then cntW n l b k i else 0) n.toNat
noncomputable def cntN (n : Int) (l : List Rd) (b t : Int) : Int := cntW n l b 1001 t
theorem cntW_succ (n : Int) (l : List Rd) (b : Int) (k : Nat) (t : Int) : cntW n l b (k + 1) t = if (distN n (edge l) b t).getD 0 = 0 then 1 else sumR (fun i => if nearB n l b t i = true then cntW n l b k i else 0) n.toNat := rfl
theorem cntN_eq (n : Int) (l : List Rd) (b t : Int) : cntN n l b t = cntW n l b (1000 + 1) t := rfl

section
variable {n : Int} {l : List Rd} (hz : validR n l = true)
include hz
theorem near_town {t x m : Int} (h : edge l t x = some m) : (0 ≤ t ∧ t < n) ∧ (0 ≤ x ∧ x < n) ∧ 1 ≤ m ∧ m ≤ 99 := by
  have := (edges_ok hz).bd _ _ _ h; omega
theorem cnt_fuel {b : Int} (hb : 0 ≤ b ∧ b < n) : ∀ (k j : Nat) (t d : Int), Dist (edge l) b t d → d ≤ (k : Int) → d ≤ (j : Int) → cntW n l b k t = cntW n l b j t
  | 0, 0, _, _, _, _, _ => rfl
  | 0, j + 1, t, d, hd, hk, hj => by
    have h0 := hd.nonneg (edges_ok hz).pos
    have : d = 0 := by omega
    subst this
    show 1 = if (distN n (edge l) b t).getD 0 = 0 then 1 else _
    rw [distN_of hb hd]; rfl
  | k + 1, 0, t, d, hd, hk, hj => by
    have h0 := hd.nonneg (edges_ok hz).pos
    have : d = 0 := by omega
    subst this
    show (if (distN n (edge l) b t).getD 0 = 0 then 1 else _) = 1
    rw [distN_of hb hd]; rfl
  | k + 1, j + 1, t, d, hd, hk, hj => by
    simp only [cntW]
    split
    · rfl
    · refine sumR_congr fun i hi => ?_
      cases hn : nearB n l b t i with
      | false => simp
      | true =>
        obtain ⟨m, dx, h1, h2, h3⟩ := (nearB_iff hz hb hd).1 hn
        have := (near_town hz h1).2.2.1
        simp only [if_true]
        exact cnt_fuel hb k j i dx h2 (by omega) (by omega)
theorem near_self {b x : Int} (hb : 0 ≤ b ∧ b < n) : nearB n l b b x = false := by
  rw [Bool.eq_false_iff]; intro h
  obtain ⟨m, dx, h1, h2, h3⟩ := (nearB_iff hz hb (Dist.self (edges_ok hz).pos b)).1 h
  have := (near_town hz h1).2.2.1
  have := h2.nonneg (edges_ok hz).pos
  omega
theorem cnt_self {b : Int} (hb : 0 ≤ b ∧ b < n) : cntN n l b b = 1 := by
  rw [cntN_eq, cntW_succ, distN_of hb (Dist.self (edges_ok hz).pos b)]; rfl
/-- By the first step. -/
theorem cnt_first {b t d : Int} (hb : 0 ≤ b ∧ b < n) (hd : Dist (edge l) b t d) :
    cntN n l b t = (if t = b then 1 else 0) + sumR (fun i => if nearB n l b t i = true then cntN n l b i else 0) n.toNat := by
  by_cases e : t = b
  · subst e
    rw [if_pos rfl, cnt_self hz hb, sumR_none (fun i hi => by rw [near_self hz hb]; rfl)]; rfl
  · rw [if_neg e, Int.zero_add]
    have hd0 : ¬ (distN n (edge l) b t).getD 0 = 0 := by
      rw [distN_of hb hd]
      intro h
      exact e ((hd.zero_iff (edges_ok hz).pos).1 h).symm
    have hdb := (edges_ok hz).dist hd
    rw [cntN_eq, cntW_succ, if_neg hd0]
    refine sumR_congr fun i hi => ?_
    cases hn : nearB n l b t i with
    | false => simp
    | true =>
      obtain ⟨m, dx, h1, h2, h3⟩ := (nearB_iff hz hb hd).1 hn
      have hdx := (edges_ok hz).dist h2
      simp only [if_true]
      exact cnt_fuel hz hb 1000 1001 i dx h2 (by omega) (by omega)
omit hz in
theorem dist_sym {a b d : Int} (h : Dist (edge l) a b d) : Dist (edge l) b a d := h.symm (edge_sym l)
/-- A first step from t, then a last one into b; either may be told first. -/
theorem near_both {b t d z w : Int} (hb : 0 ≤ b ∧ b < n) (ht : 0 ≤ t ∧ t < n) (hd : Dist (edge l) b t d) :
    (nearB n l b t z = true ∧ nearB n l z b w = true) → (nearB n l t b w = true ∧ nearB n l w t z = true) := by
  rintro ⟨h1, h2⟩
  obtain ⟨m, dz, e1, f1, g1⟩ := (nearB_iff hz hb hd).1 h1
  have hzt := (near_town hz e1).2.1
  obtain ⟨m', dw, e2, f2, g2⟩ := (nearB_iff hz hzt (dist_sym f1)).1 h2
  have hwt := (near_town hz e2).2.1
  -- z to w is dw; t to w by z is m + dw; that is shortest
  have hp := (edges_ok hz).pos
  have hwy : Way (edge l) t w (m + dw) := Way.cons e1 f2.1
  have hD : Dist (edge l) t w (m + dw) := ⟨hwy, fun d' h' => by
    have e2' : edge l w b = some m' := by rw [edge_symm]; exact e2
    have h3 := (dist_sym hd).2 _ (h'.snoc e2')
    omega⟩
  refine ⟨(nearB_iff hz ht (dist_sym hd)).2 ⟨m', m + dw, e2, hD, by omega⟩, ?_⟩
  exact (nearB_iff hz hwt (dist_sym hD)).2 ⟨m, dw, e1, dist_sym f2, by omega⟩
theorem near_bothE {b t d z w : Int} (hb : 0 ≤ b ∧ b < n) (ht : 0 ≤ t ∧ t < n) (hd : Dist (edge l) b t d) :
    (nearB n l b t z && nearB n l z b w) = (nearB n l t b w && nearB n l w t z) := by
  rw [Bool.eq_iff_iff, Bool.and_eq_true, Bool.and_eq_true]
  exact ⟨near_both hz hb ht hd, fun h => near_both hz ht hb (dist_sym hd) h⟩
theorem near_end {b t d : Int} (hb : 0 ≤ b ∧ b < n) (ht : 0 ≤ t ∧ t < n) (hd : Dist (edge l) b t d) : nearB n l b t b = nearB n l t b t := by
  have key : ∀ {b t d : Int}, (0 ≤ b ∧ b < n) → (0 ≤ t ∧ t < n) → Dist (edge l) b t d → nearB n l b t b = true → nearB n l t b t = true := by
    intro b t d hb ht hd h
    obtain ⟨m, dx, h1, h2, h3⟩ := (nearB_iff hz hb hd).1 h
    have hp := (edges_ok hz).pos
    have : dx = 0 := h2.uniq (Dist.self hp b)
    refine (nearB_iff hz ht (dist_sym hd)).2 ⟨m, 0, by rw [edge_symm]; exact h1, Dist.self hp t, by omega⟩
  rw [Bool.eq_iff_iff]
  exact ⟨key hb ht hd, key ht hb (dist_sym hd)⟩
/-- By the last step. -/
theorem cnt_last : ∀ (j : Nat) {b t d : Int}, (0 ≤ b ∧ b < n) → Dist (edge l) b t d → d ≤ (j : Int) →
    cntN n l b t = (if t = b then 1 else 0) + sumR (fun i => if nearB n l t b i = true then cntN n l i t else 0) n.toNat := by
  intro j
  induction j with
  | zero =>
    intro b t d hb hd hj
    have hp := (edges_ok hz).pos
    have h0 := hd.nonneg hp
    obtain rfl := (hd.zero_iff hp).1 (by omega)
    rw [if_pos rfl, cnt_self hz hb, sumR_none (fun i hi => by rw [near_self hz hb]; rfl)]; rfl
  | succ j ih =>
    intro b t d hb hd hj
    by_cases e : t = b
    · subst e
      rw [if_pos rfl, cnt_self hz hb, sumR_none (fun i hi => by rw [near_self hz hb]; rfl)]; rfl
    · have hp := (edges_ok hz).pos
      have ht := (edges_ok hz).town hd hb
      rw [cnt_first hz hb hd, if_neg e, Int.zero_add, Int.zero_add]
      obtain ⟨bN, hbN⟩ : ∃ k : Nat, b = (k : Int) := ⟨b.toNat, by omega⟩
      obtain ⟨tN, htN⟩ : ∃ k : Nat, t = (k : Int) := ⟨t.toNat, by omega⟩
      have hL : sumR (fun i => if nearB n l b t i = true then cntN n l b i else 0) n.toNat =
          sumR (fun z => (if z = bN then (if nearB n l b t z = true then 1 else 0) else 0) + sumR (fun w => if (nearB n l b t z && nearB n l z b w) = true then cntN n l w z else 0) n.toNat) n.toNat := by
        refine sumR_congr fun z _ => ?_
        cases hn : nearB n l b t z with
        | false => simp [sumR_zero]
        | true =>
          obtain ⟨m, dx, h1, h2, h3⟩ := (nearB_iff hz hb hd).1 hn
          have hm := (near_town hz h1).2.2.1
          rw [ih hb h2 (by omega)]
          simp only [if_true, Bool.true_and]
          congr 1
          by_cases ez : z = bN
          · rw [if_pos ez, if_pos (by omega)]
          · rw [if_neg ez, if_neg (by omega)]
      have hR : sumR (fun i => if nearB n l t b i = true then cntN n l i t else 0) n.toNat =
          sumR (fun w => (if w = tN then (if nearB n l t b w = true then 1 else 0) else 0) + sumR (fun z => if (nearB n l t b w && nearB n l w t z) = true then cntN n l w z else 0) n.toNat) n.toNat := by
        refine sumR_congr fun w _ => ?_
        cases hn : nearB n l t b w with
        | false => simp [sumR_zero]
        | true =>
          obtain ⟨m, dx, h1, h2, h3⟩ := (nearB_iff hz ht (dist_sym hd)).1 hn
          have hw := (near_town hz h1).2.1
          rw [cnt_first hz hw (dist_sym h2)]
          simp only [if_true, Bool.true_and]
          congr 1
          by_cases ez : w = tN
          · rw [if_pos ez, if_pos (by omega)]
          · rw [if_neg ez, if_neg (by omega)]
      rw [hL, hR, sumR_add, sumR_add, sumR_one bN _ _ (by omega), sumR_one tN _ _ (by omega), sumR_swap]
      congr 1
      · have h1 := near_end hz hb ht hd
        rw [← hbN, ← htN, h1]
      · refine sumR_congr fun w _ => sumR_congr fun z _ => ?_
        rw [near_bothE hz hb ht hd]
/-- From the other end. -/
theorem cnt_symm : ∀ (j : Nat) {b t d : Int}, (0 ≤ b ∧ b < n) → Dist (edge l) b t d → d ≤ (j : Int) → cntN n l b t = cntN n l t b := by
  intro j
  induction j with
  | zero =>
    intro b t d hb hd hj
    have hp := (edges_ok hz).pos
    have h0 := hd.nonneg hp
    obtain rfl := (hd.zero_iff hp).1 (by omega)
    rfl
  | succ j ih =>
    intro b t d hb hd hj
    have ht := (edges_ok hz).town hd hb
    rw [cnt_last hz (j + 1) hb hd hj, cnt_first hz ht (dist_sym hd)]
    congr 1
    · by_cases e : t = b
      · rw [if_pos e, if_pos e.symm]
      · rw [if_neg e, if_neg (fun h => e h.symm)]
    · refine sumR_congr fun i _ => ?_
      cases hn : nearB n l t b i with
      | false => simp
      | true =>
        obtain ⟨m, dx, h1, h2, h3⟩ := (nearB_iff hz ht (dist_sym hd)).1 hn
        have hm := (near_town hz h1).2.2.1
        simp only [if_true]
        exact (ih ht h2 (by omega)).symm
omit hz in
theorem nearCnt_lt {m : Nat} {s x dx d : Int} (hx : 0 ≤ x ∧ x < (m : Int)) (hd : Dist (edge l) s x dx) (hlt : dx < d) : nearCnt (edge l) m s dx + 1 ≤ nearCnt (edge l) m s d := by
  unfold nearCnt
  refine countP_lt (a := x.toNat) ?_ ?_ ?_ ?_
  · intro a ha
    simp only [decide_eq_true_eq] at ha ⊢
    obtain ⟨d', h1, h2⟩ := ha
    exact ⟨d', by omega, h2⟩
  · simp only [List.mem_range]; omega
  · simp only [decide_eq_true_eq]
    exact ⟨dx, hlt, by rwa [Int.toNat_of_nonneg hx.1]⟩
  · simp only [decide_eq_false_iff_not]
    rintro ⟨d', h1, h2⟩
    rw [Int.toNat_of_nonneg hx.1] at h2
    have := h2.uniq hd
    omega
theorem cnt_bd {b : Int} (hb : 0 ≤ b ∧ b < n) : ∀ (k : Nat) (t d : Int), Dist (edge l) b t d → d ≤ (k : Int) → 1 ≤ cntW n l b k t ∧ cntW n l b k t ≤ ((8 ^ nearCnt (edge l) n.toNat b d : Nat) : Int)
  | 0, t, d, hd, hk => by
    have := Nat.pow_pos (n := nearCnt (edge l) n.toNat b d) (show 0 < 8 by decide)
    simp only [cntW]; omega
  | k + 1, t, d, hd, hk => by
    have hpw := Nat.pow_pos (n := nearCnt (edge l) n.toNat b d) (show 0 < 8 by decide)
    simp only [cntW]
    rw [distN_of hb hd]
    by_cases h0 : (some d).getD 0 = 0
    · rw [if_pos h0]; omega
    · rw [if_neg h0]
      have hn1 := (edges_ok hz).n1
      have hn8 := (edges_ok hz).n8
      have hne : t ≠ b := by rintro rfl; exact h0 (hd.uniq (Dist.self (edges_ok hz).pos _))
      obtain ⟨z, hzm⟩ := near_ex hz hb hd hne
      obtain ⟨hzt, hzn⟩ := mem_nearL.1 hzm
      have hzn' : nearB n l b t z = true := hzn
      have key : ∀ i : Nat, nearB n l b t i = true → 1 ≤ cntW n l b k i ∧ ∃ r, nearCnt (edge l) n.toNat b d = r + 1 ∧ cntW n l b k i ≤ ((8 ^ r : Nat) : Int) := by
        intro i hi
        obtain ⟨m, dx, h1, h2, h3⟩ := (nearB_iff hz hb hd).1 hi
        have hm := near_town hz h1
        have ih := cnt_bd hb k i dx h2 (by omega)
        have hlt := nearCnt_lt (m := n.toNat) (x := (i : Int)) (by omega) h2 (show dx < d by omega)
        refine ⟨ih.1, nearCnt (edge l) n.toNat b d - 1, by omega, ?_⟩
        have := Nat.pow_le_pow_right (show 0 < 8 by decide) (show nearCnt (edge l) n.toNat b dx ≤ nearCnt (edge l) n.toNat b d - 1 by omega)
        have h4 := ih.2
        omega
      obtain ⟨zN, rfl⟩ : ∃ k : Nat, z = (k : Int) := ⟨z.toNat, by omega⟩
      obtain ⟨hz1, r, hr, _⟩ := key zN hzn'
      have hpos : ∀ i, i < n.toNat → 0 ≤ (fun i : Nat => if nearB n l b t i = true then cntW n l b k i else 0) i := fun i hi => by
        cases hi2 : nearB n l b t i with
        | false => simp [hi2]
        | true => simp only [hi2, if_true]; have := (key i hi2).1; omega
      have h1 := (sumR_ge hpos).2 zN (by omega)
      have h2 := sumR_le (h := fun i : Nat => if nearB n l b t i = true then cntW n l b k i else 0) (B := ((8 ^ r : Nat) : Int)) (k := n.toNat) (fun i hi => by
        cases hi2 : nearB n l b t i with
        | false => simp only [Bool.false_eq_true, if_false]; exact Int.natCast_nonneg _
        | true =>
          obtain ⟨_, r', hr', h3⟩ := key i hi2
          obtain rfl : r' = r := by omega
          simpa using h3)
      simp only [hzn', if_true] at h1
      refine ⟨by omega, ?_⟩
      rw [hr, Nat.pow_succ]
      have h3 : (n.toNat : Int) * ((8 ^ r : Nat) : Int) ≤ 8 * ((8 ^ r : Nat) : Int) := Int.mul_le_mul_of_nonneg_right (by omega) (by omega)
      omega
theorem cnt_small {b t d : Int} (hb : 0 ≤ b ∧ b < n) (hd : Dist (edge l) b t d) {k : Nat} (hk : d ≤ (k : Int)) : 1 ≤ cntW n l b k t ∧ cntW n l b k t ≤ 16777216 := by
  obtain ⟨h1, h2⟩ := cnt_bd hz hb k t d hd hk
  have h3 : nearCnt (edge l) n.toNat b d ≤ 8 := by
    have hn8 := (edges_ok hz).n8
    unfold nearCnt
    refine Nat.le_trans List.countP_le_length ?_
    simp; omega
  have h4 := Nat.pow_le_pow_right (show 0 < 8 by decide) h3
  have h5 : (8 : Nat) ^ 8 = 16777216 := by decide
  omega
/-- What the program and the model count. -/
theorem many_cnt {b : Int} (hb : 0 ≤ b ∧ b < n) : ∀ (k : Nat) (t d : Int), Dist (edge l) b t d → d ≤ (k : Int) → manyN n (edge l) (distN n (edge l) b) k t = cntW n l b k t
  | 0, _, _, _, _ => rfl
  | k + 1, t, d, hd, hk => by
    by_cases h0 : (distN n (edge l) b t).getD 0 = 0
    · simp only [manyN, cntW]; rw [if_pos h0, if_pos h0]
    · rw [manyN_to _ _ _ _ _ h0]
      have hsm := cnt_small hz hb hd hk
      simp only [cntW] at hsm ⊢
      rw [if_neg h0] at hsm ⊢
      have hpos : ∀ i, i < n.toNat → 0 ≤ (fun i : Nat => if nearB n l b t i = true then cntW n l b k i else 0) i := fun i hi => by
        cases hi2 : nearB n l b t i with
        | false => simp [hi2]
        | true =>
          obtain ⟨m, dx, h1, h2, h3⟩ := (nearB_iff hz hb hd).1 hi2
          have hm := near_town hz h1
          have := (cnt_small hz hb h2 (k := k) (by omega)).1
          simp only [hi2, if_true]; omega
      have key : ∀ j, j ≤ n.toNat → manyTo n (edge l) (distN n (edge l) b) k t j = sumR (fun i => if nearB n l b t i = true then cntW n l b k i else 0) j := by
        intro j
        induction j with
        | zero => intro _; rfl
        | succ j ih =>
          intro hj
          rw [manyTo_succ, ih (by omega)]
          simp only [sumR]
          cases hn : nearB n l b t j with
          | false =>
            have hn' : nearP (edge l) (distN n (edge l) b) t j = false := hn
            rw [hn']; simp
          | true =>
            have hn' : nearP (edge l) (distN n (edge l) b) t j = true := hn
            rw [hn']
            obtain ⟨m, dx, h1, h2, h3⟩ := (nearB_iff hz hb hd).1 hn
            have hm := near_town hz h1
            rw [many_cnt hb k j dx h2 (by omega)]
            simp only [if_true]
            have hs := sumR_mono hpos (show j + 1 ≤ n.toNat by omega)
            have hge := (sumR_ge (k := j) fun i hi => hpos i (by omega)).1
            have h5 := (cnt_small hz hb h2 (k := k) (by omega)).1
            simp only [sumR, hn, if_true] at hs
            exact wrap_small (by omega) (by omega)
      exact key n.toNat (Nat.le_refl _)
end

/-- What FnRoadsMany asks. -/
theorem many_law {n : Int} {l : List Rd} {a b : Int} (h : 0 ≤ manyV n l a b) : (0 ≤ a ∧ a < n) ∧ (0 ≤ b ∧ b < n) ∧ 1 ≤ n ∧ n ≤ 8 ∧ 1 ≤ manyV n l a b ∧ manyV n l a b ≤ 16777216 ∧ manyV n l b a = manyV n l a b ∧ (a = b → manyV n l a b = 1) ∧
    (a ≠ b → ∃ h : Nat → Int, sumR h n.toNat = manyV n l a b ∧ ∀ c : Nat, (c : Int) < n → 0 ≤ sumR h c ∧ 0 ≤ sumR h (c + 1) ∧ sumR h (c + 1) ≤ 16777216 ∧
      ((0 ≤ directOf n l a c ∧ 0 ≤ farOf n l c b ∧ directOf n l a c + farOf n l c b = farOf n l a b) → sumR h (c + 1) = sumR h c + manyV n l c b) ∧
      (¬ (0 ≤ directOf n l a c ∧ 0 ≤ farOf n l c b ∧ directOf n l a c + farOf n l c b = farOf n l a b) → sumR h (c + 1) = sumR h c)) := by
  by_cases hz : validR n l = true
  · by_cases hr : reachB n (edge l) a b = true
    · have hp := (edges_ok hz).pos
      have ha : 0 ≤ a ∧ a < n := by
        unfold reachB distN at hr
        by_cases ha : 0 ≤ a ∧ a < n
        · exact ha
        · rw [if_neg ha] at hr; cases hr
      obtain ⟨d, hd⟩ : ∃ d, Dist (edge l) a b d := by
        unfold reachB distN at hr
        rw [if_pos ha] at hr
        cases ho : distO (edge l) a b with
        | none => rw [ho] at hr; cases hr
        | some d => exact ⟨d, distO_some.1 ho⟩
      have hb := (edges_ok hz).town hd ha
      have hds := dist_sym hd
      have hdb := (edges_ok hz).dist hd
      have hmv : ∀ {x y dd : Int}, (0 ≤ x ∧ x < n) → (0 ≤ y ∧ y < n) → Dist (edge l) x y dd → manyV n l x y = cntN n l y x := fun {x y dd} hx hy hdd => by
        unfold manyV
        have hr' : reachB n (edge l) x y = true := by unfold reachB; rw [distN_of hx hdd]; rfl
        rw [if_pos hz, if_pos hr']
        have hbd := (edges_ok hz).dist hdd
        exact many_cnt hz hy 1001 x dd (dist_sym hdd) (by omega)
      have e1 := hmv ha hb hd
      have e2 := hmv hb ha hds
      have hsm := cnt_small hz hb hds (k := 1001) (by omega)
      have hn1 := (edges_ok hz).n1
      have hn8 := (edges_ok hz).n8
      rw [e1, e2]
      refine ⟨ha, hb, hn1, hn8, hsm.1, hsm.2, ?_, ?_, fun hne => ?_⟩
      · exact cnt_symm hz 1001 ha hd (by omega)
      · rintro rfl; exact cnt_self hz ha
      · have hf := cnt_first hz hb hds
        rw [if_neg hne, Int.zero_add] at hf
        have hpos : ∀ i, i < n.toNat → 0 ≤ (fun i : Nat => if nearB n l b a i = true then cntN n l b i else 0) i := fun i hi => by
          cases hi2 : nearB n l b a i with
          | false => simp [hi2]
          | true =>
            obtain ⟨m, dx, h1, h2, h3⟩ := (nearB_iff hz hb hds).1 hi2
            have hdx := (edges_ok hz).dist h2
            have := (cnt_small hz hb h2 (k := 1001) (by omega)).1
            simp only [hi2, if_true]; unfold cntN; omega
        refine ⟨fun i => if nearB n l b a i = true then cntN n l b i else 0, hf.symm, fun c hc => ?_⟩
        have hge := (sumR_ge (k := c) fun i hi => hpos i (by omega)).1
        have hle := sumR_mono hpos (show c + 1 ≤ n.toNat by omega)
        rw [← hf] at hle
        have hle2 : sumR (fun i => if nearB n l b a i = true then cntN n l b i else 0) (c + 1) ≤ 16777216 := by
          have := hsm.2; unfold cntN at hle ⊢; omega
        have hc' : 0 ≤ (c : Int) ∧ (c : Int) < n := ⟨by omega, hc⟩
        have hfar : farOf n l a b = d := far_of_dist hz ha hd
        have hge1 := (sumR_ge (k := c + 1) fun i hi => hpos i (by omega)).1
        refine ⟨hge, hge1, hle2, fun hC => ?_, fun hC => ?_⟩
        · obtain ⟨g1, g2, g3⟩ := hC
          obtain ⟨_, _, _, hcd⟩ := far_facts g2
          cases he : edge l a c with
          | none => unfold directOf at g1; rw [if_pos hz, he] at g1; exact absurd g1 (by decide)
          | some m =>
            have hdir : directOf n l a c = m := by unfold directOf; rw [if_pos hz, he]; rfl
            have hN : nearB n l b a c = true := (nearB_iff hz hb hds).2 ⟨m, farOf n l c b, he, dist_sym hcd, by omega⟩
            simp only [sumR, hN, if_true]
            rw [hmv hc' hb hcd]
        · have hN : nearB n l b a c = false := by
            rw [Bool.eq_false_iff]; intro hN
            obtain ⟨m, dx, h1, h2, h3⟩ := (nearB_iff hz hb hds).1 hN
            have hdir : directOf n l a c = m := by unfold directOf; rw [if_pos hz, h1]; rfl
            have hfc : farOf n l c b = dx := far_of_dist hz hc' (dist_sym h2)
            have hm := near_town hz h1
            have hdx := (edges_ok hz).dist h2
            exact hC ⟨by omega, by omega, by omega⟩
          simp only [sumR, hN]
          simp
    · have : manyV n l a b = -1 := by unfold manyV; rw [if_pos hz, if_neg hr]
      omega
  · have : manyV n l a b = -1 := by unfold manyV; rw [if_neg hz]
    omega

end Go.Proofs.Ytlkhgnglblgldaa
