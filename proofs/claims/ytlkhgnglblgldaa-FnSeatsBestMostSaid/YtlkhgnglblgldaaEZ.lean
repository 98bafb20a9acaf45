/- Takings: booking by booking is leg by leg; no program. -/
import Derived.Test.YtlkhgnglblgldaaEP
namespace Go.Proofs.Ytlkhgnglblgldaa

def fareK (k : Bool) (a b : Int) : Int := match k with | true => a | false => b
/-- The miles of a booking's legs, of the first g. -/
def legMiles (r : Bk) (ms : List Int) : Nat → Int
  | 0 => 0
  | g + 1 => legMiles r ms g + if r.a ≤ (g : Int) ∧ (g : Int) < r.b then ms.getD g 0 else 0
/-- Leg by leg. -/
def legTo (l : List Bk) (ms : List Int) (a b : Int) : Nat → Int
  | 0 => 0
  | g + 1 => legTo l ms a b g + ms.getD g 0 * (a * (takenB l (g : Int) true : Int) + b * (takenB l (g : Int) false : Int))
/-- Booking by booking. -/
def bookTo (l : List Bk) (ms : List Int) (a b : Int) (n : Nat) : Nat → Int
  | 0 => 0
  | j + 1 => bookTo l ms a b n j + legMiles (l.getD j bk0) ms n * fareK (l.getD j bk0).m a b

theorem takenB_nil (g : Int) (k : Bool) : takenB [] g k = 0 := rfl
theorem takenB_cons (r : Bk) (l : List Bk) (g : Int) (k : Bool) : takenB (r :: l) g k = takenB l g k + if onB g k r then 1 else 0 := by
  rw [takenB_eq, takenB_eq, List.countP_cons]
theorem legTo_nil (ms : List Int) (a b : Int) : ∀ g, legTo [] ms a b g = 0
  | 0 => rfl
  | g + 1 => by rw [legTo, legTo_nil ms a b g, takenB_nil, takenB_nil]; simp
theorem legTo_cons (r : Bk) (l : List Bk) (ms : List Int) (a b : Int) : ∀ g, legTo (r :: l) ms a b g = legTo l ms a b g + legMiles r ms g * fareK r.m a b
  | 0 => by simp [legTo, legMiles]
  | g + 1 => by
    rw [legTo, legTo, legMiles, legTo_cons r l ms a b g, takenB_cons, takenB_cons]
    have h1 : onB (g : Int) true r = (r.m && (decide (r.a ≤ (g : Int)) && decide ((g : Int) < r.b))) := by unfold onB; cases r.m <;> simp
    have h2 : onB (g : Int) false r = (!r.m && (decide (r.a ≤ (g : Int)) && decide ((g : Int) < r.b))) := by unfold onB; cases r.m <;> simp
    rw [h1, h2]
    generalize ms.getD g 0 = m
    generalize legMiles r ms g = x
    generalize legTo l ms a b g = y
    generalize takenB l (g : Int) true = t
    generalize takenB l (g : Int) false = u
    by_cases hq : r.a ≤ (g : Int) ∧ (g : Int) < r.b
    · rw [if_pos hq, decide_eq_true hq.1, decide_eq_true hq.2]
      cases r.m
      · simp only [fareK, Bool.false_and, Bool.not_false, Bool.and_self, Bool.false_eq_true, if_false, if_true, Int.natCast_add, Int.natCast_zero, Int.natCast_one, Nat.add_zero]
        rw [Int.mul_add b, Int.mul_one, Int.add_mul, ← Int.add_assoc (a * (t : Int)), Int.mul_add m (a * (t : Int) + b * (u : Int))]
        omega
      · simp only [fareK, Bool.true_and, Bool.not_true, Bool.false_and, Bool.and_self, Bool.false_eq_true, if_false, if_true, Int.natCast_add, Int.natCast_zero, Int.natCast_one, Nat.add_zero]
        rw [Int.mul_add a, Int.mul_one, Int.add_mul, Int.add_right_comm (a * (t : Int)) a, Int.mul_add m (a * (t : Int) + b * (u : Int))]
        omega
    · have hd : (decide (r.a ≤ (g : Int)) && decide ((g : Int) < r.b)) = false := by
        rw [Bool.eq_false_iff]; intro h; simp only [Bool.and_eq_true, decide_eq_true_eq] at h; exact hq h
      rw [if_neg hq, hd, Bool.and_false, Bool.and_false]
      simp
      omega
theorem bookTo_cons (r : Bk) (l : List Bk) (ms : List Int) (a b : Int) (n : Nat) : ∀ j, bookTo (r :: l) ms a b n (j + 1) = legMiles r ms n * fareK r.m a b + bookTo l ms a b n j
  | 0 => by simp [bookTo]
  | j + 1 => by
    rw [bookTo, bookTo_cons r l ms a b n j, bookTo]
    simp only [List.getD_cons_succ]
    omega
theorem book_leg (ms : List Int) (a b : Int) (n : Nat) : ∀ l : List Bk, bookTo l ms a b n l.length = legTo l ms a b n
  | [] => by rw [legTo_nil]; rfl
  | r :: l => by rw [List.length_cons, bookTo_cons, book_leg ms a b n l, legTo_cons]; omega

def milesTo (ms : List Int) (j : Nat) : Bool := (List.range j).all fun g => decide (1 ≤ ms.getD g 0) && decide (ms.getD g 0 ≤ 99)
theorem milesTo_zero (ms : List Int) : milesTo ms 0 = true := by simp [milesTo]
theorem milesTo_succ (ms : List Int) (j : Nat) : milesTo ms (j + 1) = (milesTo ms j && (decide (1 ≤ ms.getD j 0) && decide (ms.getD j 0 ≤ 99))) := by simp [milesTo, List.range_succ]
theorem milesTo_at {ms : List Int} {j g : Nat} (h : milesTo ms j = true) (hg : g < j) : 1 ≤ ms.getD g 0 ∧ ms.getD g 0 ≤ 99 := by
  simp only [milesTo, List.all_eq_true, List.mem_range, Bool.and_eq_true, decide_eq_true_eq] at h
  exact h g hg
theorem milesTo_no {ms : List Int} {j g : Nat} (hg : g < j) (h : ¬ (1 ≤ ms.getD g 0 ∧ ms.getD g 0 ≤ 99)) : milesTo ms j = false := by
  rw [Bool.eq_false_iff]; intro h'; exact h (milesTo_at h' hg)
def fareB (a : Int) : Bool := decide (0 ≤ a) && decide (a ≤ 100)
theorem fareB_iff {a : Int} : fareB a = true ↔ 0 ≤ a ∧ a ≤ 100 := by simp [fareB]
def milesB (n : Int) (ms : List Int) : Bool := decide ((ms.length : Int) = n) && milesTo ms ms.length
theorem milesB_iff {n : Int} {ms : List Int} : milesB n ms = true ↔ (ms.length : Int) = n ∧ milesTo ms ms.length = true := by simp [milesB]
def takOk (n : Int) (l : List Bk) (ms : List Int) (a b : Int) : Bool := validB n l && milesB n ms && fareB a && fareB b
def takV (n : Int) (l : List Bk) (ms : List Int) (a b : Int) : Int := if takOk n l ms a b then legTo l ms a b ms.length else -1
theorem takV_no {n : Int} {l : List Bk} {ms : List Int} {a b : Int} (h : takOk n l ms a b = false) : takV n l ms a b = -1 := by simp [takV, h]
theorem takV_yes {n : Int} {l : List Bk} {ms : List Int} {a b : Int} (h : takOk n l ms a b = true) : takV n l ms a b = legTo l ms a b ms.length := by simp [takV, h]
theorem takOk_iff {n : Int} {l : List Bk} {ms : List Int} {a b : Int} : takOk n l ms a b = true ↔ validB n l = true ∧ milesB n ms = true ∧ fareB a = true ∧ fareB b = true := by simp [takOk, and_assoc]

theorem mul_bd {x y X Y : Int} (h0 : 0 ≤ x) (h1 : x ≤ X) (g0 : 0 ≤ y) (g1 : y ≤ Y) : 0 ≤ x * y ∧ x * y ≤ X * Y :=
  ⟨Int.mul_nonneg h0 g0, Int.mul_le_mul h1 g1 g0 (by omega)⟩
theorem legMiles_bd (r : Bk) {ms : List Int} : ∀ {g : Nat}, milesTo ms g = true → 0 ≤ legMiles r ms g ∧ legMiles r ms g ≤ 99 * g
  | 0, _ => by simp [legMiles]
  | g + 1, h => by
    rw [milesTo_succ, Bool.and_eq_true] at h
    have ih := legMiles_bd r (ms := ms) h.1
    have h2 := h.2
    simp only [Bool.and_eq_true, decide_eq_true_eq] at h2
    rw [legMiles]
    split <;> omega
theorem legTo_bd {l : List Bk} (hl : l.length ≤ 16) {ms : List Int} {a b : Int} (ha : 0 ≤ a ∧ a ≤ 100) (hb : 0 ≤ b ∧ b ≤ 100) : ∀ {g : Nat}, milesTo ms g = true → 0 ≤ legTo l ms a b g ∧ legTo l ms a b g ≤ 316800 * g
  | 0, _ => by simp [legTo]
  | g + 1, h => by
    rw [milesTo_succ, Bool.and_eq_true] at h
    have ih := legTo_bd hl (ms := ms) ha hb h.1
    have h2 := h.2
    simp only [Bool.and_eq_true, decide_eq_true_eq] at h2
    have t1 := takenB_le l (g : Int) true
    have t2 := takenB_le l (g : Int) false
    have b1 := mul_bd ha.1 ha.2 (show (0 : Int) ≤ (takenB l (g : Int) true : Int) by omega) (show (takenB l (g : Int) true : Int) ≤ 16 by omega)
    have b2 := mul_bd hb.1 hb.2 (show (0 : Int) ≤ (takenB l (g : Int) false : Int) by omega) (show (takenB l (g : Int) false : Int) ≤ 16 by omega)
    have b3 := mul_bd (show (0 : Int) ≤ ms.getD g 0 by omega) h2.2 (show 0 ≤ a * (takenB l (g : Int) true : Int) + b * (takenB l (g : Int) false : Int) by omega) (show a * (takenB l (g : Int) true : Int) + b * (takenB l (g : Int) false : Int) ≤ 3200 by omega)
    rw [legTo]
    omega
theorem bookTo_bd {l : List Bk} {ms : List Int} {a b : Int} {n : Nat} (hn : n ≤ 7) (hm : milesTo ms n = true) (ha : 0 ≤ a ∧ a ≤ 100) (hb : 0 ≤ b ∧ b ≤ 100) : ∀ j : Nat, 0 ≤ bookTo l ms a b n j ∧ bookTo l ms a b n j ≤ 69300 * j
  | 0 => by simp [bookTo]
  | j + 1 => by
    have ih := bookTo_bd (l := l) hn hm ha hb j
    have h1 := legMiles_bd (l.getD j bk0) hm
    have hf : 0 ≤ fareK (l.getD j bk0).m a b ∧ fareK (l.getD j bk0).m a b ≤ 100 := by cases (l.getD j bk0).m; exact hb; exact ha
    have b1 := mul_bd h1.1 (show legMiles (l.getD j bk0) ms n ≤ 693 by omega) hf.1 hf.2
    rw [bookTo]
    omega

end Go.Proofs.Ytlkhgnglblgldaa
