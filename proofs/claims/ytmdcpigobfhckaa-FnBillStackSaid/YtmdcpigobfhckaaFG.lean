/- Pure facts on way-bills: pounds, turned and shorter lists; no program. -/
import Derived.Test.YtmdcpigobfhckaaFF
namespace Go.Proofs.Ytmdcpigobfhckaa

def poundTo (l : List Fr) : Nat → Int
  | 0 => 0
  | j + 1 => poundTo l j + (l.getD j fr0).m * ((l.getD j fr0).b - (l.getD j fr0).a)
def poundF (l : List Fr) : Int := poundTo l l.length
def legsTo9 (l : List Fr) (j : Nat) : Nat → Int
  | 0 => 0
  | g + 1 => legsTo9 l j g + load9 l g j
def oneTo (r : Fr) : Nat → Int
  | 0 => 0
  | g + 1 => oneTo r g + onF g r
theorem oneTo_eq {r : Fr} (ha : 0 ≤ r.a) (hab : r.a < r.b) : ∀ (g : Nat), oneTo r g = r.m * (if (g : Int) ≤ r.a then 0 else if (g : Int) ≤ r.b then g - r.a else r.b - r.a)
  | 0 => by simp [oneTo, ha]
  | g + 1 => by
    simp only [oneTo]
    rw [oneTo_eq ha hab g]
    unfold onF
    by_cases h1 : (g : Int) < r.a
    · rw [if_pos (by omega), if_neg (by omega), if_pos (by omega)]; simp
    · by_cases h2 : (g : Int) < r.b
      · rw [if_pos (show r.a ≤ (g : Int) ∧ (g : Int) < r.b by omega)]
        by_cases h3 : (g : Int) = r.a
        · rw [if_pos (by omega), if_neg (by omega), if_pos (by omega), show ((g + 1 : Nat) : Int) - r.a = 1 by omega]; simp
        · rw [if_neg (by omega), if_pos (by omega), if_neg (by omega), if_pos (by omega), show ((g + 1 : Nat) : Int) - r.a = (g - r.a) + 1 by omega, Int.mul_add, Int.mul_one]
      · rw [if_neg (show ¬ (r.a ≤ (g : Int) ∧ (g : Int) < r.b) by omega)]
        by_cases h3 : (g : Int) = r.b
        · rw [if_neg (by omega), if_pos (by omega), if_neg (by omega), if_neg (by omega), h3]; simp
        · rw [if_neg (by omega), if_neg (by omega), if_neg (by omega), if_neg (by omega)]; simp
theorem oneTo_all {n : Int} {r : Fr} (h : okF n r = true) : oneTo r n.toNat = r.m * (r.b - r.a) := by
  obtain ⟨⟨h1, h2, h3⟩, _⟩ := okF_iff.1 h
  rw [oneTo_eq h1 h2, if_neg (by omega)]
  by_cases e : ((n.toNat : Nat) : Int) ≤ r.b
  · rw [if_pos e, show ((n.toNat : Nat) : Int) = r.b by omega]
  · rw [if_neg e]
theorem legsTo_add (l : List Fr) (j : Nat) : ∀ (g : Nat), legsTo9 l (j + 1) g = legsTo9 l j g + oneTo (l.getD j fr0) g
  | 0 => by simp [legsTo9, oneTo]
  | g + 1 => by simp only [legsTo9, oneTo, load9]; rw [legsTo_add l j g]; omega
theorem legsTo_none (l : List Fr) : ∀ (g : Nat), legsTo9 l 0 g = 0
  | 0 => rfl
  | g + 1 => by simp only [legsTo9, load9]; rw [legsTo_none l g]; rfl
theorem pound_legs {n : Int} {l : List Fr} : ∀ {j : Nat}, okFs n l j = true → legsTo9 l j n.toNat = poundTo l j
  | 0, _ => legsTo_none l _
  | j + 1, h => by
    simp only [okFs, Bool.and_eq_true] at h
    rw [legsTo_add, pound_legs h.1, oneTo_all h.2]; rfl
theorem pound_eq {n : Int} {l : List Fr} (h : okFs n l l.length = true) : legsTo9 l l.length n.toNat = poundF l := pound_legs h
theorem one_bd {n : Int} {r : Fr} (hn : n ≤ 7) (h : okF n r = true) : 0 ≤ r.m * (r.b - r.a) ∧ r.m * (r.b - r.a) ≤ 693 := by
  obtain ⟨⟨h1, h2, h3⟩, h4, h5⟩ := okF_iff.1 h
  have e : r.m * (r.b - r.a) ≤ 99 * 7 := Int.mul_le_mul h5 (by omega) (by omega) (by omega)
  exact ⟨Int.mul_nonneg (by omega) (by omega), by omega⟩
theorem pound_bd {n : Int} {l : List Fr} (hn : n ≤ 7) : ∀ {j : Nat}, okFs n l j = true → 0 ≤ poundTo l j ∧ poundTo l j ≤ 693 * j
  | 0, _ => by simp [poundTo]
  | j + 1, h => by
    simp only [okFs, Bool.and_eq_true] at h
    have h1 := pound_bd hn h.1
    have h2 := one_bd hn h.2
    simp only [poundTo]; omega
theorem legs_bd {n : Int} {l : List Fr} {j : Nat} (h : okFs n l j = true) : ∀ (g : Nat), 0 ≤ legsTo9 l j g ∧ legsTo9 l j g ≤ 99 * j * g
  | 0 => by simp [legsTo9]
  | g + 1 => by
    have h1 := legs_bd (n := n) h g
    have h2 := load9_nn (g := (g : Int)) h
    have e : 99 * (j : Int) * ((g + 1 : Nat) : Int) = 99 * (j : Int) * (g : Int) + 99 * (j : Int) := by rw [show ((g + 1 : Nat) : Int) = (g : Int) + 1 by omega, Int.mul_add, Int.mul_one]
    simp only [legsTo9]; omega

/-- A parcel of a coach back. -/
def trn1 (n : Int) (r : Fr) : Fr := ⟨n - r.b, n - r.a, r.m⟩
def trnF (n : Int) (l : List Fr) : List Fr := l.map (trn1 n)
theorem trnF_len (n : Int) (l : List Fr) : (trnF n l).length = l.length := by simp [trnF]
theorem trnF_at {n : Int} {l : List Fr} {j : Nat} (h : j < l.length) : (trnF n l).getD j fr0 = trn1 n (l.getD j fr0) := by simp [trnF, List.getD, h]
theorem trnF_snoc {n : Int} {l : List Fr} {j : Nat} (h : j < l.length) : (trnF n l).take (j + 1) = (trnF n l).take j ++ [trn1 n (l.getD j fr0)] := by
  rw [List.take_succ_eq_append_getElem (by simpa [trnF] using h)]
  simp [trnF, List.getD, h]

end Go.Proofs.Ytmdcpigobfhckaa
