/- What the functions of chapter 4 give, in words; no program. -/
import Derived.Test.YtlkhgnglblgldaaEP
namespace Go.Proofs.Ytlkhgnglblgldaa

/-- How many are taken on the first j legs. -/
def takUp (l : List Bk) (k : Bool) (j : Nat) : List Int := (List.range j).map fun g => ((takenB l (g : Nat) k : Nat) : Int)
theorem takUp_len (l : List Bk) (k : Bool) (j : Nat) : (takUp l k j).length = j := by simp [takUp]
theorem takUp_succ (l : List Bk) (k : Bool) (j : Nat) : takUp l k (j + 1) = takUp l k j ++ [((takenB l (j : Nat) k : Nat) : Int)] := by simp [takUp, List.range_succ]
theorem takUp_at (l : List Bk) (k : Bool) {j g : Nat} (h : g < j) : (takUp l k j).getD g 0 = ((takenB l (g : Nat) k : Nat) : Int) := by simp [takUp, List.getD, h]
def takX (n : Int) (l : List Bk) (k : Bool) : List Int := if validB n l then takUp l k n.toNat else []
theorem takX_no {n : Int} {l : List Bk} {k : Bool} (h : validB n l = false) : takX n l k = [] := by simp [takX, h]
theorem takX_yes {n : Int} {l : List Bk} {k : Bool} (h : validB n l = true) : takX n l k = takUp l k n.toNat := by simp [takX, h]

def rideUp (l : List Bk) (j : Nat) : List Int := (List.range j).map fun g => ((takenB l (g : Nat) true + takenB l (g : Nat) false : Nat) : Int)
theorem rideUp_len (l : List Bk) (j : Nat) : (rideUp l j).length = j := by simp [rideUp]
theorem rideUp_succ (l : List Bk) (j : Nat) : rideUp l (j + 1) = rideUp l j ++ [((takenB l (j : Nat) true + takenB l (j : Nat) false : Nat) : Int)] := by simp [rideUp, List.range_succ]
theorem rideUp_at (l : List Bk) {j g : Nat} (h : g < j) : (rideUp l j).getD g 0 = ((takenB l (g : Nat) true + takenB l (g : Nat) false : Nat) : Int) := by simp [rideUp, List.getD, h]
def rideX (n : Int) (l : List Bk) : List Int := if validB n l then rideUp l n.toNat else []
theorem rideX_no {n : Int} {l : List Bk} (h : validB n l = false) : rideX n l = [] := by simp [rideX, h]
theorem rideX_yes {n : Int} {l : List Bk} (h : validB n l = true) : rideX n l = rideUp l n.toNat := by simp [rideX, h]

def fullB (l : List Bk) (g : Nat) : Bool := decide (takenB l g true = 4) && decide (takenB l g false = 6)
def fullUp (l : List Bk) (j : Nat) : List Int := ((List.range j).filter (fullB l)).map fun (g : Nat) => (g : Int)
theorem fullUp_succ (l : List Bk) (j : Nat) : fullUp l (j + 1) = fullUp l j ++ if fullB l j then [(j : Int)] else [] := by
  simp only [fullUp, List.range_succ, List.filter_append, List.map_append]
  congr 1
  cases h : fullB l j <;> simp [h]
theorem fullUp_len (l : List Bk) (j : Nat) : (fullUp l j).length ≤ j := by
  have := List.length_filter_le (fullB l) (List.range j)
  simp [fullUp] at *; omega
def fullX (n : Int) (l : List Bk) : List Int := if validB n l then fullUp l n.toNat else []
theorem fullX_no {n : Int} {l : List Bk} (h : validB n l = false) : fullX n l = [] := by simp [fullX, h]
theorem fullX_yes {n : Int} {l : List Bk} (h : validB n l = true) : fullX n l = fullUp l n.toNat := by simp [fullX, h]

/-- The least number of free seats on j legs from a on. -/
def freeUp (l : List Bk) (k : Bool) (a : Nat) : Nat → Int
  | 0 => (seatsB k : Nat)
  | j + 1 => min (freeUp l k a j) ((seatsB k : Nat) - (takenB l ((a + j : Nat) : Int) k : Nat))
def freeV (n : Int) (l : List Bk) (a b : Int) (k : Bool) : Int := if validB n l = true ∧ fitsB n ⟨a, b, k⟩ = true then freeUp l k a.toNat (b - a).toNat else -1
theorem freeV_no {n : Int} {l : List Bk} {a b : Int} {k : Bool} (h : validB n l = false) : freeV n l a b k = -1 := by simp [freeV, h]
theorem freeV_nofit {n : Int} {l : List Bk} {a b : Int} {k : Bool} (h : fitsB n ⟨a, b, k⟩ = false) : freeV n l a b k = -1 := by simp [freeV, h]
theorem freeV_yes {n : Int} {l : List Bk} {a b : Int} {k : Bool} (h : validB n l = true) (h' : fitsB n ⟨a, b, k⟩ = true) : freeV n l a b k = freeUp l k a.toNat (b - a).toNat := by simp [freeV, h, h']
theorem seatsB_le (k : Bool) : seatsB k ≤ 6 := by cases k <;> decide
theorem freeUp_bd {n : Int} {l : List Bk} (hv : validB n l = true) (k : Bool) (a : Nat) : ∀ j, (a + j : Nat) ≤ n.toNat → 0 ≤ freeUp l k a j ∧ freeUp l k a j ≤ 6
  | 0, _ => by have := seatsB_le k; show 0 ≤ ((seatsB k : Nat) : Int) ∧ _ ≤ _; simp only [freeUp]; omega
  | j + 1, h => by
    have ih := freeUp_bd hv k a j (by omega)
    have hl := (validB_iff.1 hv).2.2.2 (a + j) (by omega)
    simp only [legOK, Bool.and_eq_true, decide_eq_true_eq] at hl
    have h6 := seatsB_le k
    have hk : takenB l ((a + j : Nat) : Int) k ≤ seatsB k := by cases k; exact hl.2; exact hl.1
    simp only [freeUp]
    omega

def seatX (n : Int) (l : List Bk) : List Int := if validB n l then (match planB l with | some (_, q) => q | none => []) else []
theorem seatX_no {n : Int} {l : List Bk} (h : validB n l = false) : seatX n l = [] := by simp [seatX, h]
theorem seatX_yes {n : Int} {l : List Bk} {p : Pl} {q : List Int} (h : validB n l = true) (hp : planB l = some (p, q)) : seatX n l = q := by simp [seatX, h, hp]

theorem validB_n {n : Int} {l : List Bk} (h : validB n l = true) : n.toNat ≤ 7 := by have := (validB_iff.1 h).1; omega
theorem takX_short (n : Int) (l : List Bk) (k : Bool) : (takX n l k).length ≤ 1048576 := by
  unfold takX; split
  · rename_i h; have := validB_n h; rw [takUp_len]; omega
  · simp
theorem rideX_short (n : Int) (l : List Bk) : (rideX n l).length ≤ 1048576 := by
  unfold rideX; split
  · rename_i h; have := validB_n h; rw [rideUp_len]; omega
  · simp
theorem fullX_short (n : Int) (l : List Bk) : (fullX n l).length ≤ 1048576 := by
  unfold fullX; split
  · rename_i h; have := validB_n h; have := fullUp_len l n.toNat; omega
  · simp
theorem seatX_short (n : Int) (l : List Bk) : (seatX n l).length ≤ 1048576 := by
  unfold seatX; split
  · rename_i h
    have hv := validB_iff.1 h
    cases hp : planB l with
    | none => simp
    | some pq =>
      have := (planAt_inv (fun i hi => fit7_of hv.1.2 (hv.2.2.1 i hi)) (Nat.le_refl _) (p := pq.1) (q := pq.2) (by rw [planAt_end]; exact hp)).len
      show pq.2.length ≤ _
      rw [this]; omega
  · simp

end Go.Proofs.Ytlkhgnglblgldaa
