/- The towns next to a town on shortest ways, as lists; the numbers of shortest ways. No program. -/
import Derived.Test.YtfdaaeapfeajjaaJ
import Derived.RowKit
namespace Go.Proofs.Ytfdaaeapfeajjaa
open Go.RowKit

/-- x is next to t on a shortest way to the place from which f counts. -/
def nearP (g : Int → Int → Option Int) (f : Int → Option Int) (t x : Int) : Bool :=
  match g t x with
  | some m => decide ((f x).getD 0 + m = (f t).getD 0)
  | none => false

theorem nearP_some {g : Int → Int → Option Int} {f : Int → Option Int} {t x m : Int} (h : g t x = some m) : nearP g f t x = decide ((f x).getD 0 + m = (f t).getD 0) := by
  unfold nearP; rw [h]

theorem nearP_iff {g : Int → Int → Option Int} {f : Int → Option Int} {t x : Int} : nearP g f t x = true ↔ ∃ m, g t x = some m ∧ (f x).getD 0 + m = (f t).getD 0 := by
  unfold nearP
  cases h : g t x with
  | none => simp
  | some m => simp

def towns (n : Int) : List Int := (List.range n.toNat).map Int.ofNat

theorem mem_towns {n x : Int} : x ∈ towns n ↔ 0 ≤ x ∧ x < n := by
  unfold towns
  rw [List.mem_map]
  constructor
  · rintro ⟨k, hk, rfl⟩
    rw [List.mem_range] at hk
    exact ⟨Int.natCast_nonneg k, by have : (Int.ofNat k) = (k : Int) := rfl; omega⟩
  · rintro ⟨h0, h1⟩
    exact ⟨x.toNat, List.mem_range.2 (by omega), by have : (Int.ofNat x.toNat) = (x.toNat : Int) := rfl; omega⟩

theorem towns_sorted (n : Int) : (towns n).Pairwise (fun a b => a < b) := by
  unfold towns
  rw [List.pairwise_map]
  exact List.pairwise_lt_range.imp fun h => by simpa using h

def nearL (n : Int) (g : Int → Int → Option Int) (f : Int → Option Int) (t : Int) : List Int := (towns n).filter (nearP g f t)

theorem mem_nearL {n : Int} {g : Int → Int → Option Int} {f : Int → Option Int} {t x : Int} : x ∈ nearL n g f t ↔ (0 ≤ x ∧ x < n) ∧ nearP g f t x = true := by
  unfold nearL; rw [List.mem_filter, mem_towns]

theorem towns_len (n : Int) : (towns n).length = n.toNat := by simp [towns]

theorem nearL_len (n : Int) (g : Int → Int → Option Int) (f : Int → Option Int) (t : Int) : (nearL n g f t).length ≤ n.toNat := by
  have := List.length_filter_le (nearP g f t) (towns n)
  rw [towns_len] at this; exact this

theorem sort_near {n : Int} {g : Int → Int → Option Int} {f : Int → Option Int} {t : Int} {xs : List Int} (hd : xs.Nodup) (hm : ∀ x, x ∈ xs ↔ (0 ≤ x ∧ x < n) ∧ nearP g f t x = true) :
    xs.mergeSort (fun x y => decide (x ≤ y)) = nearL n g f t := by
  have hs : (nearL n g f t).Pairwise (fun a b => a < b) := (towns_sorted n).filter _
  have hnd : (nearL n g f t).Nodup := hs.imp fun h e => by omega
  have h1 := List.pairwise_mergeSort (le := fun x y : Int => decide (x ≤ y)) (fun a b c h h' => by simp only [decide_eq_true_eq] at *; omega) (fun a b => by simp only [Bool.or_eq_true, decide_eq_true_eq]; omega) xs
  have hp : (xs.mergeSort (fun x y => decide (x ≤ y))).Perm (nearL n g f t) :=
    (List.mergeSort_perm xs _).trans ((List.perm_ext_iff_of_nodup hd hnd).2 fun a => by rw [hm, mem_nearL])
  exact List.Perm.eq_of_pairwise (le := fun a b : Int => a ≤ b) (fun a b _ _ h h' => by omega) (h1.imp fun h => by simpa using h) (hs.imp fun h => by omega) hp

/-- The number of shortest ways, k rounds deep. -/
def manyN (n : Int) (g : Int → Int → Option Int) (f : Int → Option Int) : Nat → Int → Int
  | 0, _ => 1
  | k + 1, t => if (f t).getD 0 = 0 then 1 else (nearL n g f t).foldl (fun acc x => wrap64 (acc + manyN n g f k x)) 0

/-- The same, town for town. -/
def manyTo (n : Int) (g : Int → Int → Option Int) (f : Int → Option Int) (k : Nat) (t : Int) (j : Nat) : Int :=
  ((List.range j).map Int.ofNat).foldl (fun acc x => if nearP g f t x = true then wrap64 (acc + manyN n g f k x) else acc) 0

theorem manyTo_succ (n : Int) (g : Int → Int → Option Int) (f : Int → Option Int) (k : Nat) (t : Int) (j : Nat) :
    manyTo n g f k t (j + 1) = if nearP g f t j = true then wrap64 (manyTo n g f k t j + manyN n g f k j) else manyTo n g f k t j := by
  unfold manyTo
  rw [List.range_succ, List.map_append, List.foldl_append]; rfl

theorem manyN_to (n : Int) (g : Int → Int → Option Int) (f : Int → Option Int) (k : Nat) (t : Int) (h : (f t).getD 0 ≠ 0) : manyN n g f (k + 1) t = manyTo n g f k t n.toNat := by
  show (if (f t).getD 0 = 0 then 1 else (nearL n g f t).foldl (fun acc x => wrap64 (acc + manyN n g f k x)) 0) = _
  rw [if_neg h]
  unfold manyTo nearL towns
  rw [List.foldl_filter]

/-- Behind the first i towns. -/
def manyPre (n : Int) (g : Int → Int → Option Int) (f : Int → Option Int) (k : Nat) (t : Int) (i : Nat) : Int :=
  ((nearL n g f t).take i).foldl (fun acc x => wrap64 (acc + manyN n g f k x)) 0

theorem manyPre_succ (n : Int) (g : Int → Int → Option Int) (f : Int → Option Int) (k : Nat) (t : Int) (i : Nat) (h : i < (nearL n g f t).length) :
    manyPre n g f k t (i + 1) = wrap64 (manyPre n g f k t i + manyN n g f k ((nearL n g f t).getD i 0)) := by
  unfold manyPre
  have e : (nearL n g f t).take (i + 1) = (nearL n g f t).take i ++ [(nearL n g f t).getD i 0] := by
    rw [List.take_add_one, List.getD_eq_getElem?_getD, List.getElem?_eq_getElem h]; rfl
  rw [e, List.foldl_append]; rfl

theorem manyPre_all (n : Int) (g : Int → Int → Option Int) (f : Int → Option Int) (k : Nat) (t : Int) (h : (f t).getD 0 ≠ 0) : manyN n g f (k + 1) t = manyPre n g f k t (nearL n g f t).length := by
  show (if (f t).getD 0 = 0 then 1 else (nearL n g f t).foldl (fun acc x => wrap64 (acc + manyN n g f k x)) 0) = _
  rw [if_neg h]
  unfold manyPre
  rw [List.take_length]

end Go.Proofs.Ytfdaaeapfeajjaa
