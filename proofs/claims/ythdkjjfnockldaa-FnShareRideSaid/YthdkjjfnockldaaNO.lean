/- Roads by their miles, those of equal miles ascending; no program. -/
import Derived.Test.YthdkjjfnockldaaSOG
namespace Go.Proofs.Ythdkjjfnockldaa
open Go.Sort

def leM (l : List Rd) (i j : Nat) : Bool := decide ((l.getD i rd0).m < (l.getD j rd0).m) || (decide ((l.getD i rd0).m = (l.getD j rd0).m) && decide (i ≤ j))
theorem leM_iff {l : List Rd} {i j : Nat} : leM l i j = true ↔ (l.getD i rd0).m < (l.getD j rd0).m ∨ ((l.getD i rd0).m = (l.getD j rd0).m ∧ i ≤ j) := by simp [leM]
def orderM (l : List Rd) : List Nat := (List.range l.length).mergeSort (leM l)
theorem orderM_perm (l : List Rd) : (orderM l).Perm (List.range l.length) := List.mergeSort_perm _ _
theorem orderM_nodup (l : List Rd) : (orderM l).Nodup := (orderM_perm l).nodup_iff.2 List.nodup_range
theorem orderM_mem {l : List Rd} {i : Nat} : i ∈ orderM l ↔ i < l.length := by rw [(orderM_perm l).mem_iff, List.mem_range]
theorem leM_trans (l : List Rd) (i j k : Nat) (h1 : leM l i j = true) (h2 : leM l j k = true) : leM l i k = true := by
  rw [leM_iff] at *; omega
theorem leM_total (l : List Rd) (i j : Nat) : (leM l i j || leM l j i) = true := by
  rw [Bool.or_eq_true, leM_iff, leM_iff]; omega
theorem leM_antisymm {l : List Rd} {i j : Nat} (h1 : leM l i j = true) (h2 : leM l j i = true) : i = j := by
  rw [leM_iff] at *; omega
theorem orderM_sorted (l : List Rd) : (orderM l).Pairwise fun i j => leM l i j = true := List.pairwise_mergeSort (leM_trans l) (leM_total l) _
theorem orderM_only {l : List Rd} {o : List Nat} (hp : o.Perm (List.range l.length)) (hs : o.Pairwise fun i j => leM l i j = true) : o = orderM l :=
  List.Perm.eq_of_pairwise (fun _ _ _ _ h1 h2 => leM_antisymm h1 h2) hs (orderM_sorted l) (hp.trans (orderM_perm l).symm)
theorem orderM_length (l : List Rd) : (orderM l).length = l.length := by rw [(orderM_perm l).length_eq, List.length_range]

/-- The comparison of two indexes of roads. -/
def cfM (l : List Rd) (m : Nat) (x y : Fin (m + 1)) : Int := (l.getD x.val rd0).m - (l.getD y.val rd0).m
def ltM (l : List Rd) (m : Nat) (x y : Fin (m + 1)) : Bool := decide (cfM l m x y < 0)
theorem ltM_iff {l : List Rd} {m : Nat} {x y : Fin (m + 1)} : ltM l m x y = true ↔ (l.getD x.val rd0).m < (l.getD y.val rd0).m := by
  unfold ltM cfM; rw [decide_eq_true_eq]; omega
theorem ltM_swo (l : List Rd) (m : Nat) : SWO (ltM l m) where
  irrefl x := by rw [Bool.eq_false_iff]; intro h; have := ltM_iff.1 h; omega
  trans x y z h1 h2 := by rw [ltM_iff] at *; omega
  ntrans x y z h1 h2 := by rw [Bool.eq_false_iff] at *; intro h; exact h1 (ltM_iff.2 (by have := ltM_iff.1 h; have h3 : ¬ _ := fun q => h2 (ltM_iff.2 q); omega))
theorem sort_order {l : List Rd} {m : Nat} (hm : l.length = m + 1) (d : Array (Fin (m + 1))) (hd : d = insertionSort (ltM l m) (Array.ofFn (n := m + 1) id) 0 (m + 1)) :
    d.toList.map (fun x => x.val) = orderM l := by
  obtain ⟨_, h2, h3⟩ := sort_list (ltM_swo l m) d hd
  refine orderM_only (by rw [hm]; exact h2) ?_
  rw [List.pairwise_map]
  refine h3.imp fun {x y} h => ?_
  have h1 : ¬ ((l.getD y.val rd0).m < (l.getD x.val rd0).m) := fun q => by
    have := ltM_iff.2 q
    simp [lexF, this] at h
  rw [leM_iff]
  by_cases e : (l.getD x.val rd0).m < (l.getD y.val rd0).m
  · exact .inl e
  · refine .inr ⟨by omega, ?_⟩
    have h2 : ltM l m x y = false := by rw [Bool.eq_false_iff]; exact fun q => e (ltM_iff.1 q)
    simp only [lexF, h2, Bool.or_eq_false_iff, Bool.not_false, Bool.true_and, decide_eq_false_iff_not] at h
    omega

end Go.Proofs.Ythdkjjfnockldaa
