/- The shortest net: which roads are taken, one after the other, in the order of their miles; no program. -/
import Derived.Test.YtlkhgnglblgldaaNO
import Derived.Test.YtlkhgnglblgldaaAF
import Derived.Test.YtlkhgnglblgldaaRF
import Derived.Test.YtlkhgnglblgldaaWG
namespace Go.Proofs.Ytlkhgnglblgldaa
open Go.RowKit

/-- The roads of the indexes. -/
def pickR (l : List Rd) (S : List Nat) : List Rd := S.map fun i => l.getD i rd0
noncomputable def stepK (n : Int) (l : List Rd) (S : List Nat) (i : Nat) : List Nat := if reachB n (edge (pickR l S)) (l.getD i rd0).a (l.getD i rd0).b = true then S else S ++ [i]
/-- Those taken, of the roads in an order. -/
noncomputable def netTo (n : Int) (l : List Rd) (o : List Nat) : List Nat := o.foldl (stepK n l) []
theorem netTo_snoc (n : Int) (l : List Rd) (o : List Nat) (i : Nat) : netTo n l (o ++ [i]) = stepK n l (netTo n l o) i := by
  simp [netTo, List.foldl_append]
theorem stepK_yes {n : Int} {l : List Rd} {S : List Nat} {i : Nat} (h : reachB n (edge (pickR l S)) (l.getD i rd0).a (l.getD i rd0).b = true) : stepK n l S i = S := if_pos h
theorem stepK_no {n : Int} {l : List Rd} {S : List Nat} {i : Nat} (h : reachB n (edge (pickR l S)) (l.getD i rd0).a (l.getD i rd0).b = false) : stepK n l S i = S ++ [i] := if_neg (by rw [h]; simp)
theorem fold_sub (n : Int) (l : List Rd) : ∀ (o S : List Nat), ∃ o', o'.Sublist o ∧ o.foldl (stepK n l) S = S ++ o'
  | [], S => ⟨[], List.Sublist.slnil, by simp⟩
  | i :: o, S => by
    show ∃ o', o'.Sublist (i :: o) ∧ o.foldl (stepK n l) (stepK n l S i) = S ++ o'
    by_cases h : reachB n (edge (pickR l S)) (l.getD i rd0).a (l.getD i rd0).b = true
    · rw [stepK_yes h]
      obtain ⟨o', h1, h2⟩ := fold_sub n l o S
      exact ⟨o', h1.cons _, h2⟩
    · rw [stepK_no (by simpa using h)]
      obtain ⟨o', h1, h2⟩ := fold_sub n l o (S ++ [i])
      exact ⟨i :: o', h1.cons_cons _, by rw [h2]; simp⟩
theorem netTo_sub (n : Int) (l : List Rd) (o : List Nat) : (netTo n l o).Sublist o := by
  obtain ⟨o', h1, h2⟩ := fold_sub n l o []
  unfold netTo; rw [h2, List.nil_append]; exact h1

theorem pickR_snoc (l : List Rd) (S : List Nat) (i : Nat) : pickR l (S ++ [i]) = pickR l S ++ [l.getD i rd0] := by simp [pickR]
theorem pickR_len (l : List Rd) (S : List Nat) : (pickR l S).length = S.length := by simp [pickR]
theorem same_comm (r s : Rd) : same r s = same s r := by
  unfold same; congr 1 <;> (rw [decide_eq_decide]; exact eq_comm)
theorem pickR_valid {n : Int} {l : List Rd} (hz : validR n l = true) {S : List Nat} (hS : S.Nodup) (hlt : ∀ i, i ∈ S → i < l.length) (hl : S.length ≤ l.length) : validR n (pickR l S) = true := by
  simp only [validR, Bool.and_eq_true, decide_eq_true_eq] at hz ⊢
  obtain ⟨⟨⟨h1, h2⟩, h3⟩, h4⟩ := hz
  refine ⟨⟨⟨h1, h2⟩, by rw [pickR_len]; omega⟩, ?_⟩
  obtain ⟨hf, hp⟩ := (okTo_iff n l).1 h4
  rw [okTo_iff]
  have hg : ∀ i (hi : i < l.length), l.getD i rd0 = l[i] := fun i hi => by simp [List.getD, hi]
  refine ⟨fun r hr => ?_, ?_⟩
  · obtain ⟨i, hi, rfl⟩ := List.mem_map.1 hr
    rw [hg i (hlt i hi)]
    exact hf _ (List.getElem_mem _)
  · unfold pickR
    rw [List.pairwise_map]
    rw [List.pairwise_iff_getElem] at hp
    refine List.Pairwise.imp_of_mem (R := fun i j => i ≠ j) ?_ hS
    intro i j hi hj hij
    have hi' := hlt i hi; have hj' := hlt j hj
    rw [hg i hi', hg j hj']
    rcases Nat.lt_or_gt_of_ne hij with h | h
    · exact hp i j hi' hj' h
    · rw [same_comm]; exact hp j i hj' hi' h
/-- One more road taken: its edge is joined. -/
theorem join_pick {n : Int} {l : List Rd} (hz : validR n l = true) {S : List Nat} {i : Nat} (hS : (S ++ [i]).Nodup) (hlt : ∀ j, j ∈ S ++ [i] → j < l.length) (hl : (S ++ [i]).length ≤ l.length) :
    joinE (edge (pickR l S)) (l.getD i rd0).a (l.getD i rd0).b (l.getD i rd0).m = edge (pickR l (S ++ [i])) := by
  have hv := pickR_valid hz hS hlt hl
  simp only [validR, Bool.and_eq_true] at hv
  have hk : S.length < (pickR l (S ++ [i])).length := by rw [pickR_len]; simp
  have hok := okTo_at n _ hv.2 hk
  have h := joinE_eq n (pickR l (S ++ [i])) S.length hk hok
  have e1 : (pickR l (S ++ [i])).take S.length = pickR l S := by rw [pickR_snoc, ← pickR_len l S, List.take_left]
  have e2 : (pickR l (S ++ [i])).getD S.length rd0 = l.getD i rd0 := by
    rw [pickR_snoc, ← pickR_len l S]; simp [List.getD]
  have e3 : (pickR l (S ++ [i])).take (S.length + 1) = pickR l (S ++ [i]) := List.take_of_length_le (by rw [pickR_len]; simp)
  rw [e1, e2, e3] at h
  exact h

theorem nodup_len : ∀ {a b : List Nat}, a.Nodup → (∀ i, i ∈ a → i ∈ b) → a.length ≤ b.length
  | [], _, _, _ => Nat.zero_le _
  | x :: a, b, hn, h => by
    obtain ⟨h1, h2⟩ := List.nodup_cons.1 hn
    have hx := h x (List.mem_cons_self ..)
    have := nodup_len (b := b.erase x) h2 (fun i hi => by
      rw [List.mem_erase_of_ne (fun e => h1 (by rw [← e]; exact hi))]
      exact h i (List.mem_cons_of_mem _ hi))
    have h3 := List.length_erase_of_mem hx
    have h4 := List.length_pos_of_mem hx
    simp only [List.length_cons]; omega
/-- What holds of those taken so far of an order that is one of some indexes, none twice. -/
theorem net_inv {n : Int} {l : List Rd} {o : List Nat} (ho : o.Nodup) (hlt : ∀ i, i ∈ o → i < l.length) : (netTo n l o).Nodup ∧ (∀ i, i ∈ netTo n l o → i < l.length) ∧ (netTo n l o).length ≤ l.length := by
  have hs := netTo_sub n l o
  refine ⟨ho.sublist hs, fun i hi => hlt i (hs.subset hi), ?_⟩
  have h1 := hs.length_le
  have h2 := nodup_len ho (b := List.range l.length) fun i hi => List.mem_range.2 (hlt i hi)
  rw [List.length_range] at h2; omega

/-- Those taken at last, ascending. -/
noncomputable def netS (n : Int) (l : List Rd) : List Nat := netTo n l (orderM l)
noncomputable def netUp (n : Int) (l : List Rd) (k : Nat) : List Int := ((List.range k).filter fun i => (netS n l).contains i).map fun (i : Nat) => (i : Int)
noncomputable def netL (n : Int) (l : List Rd) : List Int := if wholeOf n l = true then netUp n l l.length else []
theorem netL_yes {n : Int} {l : List Rd} (h : wholeOf n l = true) : netL n l = netUp n l l.length := if_pos h
theorem netL_no {n : Int} {l : List Rd} (h : wholeOf n l = false) : netL n l = [] := if_neg (by rw [h]; simp)
theorem netL_short {n : Int} {l : List Rd} (hl : l.length ≤ 1048576) : (netL n l).length ≤ 1048576 := by
  unfold netL; split
  · have h := List.length_filter_le (fun i => (netS n l).contains i) (List.range l.length)
    simp [netUp] at *; omega
  · simp
theorem netUp_succ (n : Int) (l : List Rd) (k : Nat) : netUp n l (k + 1) = netUp n l k ++ if (netS n l).contains k then [(k : Int)] else [] := by
  simp only [netUp, List.range_succ, List.filter_append, List.map_append]
  congr 1
  cases h : (netS n l).contains k
  · rw [List.filter_cons, h]; rfl
  · rw [List.filter_cons, h]; rfl
theorem netUp_len (n : Int) (l : List Rd) (k : Nat) : (netUp n l k).length ≤ k := by
  have := List.length_filter_le (fun i => (netS n l).contains i) (List.range k)
  simp [netUp] at *; omega
theorem netS_inv (n : Int) (l : List Rd) : (netS n l).Nodup ∧ (∀ i, i ∈ netS n l → i < l.length) ∧ (netS n l).length ≤ l.length :=
  net_inv (orderM_nodup l) fun i hi => orderM_mem.1 hi
/-- Sorted, those taken are the indexes ascending. -/
theorem netUp_sort (n : Int) (l : List Rd) : ((netS n l).map fun (i : Nat) => (i : Int)).mergeSort (fun x y => decide (x ≤ y)) = netUp n l l.length := by
  obtain ⟨hnd, hm, _⟩ := netS_inv n l
  have hp : (netS n l).Perm ((List.range l.length).filter fun i => (netS n l).contains i) := by
    refine (List.perm_ext_iff_of_nodup hnd (List.nodup_range.sublist (List.filter_sublist))).2 fun i => ?_
    rw [List.mem_filter, List.mem_range]
    constructor
    · intro h; exact ⟨hm i h, by simpa using h⟩
    · rintro ⟨_, h⟩; simpa using h
  have hs : (netUp n l l.length).Pairwise fun x y => decide (x ≤ y) = true := by
    unfold netUp
    rw [List.pairwise_map]
    have h1 : (List.range l.length).Pairwise fun x y => x < y := List.pairwise_lt_range
    exact (h1.sublist List.filter_sublist).imp fun h => by simp; omega
  have hp2 : (((netS n l).map fun (i : Nat) => (i : Int)).mergeSort (fun x y => decide (x ≤ y))).Perm (netUp n l l.length) := (List.mergeSort_perm _ _).trans (hp.map _)
  refine List.Perm.eq_of_pairwise (le := fun x y => decide (x ≤ y) = true) (fun a b _ _ h1 h2 => by simp at h1 h2; omega) ?_ hs hp2
  exact List.pairwise_mergeSort (fun a b c h1 h2 => by simp at *; omega) (fun a b => by simp; omega) _

/-! ### The model's order -/
def atM (l : List Rd) (t : Nat) (i : Nat) : Bool := decide ((l.getD i rd0).m = ((t + 1 : Nat) : Int))
def ordT (l : List Rd) (t i : Nat) : List Nat := ((List.range t).flatMap fun u => (List.range l.length).filter (atM l u)) ++ (List.range i).filter (atM l t)
theorem ordT_hit {l : List Rd} {t i : Nat} (h : (l.getD i rd0).m = ((t + 1 : Nat) : Int)) : ordT l t (i + 1) = ordT l t i ++ [i] := by
  have ha : atM l t i = true := by unfold atM; rw [decide_eq_true_eq]; exact h
  simp [ordT, List.range_succ, List.filter_append, ha]
theorem ordT_miss {l : List Rd} {t i : Nat} (h : ¬ (l.getD i rd0).m = ((t + 1 : Nat) : Int)) : ordT l t (i + 1) = ordT l t i := by
  have ha : atM l t i = false := by unfold atM; rw [decide_eq_false_iff_not]; exact h
  simp [ordT, List.range_succ, List.filter_append, ha]
theorem ordT_next (l : List Rd) (t : Nat) : ordT l t l.length = ordT l (t + 1) 0 := by
  simp [ordT, List.range_succ, List.flatMap_append]
theorem ordT_start (l : List Rd) : ordT l 0 0 = [] := by simp [ordT]
theorem ordT_mem {l : List Rd} {t k i : Nat} (hk : k ≤ l.length) : i ∈ ordT l t k → i < l.length := by
  intro h
  simp only [ordT, List.mem_append, List.mem_flatMap, List.mem_filter, List.mem_range] at h
  rcases h with ⟨_, _, h, _⟩ | ⟨h, _⟩ <;> omega
theorem ordT_sorted (l : List Rd) (t k : Nat) : (ordT l t k).Pairwise fun i j => leM l i j = true ∧ i ≠ j := by
  have h1 : ∀ u m, ((List.range m).filter (atM l u)).Pairwise fun i j => leM l i j = true ∧ i ≠ j := by
    intro u m
    have h2 : (List.range m).Pairwise fun x y => x < y := List.pairwise_lt_range
    refine List.Pairwise.imp_of_mem ?_ (h2.sublist List.filter_sublist)
    intro a b ha hb hab
    have ha' := (List.mem_filter.1 ha).2
    have hb' := (List.mem_filter.1 hb).2
    unfold atM at ha' hb'
    rw [decide_eq_true_eq] at ha' hb'
    exact ⟨leM_iff.2 (.inr ⟨by omega, by omega⟩), by omega⟩
  have h3 : ∀ a b (u v : Nat), u < v → atM l u a = true → atM l v b = true → leM l a b = true ∧ a ≠ b := by
    intro a b u v huv ha hb
    unfold atM at ha hb
    rw [decide_eq_true_eq] at ha hb
    exact ⟨leM_iff.2 (.inl (by omega)), by rintro rfl; omega⟩
  unfold ordT
  rw [List.pairwise_append]
  refine ⟨?_, h1 t k, fun a ha b hb => ?_⟩
  · rw [List.pairwise_flatMap]
    refine ⟨fun u _ => h1 u _, ?_⟩
    have h2 : (List.range t).Pairwise fun x y => x < y := List.pairwise_lt_range
    exact h2.imp fun {u v} huv a ha b hb => h3 a b u v huv (List.mem_filter.1 ha).2 (List.mem_filter.1 hb).2
  · obtain ⟨u, hu, ha⟩ := List.mem_flatMap.1 ha
    exact h3 a b u t (List.mem_range.1 hu) (List.mem_filter.1 ha).2 (List.mem_filter.1 hb).2
theorem ordT_nodup (l : List Rd) (t k : Nat) : (ordT l t k).Nodup := (ordT_sorted l t k).imp fun h => h.2
theorem ordT_end {l : List Rd} (hm : ∀ i, i < l.length → 1 ≤ (l.getD i rd0).m ∧ (l.getD i rd0).m ≤ 99) : ordT l 99 0 = orderM l := by
  refine orderM_only ?_ ((ordT_sorted l 99 0).imp fun h => h.1)
  refine (List.perm_ext_iff_of_nodup (ordT_nodup l 99 0) List.nodup_range).2 fun i => ?_
  rw [List.mem_range]
  constructor
  · exact ordT_mem (Nat.zero_le _)
  · intro hi
    have h1 := hm i hi
    refine List.mem_append.2 (.inl (List.mem_flatMap.2 ⟨(l.getD i rd0).m.toNat - 1, List.mem_range.2 (by omega), List.mem_filter.2 ⟨List.mem_range.2 hi, ?_⟩⟩))
    unfold atM; rw [decide_eq_true_eq]; omega
theorem far_reach {n : Int} {l : List Rd} (hz : validR n l = true) (a b : Int) : farOf n l a b < 0 ↔ reachB n (edge l) a b = false := by
  cases h : reachB n (edge l) a b with
  | false => rw [far_neg (.inr h)]; simp
  | true => have := far_pos hz h; simp; omega

end Go.Proofs.Ytlkhgnglblgldaa
