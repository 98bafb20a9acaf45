/- The best payments as the program lays them: trust by trust along the plans, then sorted. -/
import Derived.Test.YthhllpnbmelidaaG1
import Derived.Test.YthhllpnbmelidaaGH
namespace Go.Proofs.Ythhllpnbmelidaa
set_option linter.unusedVariables false
set_option linter.unusedSimpArgs false

/-- The plan with which the one at k goes on. -/
def nxI (l : List Gt) (free k : Int) (s : List Int) : List Int := (scanI l free ((gAt l k).a + free) s []).getD []
theorem ptrB_nx (blk : Int → Nat) (o : Option (List Int)) : ptrB blk o = ptrA blk (o.getD []) := by cases o <;> rfl
theorem chI_step {l : List Gt} {free k : Int} {s : List Int} (hp : Pas l (k :: s)) : chI l free (k :: s) = k :: chI l free (nxI l free k s) := by
  show k :: bI l free s _ = _
  obtain ⟨h1, h2⟩ := scan_first (free := free) (r := (gAt l k).a + free) hp.tail
  unfold nxI
  cases h : scanI l free ((gAt l k).a + free) s [] with
  | none => rw [(h2 h).2]; rfl
  | some q => rw [(h1 q h).2.2]; rfl
theorem scan_suf {l : List Gt} {free r : Int} : ∀ {s best q : List Int}, scanI l free r s best = some q → q = best ∨ ∃ pre, s = pre ++ q
  | [], best, q, h => by simp [scanI] at h
  | k :: s, best, q, h => by
    rw [scanI_cons] at h
    by_cases d : (gAt l k).a > r
    · rw [if_pos d] at h
      injection h with h
      by_cases c : best = [] ∨ vI l free (k :: s) < vI l free best
      · rw [if_pos c] at h; exact .inr ⟨[], h⟩
      · rw [if_neg c] at h; exact .inl h.symm
    · rw [if_neg d] at h
      rcases scan_suf h with e | ⟨pre, e⟩
      · by_cases c : best = [] ∨ vI l free (k :: s) < vI l free best
        · rw [if_pos c] at e; exact .inr ⟨[], e.symm⟩
        · rw [if_neg c] at e; exact .inl e
      · exact .inr ⟨k :: pre, by rw [e]; rfl⟩
theorem nx_suf (l : List Gt) (free k : Int) (s : List Int) : ∃ pre, s = pre ++ nxI l free k s := by
  unfold nxI
  cases h : scanI l free ((gAt l k).a + free) s [] with
  | none => exact ⟨s, by simp⟩
  | some q =>
    rcases scan_suf h with e | e
    · exact ⟨s, by rw [e]; simp⟩
    · exact e
theorem Pas.suf8 {l : List Gt} {pre s : List Int} (h : Pas l (pre ++ s)) : Pas l s :=
  ⟨h.v, fun x hx => h.i x (List.mem_append_right _ hx), List.Pairwise.sublist (List.sublist_append_right _ _) h.asc⟩
theorem Pas.nx {l : List Gt} {free k : Int} {s : List Int} (h : Pas l (k :: s)) : Pas l (nxI l free k s) := by
  obtain ⟨pre, e⟩ := nx_suf l free k s
  have h1 := h.tail
  rw [e] at h1
  exact h1.suf8
theorem PlansAt.nx {w : World} {blk : Int → Nat} {l : List Gt} {free k : Int} {s : List Int} (h : PlansAt w blk l free (k :: s)) : PlansAt w blk l free (nxI l free k s) := by
  obtain ⟨pre, e⟩ := nx_suf l free k s
  have h1 := h.2
  rw [e] at h1
  exact h1.suf
theorem nx_len (l : List Gt) (free k : Int) (s : List Int) : (nxI l free k s).length ≤ s.length := by
  obtain ⟨pre, e⟩ := nx_suf l free k s
  have := congrArg List.length e
  rw [List.length_append] at this
  omega
theorem bI_len (l : List Gt) (free : Int) : ∀ (s : List Int) (r : Int), (bI l free s r).length ≤ s.length
  | [], _ => by simp [bI]
  | k :: s, r => by
    have h1 := bI_len l free s ((gAt l k).a + free)
    have h2 := bI_len l free s r
    unfold bI
    split <;> simp <;> omega
theorem chI_len (l : List Gt) (free : Int) (s : List Int) : (chI l free s).length ≤ s.length := by
  cases s with
  | nil => simp [chI]
  | cons k s => have := bI_len l free s ((gAt l k).a + free); simp [chI]; omega
/-- What the first n trusts' plans pay. -/
def allC (l : List Gt) (free : Int) (ps : List Int) : Nat → List Int
  | 0 => []
  | n + 1 => allC l free ps n ++ chI l free (trI l (n : Int) ps)
theorem allC_len (l : List Gt) (free : Int) (ps : List Int) : ∀ n, (allC l free ps n).length ≤ n * ps.length
  | 0 => by simp [allC]
  | n + 1 => by
    have h1 := allC_len l free ps n
    have h2 := chI_len l free (trI l (n : Int) ps)
    have h3 : (trI l (n : Int) ps).length ≤ ps.length := List.length_filter_le _ _
    show (allC l free ps n ++ _).length ≤ _
    rw [List.length_append, Nat.succ_mul]
    omega
theorem parts_perm (l : List Gt) : ∀ m : List Int, (∀ k ∈ m, 0 ≤ (gAt l k).b ∧ (gAt l k).b ≤ 3) → (trI l 0 m ++ (trI l 1 m ++ (trI l 2 m ++ trI l 3 m))).Perm m
  | [], _ => by simp [trI]
  | x :: m, h => by
    have ih := parts_perm l m (fun k hk => h k (List.mem_cons_of_mem _ hk))
    obtain ⟨h0, h3⟩ := h x List.mem_cons_self
    have e : ∀ t : Int, trI l t (x :: m) = if (gAt l x).b = t then x :: trI l t m else trI l t m := fun t => by
      unfold trI
      by_cases c : (gAt l x).b = t
      · rw [if_pos c, List.filter_cons_of_pos (by simpa using c)]
      · rw [if_neg c, List.filter_cons_of_neg (by simpa using c)]
    rw [e 0, e 1, e 2, e 3]
    by_cases c0 : (gAt l x).b = 0
    · rw [if_pos c0, if_neg (by omega), if_neg (by omega), if_neg (by omega)]
      exact .cons x ih
    · by_cases c1 : (gAt l x).b = 1
      · rw [if_neg c0, if_pos c1, if_neg (by omega), if_neg (by omega)]
        exact List.perm_middle.trans (.cons x ih)
      · by_cases c2 : (gAt l x).b = 2
        · rw [if_neg c0, if_neg c1, if_pos c2, if_neg (by omega), ← List.append_assoc]
          refine List.perm_middle.trans ?_
          rw [List.append_assoc]
          exact .cons x ih
        · rw [if_neg c0, if_neg c1, if_neg c2, if_pos (by omega), ← List.append_assoc, ← List.append_assoc]
          refine List.perm_middle.trans ?_
          rw [List.append_assoc, List.append_assoc]
          exact .cons x ih
theorem allC_sort {l : List Gt} (hv : validG l = true) (free f t : Int) : (allC l free (passL l f t) 4).mergeSort (fun x y => decide (x ≤ y)) = mI l free (passL l f t) noTic := by
  have hp := passL_pas hv f t
  have hsub := mI_sub l free (passL l f t) noTic
  generalize hm : mI l free (passL l f t) noTic = m at *
  have hb : ∀ b : Int, chI l free (trI l b (passL l f t)) = trI l b m := fun b => by rw [← hm]; exact (best_trust hv free f t b).symm
  have hperm : (allC l free (passL l f t) 4).Perm m := by
    have h1 : allC l free (passL l f t) 4 = trI l 0 m ++ (trI l 1 m ++ (trI l 2 m ++ trI l 3 m)) := by
      rw [← hb 0, ← hb 1, ← hb 2, ← hb 3]
      simp [allC]
    rw [h1]
    refine parts_perm l m fun k hk => ?_
    have hk2 := hsub.subset hk
    exact hp.bs _ (List.mem_map.2 ⟨k, hk2, rfl⟩)
  have hs : m.Pairwise fun x y => decide (x ≤ y) = true := (List.Pairwise.sublist hsub hp.asc).imp fun h => by simp; omega
  refine List.Perm.eq_of_pairwise (le := fun x y => decide (x ≤ y) = true) (fun a b _ _ h1 h2 => by simp at h1 h2; omega) ?_ hs ((List.mergeSort_perm _ _).trans hperm)
  exact List.pairwise_mergeSort (fun a b c h1 h2 => by simp at *; omega) (fun a b => by simp; omega) _

end Go.Proofs.Ythhllpnbmelidaa
