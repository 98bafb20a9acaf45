/- As many as can be on one seat: by the least end, stop by stop; no program. -/
import Derived.Test.YtlkhgnglblgldaaEP
namespace Go.Proofs.Ytlkhgnglblgldaa

/-- The one of the first j that ends first, the first of several, of those that begin at s or behind it. -/
def feTo (l : List Bk) (s : Int) : Nat → Option Nat
  | 0 => none
  | j + 1 => match feTo l s j with
    | none => if s ≤ (l.getD j bk0).a then some j else none
    | some i => if s ≤ (l.getD j bk0).a ∧ (l.getD j bk0).b < (l.getD i bk0).b then some j else some i
def feB (l : List Bk) (s : Int) : Option Nat := feTo l s l.length
theorem feTo_none {l : List Bk} {s : Int} : ∀ {j : Nat}, feTo l s j = none → ∀ i, i < j → ¬ s ≤ (l.getD i bk0).a
  | 0, _, i, hi => by omega
  | j + 1, h, i, hi => by
    unfold feTo at h
    cases hf : feTo l s j with
    | none =>
      rw [hf] at h
      simp only at h
      split at h
      · cases h
      · rename_i hn
        by_cases e : i = j
        · subst e; exact hn
        · exact feTo_none hf i (by omega)
    | some k => rw [hf] at h; simp only at h; split at h <;> cases h
theorem feTo_some {l : List Bk} {s : Int} : ∀ {j k : Nat}, feTo l s j = some k → k < j ∧ s ≤ (l.getD k bk0).a ∧ ∀ i, i < j → s ≤ (l.getD i bk0).a → (l.getD k bk0).b ≤ (l.getD i bk0).b ∧ ((l.getD i bk0).b = (l.getD k bk0).b → k ≤ i)
  | 0, k, h => by cases h
  | j + 1, k, h => by
    unfold feTo at h
    cases hf : feTo l s j with
    | none =>
      rw [hf] at h
      simp only at h
      split at h
      · rename_i hs
        injection h with h
        subst h
        refine ⟨by omega, hs, fun i hi hi2 => ?_⟩
        by_cases e : i = j
        · subst e; exact ⟨Int.le_refl _, fun _ => Nat.le_refl _⟩
        · exact absurd hi2 (feTo_none hf i (by omega))
      · cases h
    | some m =>
      rw [hf] at h
      simp only at h
      obtain ⟨h1, h2, h3⟩ := feTo_some hf
      split at h
      · rename_i hq
        injection h with h
        subst h
        refine ⟨by omega, hq.1, fun i hi hi2 => ?_⟩
        by_cases e : i = j
        · subst e; exact ⟨Int.le_refl _, fun _ => Nat.le_refl _⟩
        · have := h3 i (by omega) hi2
          exact ⟨by omega, fun e => by omega⟩
      · rename_i hq
        injection h with h
        subst h
        refine ⟨by omega, h2, fun i hi hi2 => ?_⟩
        by_cases e : i = j
        · subst e
          have : ¬ (l.getD i bk0).b < (l.getD m bk0).b := fun h => hq ⟨hi2, h⟩
          exact ⟨by omega, fun _ => by omega⟩
        · exact h3 i (by omega) hi2

/-- Is i taken, at the stop t, with the last end u? -/
def hitE (l : List Bk) (t u : Int) (i : Nat) : Bool := decide ((l.getD i bk0).b = t) && decide (u ≤ (l.getD i bk0).a)
theorem hitE_iff {l : List Bk} {t u : Int} {i : Nat} : hitE l t u i = true ↔ (l.getD i bk0).b = t ∧ u ≤ (l.getD i bk0).a := by simp [hitE]
def atE (l : List Bk) (t u : Int) (k : Nat) : Option Nat := (List.range k).find? (hitE l t u)
/-- The last end and those taken, up to the stop t. -/
def goE (l : List Bk) : Nat → Nat × List Nat
  | 0 => (0, [])
  | t + 1 => match atE l ((t + 1 : Nat) : Int) ((goE l t).1 : Int) l.length with
    | some i => (t + 1, (goE l t).2 ++ [i])
    | none => goE l t
theorem atE_none {l : List Bk} {t u : Int} {k : Nat} : atE l t u k = none ↔ ∀ i, i < k → hitE l t u i = false := by
  unfold atE; rw [List.find?_eq_none]
  simp
theorem atE_some {l : List Bk} {t u : Int} {k i : Nat} : atE l t u k = some i ↔ i < k ∧ hitE l t u i = true ∧ ∀ j, j < i → hitE l t u j = false := by
  unfold atE; rw [List.find?_range_eq_some]
  simp
  constructor
  · rintro ⟨h1, h2, h3⟩; exact ⟨h2, h1, fun j hj => by simpa using h3 j hj⟩
  · rintro ⟨h1, h2, h3⟩; exact ⟨h2, h1, fun j hj => by simpa using h3 j hj⟩
theorem atE_zero (l : List Bk) (t u : Int) : atE l t u 0 = none := by simp [atE]
theorem atE_succ_hit {l : List Bk} {t u : Int} {k : Nat} (h : atE l t u k = none) (hk : hitE l t u k = true) : atE l t u (k + 1) = some k :=
  atE_some.2 ⟨by omega, hk, fun j hj => atE_none.1 h j hj⟩
theorem atE_succ_no {l : List Bk} {t u : Int} {k : Nat} (h : atE l t u k = none) (hk : hitE l t u k = false) : atE l t u (k + 1) = none :=
  atE_none.2 fun i hi => by
    by_cases e : i = k
    · subst e; exact hk
    · exact atE_none.1 h i (by omega)
theorem atE_succ_some {l : List Bk} {t u : Int} {k i : Nat} (h : atE l t u k = some i) : atE l t u (k + 1) = some i := by
  have := atE_some.1 h
  exact atE_some.2 ⟨by omega, this.2⟩

/-- Nothing is taken on the way to the next end. -/
theorem goE_still {l : List Bk} {t : Nat} (ht : (goE l t).1 = t) : ∀ {d : Nat}, (∀ i, i < l.length → (t : Int) ≤ (l.getD i bk0).a → ¬ ((l.getD i bk0).b ≤ ((t + d : Nat) : Int) ∧ (t : Int) < (l.getD i bk0).b)) → goE l (t + d) = goE l t
  | 0, _ => rfl
  | d + 1, h => by
    have ih := goE_still ht (d := d) (fun i hi h1 h2 => h i hi h1 ⟨by omega, h2.2⟩)
    show goE l (t + d + 1) = goE l t
    rw [goE, ih, ht]
    have : atE l ((t + d + 1 : Nat) : Int) (t : Int) l.length = none := atE_none.2 fun i hi => by
      rw [Bool.eq_false_iff]; intro h'
      obtain ⟨h1, h2⟩ := hitE_iff.1 h'
      exact h i hi h2 ⟨by omega, by omega⟩
    rw [this]
theorem goE_next {l : List Bk} {t i : Nat} (hf : ∀ i, i < l.length → (l.getD i bk0).a < (l.getD i bk0).b) (ht : (goE l t).1 = t) (h : feB l t = some i) : ∃ t', ((l.getD i bk0).b = ((t' : Nat) : Int)) ∧ t < t' ∧ (goE l t').1 = t' ∧ (goE l t').2 = (goE l t).2 ++ [i] := by
  obtain ⟨h1, h2, h3⟩ := feTo_some h
  have hi := hf i h1
  obtain ⟨t', ht'⟩ : ∃ t' : Nat, (l.getD i bk0).b = (t' : Int) := ⟨((l.getD i bk0).b).toNat, by omega⟩
  have htt : t < t' := by omega
  obtain ⟨d, hd⟩ : ∃ d, t' = t + d + 1 := ⟨t' - t - 1, by omega⟩
  have hst := goE_still ht (d := d) (fun j hj hj2 hj3 => by have := (h3 j hj hj2).1; omega)
  have hat : atE l ((t + d + 1 : Nat) : Int) (t : Int) l.length = some i := atE_some.2 ⟨h1, hitE_iff.2 ⟨by omega, h2⟩, fun j hj => by
    rw [Bool.eq_false_iff]; intro h'
    obtain ⟨g1, g2⟩ := hitE_iff.1 h'
    have := (h3 j (by omega) g2).2 (by omega)
    omega⟩
  have e : goE l (t + d + 1) = (t + d + 1, (goE l t).2 ++ [i]) := by
    rw [goE, hst, ht, hat]
  refine ⟨t', ht', htt, ?_, ?_⟩
  · rw [hd, e]
  · rw [hd, e]
theorem goE_end {l : List Bk} {t n : Nat} (hf : ∀ i, i < l.length → (l.getD i bk0).a < (l.getD i bk0).b) (ht : (goE l t).1 = t) (hn : t ≤ n) (h : feB l t = none) : goE l n = goE l t := by
  obtain ⟨d, rfl⟩ : ∃ d, n = t + d := ⟨n - t, by omega⟩
  exact goE_still ht (fun i hi h1 _ => feTo_none h i hi h1)
/-- Those taken are of the list, and none twice. -/
theorem goE_mem {l : List Bk} (hf : ∀ i, i < l.length → (l.getD i bk0).a < (l.getD i bk0).b) : ∀ t, (goE l t).1 ≤ t ∧ (goE l t).2.Nodup ∧ ∀ i, i ∈ (goE l t).2 → i < l.length ∧ (l.getD i bk0).b ≤ ((goE l t).1 : Int)
  | 0 => ⟨Nat.le_refl _, List.nodup_nil, fun i hi => by cases hi⟩
  | t + 1 => by
    obtain ⟨h1, h2, h3⟩ := goE_mem hf t
    rw [goE]
    cases ha : atE l ((t + 1 : Nat) : Int) ((goE l t).1 : Int) l.length with
    | none => exact ⟨by show (goE l t).1 ≤ t + 1; omega, h2, h3⟩
    | some i =>
      obtain ⟨g1, g2, _⟩ := atE_some.1 ha
      obtain ⟨g3, g4⟩ := hitE_iff.1 g2
      have hi := hf i g1
      refine ⟨Nat.le_refl _, ?_, fun j hj => ?_⟩
      · rw [List.nodup_append]
        refine ⟨h2, by simp, fun x hx y hy e => ?_⟩
        have hy2 := List.mem_singleton.1 hy
        have hx2 := (h3 x hx).2
        rw [e, hy2] at hx2
        omega
      · rcases List.mem_append.1 hj with hj | hj
        · have := h3 j hj; exact ⟨this.1, by show _ ≤ ((t + 1 : Nat) : Int); omega⟩
        · obtain rfl := List.mem_singleton.1 hj
          exact ⟨g1, by show _ ≤ ((t + 1 : Nat) : Int); omega⟩

def bestOk (n : Int) (l : List Bk) : Bool := validB n l && l.all (fun r => r.m)
/-- The indexes of those taken, ascending. -/
def pickE (l : List Bk) (n : Nat) (k : Nat) : List Int := ((List.range k).filter fun i => (goE l n).2.contains i).map fun (i : Nat) => (i : Int)
def bestX (n : Int) (l : List Bk) : List Int := if bestOk n l then pickE l n.toNat l.length else []
theorem bestX_no {n : Int} {l : List Bk} (h : bestOk n l = false) : bestX n l = [] := by simp [bestX, h]
theorem bestX_yes {n : Int} {l : List Bk} (h : bestOk n l = true) : bestX n l = pickE l n.toNat l.length := by simp [bestX, h]
theorem pickE_succ (l : List Bk) (n k : Nat) : pickE l n (k + 1) = pickE l n k ++ if (goE l n).2.contains k then [(k : Int)] else [] := by
  simp only [pickE, List.range_succ, List.filter_append, List.map_append]
  congr 1
  cases h : (goE l n).2.contains k
  · rw [List.filter_cons, h]; rfl
  · rw [List.filter_cons, h]; rfl
theorem pickE_len (l : List Bk) (n k : Nat) : (pickE l n k).length ≤ k := by
  have := List.length_filter_le (fun i => (goE l n).2.contains i) (List.range k)
  simp [pickE] at *; omega
theorem bestX_short (n : Int) (l : List Bk) : (bestX n l).length ≤ 1048576 := by
  unfold bestX; split
  · rename_i h
    simp only [bestOk, Bool.and_eq_true] at h
    have h1 := (validB_iff.1 h.1).2.1
    have := pickE_len l n.toNat l.length; omega
  · simp
theorem bestOk_iff {n : Int} {l : List Bk} : bestOk n l = true ↔ validB n l = true ∧ ∀ i, i < l.length → (l.getD i bk0).m = true := by
  simp only [bestOk, Bool.and_eq_true, List.all_eq_true]
  constructor
  · rintro ⟨h1, h2⟩
    exact ⟨h1, fun i hi => by have := h2 l[i] (List.getElem_mem hi); simpa [List.getD, hi] using this⟩
  · rintro ⟨h1, h2⟩
    refine ⟨h1, fun r hr => ?_⟩
    obtain ⟨i, hi, rfl⟩ := List.getElem_of_mem hr
    have := h2 i hi; simpa [List.getD, hi] using this
/-- Sorted, those taken are the indexes ascending. -/
theorem pickE_sort {l : List Bk} (hf : ∀ i, i < l.length → (l.getD i bk0).a < (l.getD i bk0).b) (n : Nat) : ((goE l n).2.map fun (i : Nat) => (i : Int)).mergeSort (fun x y => decide (x ≤ y)) = pickE l n l.length := by
  obtain ⟨_, hnd, hm⟩ := goE_mem hf n
  have hp : ((goE l n).2).Perm ((List.range l.length).filter fun i => (goE l n).2.contains i) := by
    refine (List.perm_ext_iff_of_nodup hnd (List.nodup_range.sublist (List.filter_sublist))).2 fun i => ?_
    rw [List.mem_filter, List.mem_range]
    constructor
    · intro h; exact ⟨(hm i h).1, by simpa using h⟩
    · rintro ⟨_, h⟩; simpa using h
  have hs : (pickE l n l.length).Pairwise fun x y => decide (x ≤ y) = true := by
    unfold pickE
    rw [List.pairwise_map]
    have h1 : (List.range l.length).Pairwise fun x y => x < y := List.pairwise_lt_range
    exact (h1.sublist List.filter_sublist).imp fun h => by simp; omega
  have hp2 : (((goE l n).2.map fun (i : Nat) => (i : Int)).mergeSort (fun x y => decide (x ≤ y))).Perm (pickE l n l.length) := (List.mergeSort_perm _ _).trans (hp.map _)
  refine List.Perm.eq_of_pairwise (le := fun x y => decide (x ≤ y) = true) (fun a b _ _ h1 h2 => by simp at h1 h2; omega) ?_ hs hp2
  exact List.pairwise_mergeSort (fun a b c h1 h2 => by simp at *; omega) (fun a b => by simp; omega) _

end Go.Proofs.Ytlkhgnglblgldaa
