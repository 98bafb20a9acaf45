/- A heap of places (town, distance) as a list: what container/heap's up and down do; no program. -/
namespace Go.Proofs.Ytmdcpigobfhckaa

abbrev Pl := Int × Int
def pl0 : Pl := (0, 0)

/-- Places i and j exchanged. -/
def swapL (l : List Pl) (i j : Nat) : List Pl := (l.set i (l.getD j pl0)).set j (l.getD i pl0)

theorem swapL_length (l : List Pl) (i j : Nat) : (swapL l i j).length = l.length := by simp [swapL]

theorem getP (l : List Pl) {i : Nat} (h : i < l.length) : l.getD i pl0 = l[i] := by simp [List.getD, h]

theorem swapL_getD (l : List Pl) {i j k : Nat} (hi : i < l.length) (hj : j < l.length) : (swapL l i j).getD k pl0 = if k = j then l.getD i pl0 else if k = i then l.getD j pl0 else l.getD k pl0 := by
  simp only [swapL, List.getD, List.getElem?_set, List.length_set]
  by_cases h1 : j = k
  · subst h1; simp [hj]
  · simp only [h1, if_false, Ne.symm h1]
    by_cases h2 : i = k
    · subst h2; simp [hi]
    · simp [h2, Ne.symm h2]

theorem swapL_mem (l : List Pl) {i j : Nat} (hi : i < l.length) (hj : j < l.length) (p : Pl) : p ∈ swapL l i j ↔ p ∈ l := by
  have key : ∀ l : List Pl, i < l.length → j < l.length → p ∈ swapL l i j → p ∈ l := by
    intro l hi hj h
    obtain ⟨k, hk, rfl⟩ := List.getElem_of_mem h
    rw [swapL_length] at hk
    have := swapL_getD l (k := k) hi hj
    rw [getP _ (by rw [swapL_length]; exact hk)] at this
    rw [this]
    split
    · rw [getP l hi]; exact List.getElem_mem _
    · split
      · rw [getP l hj]; exact List.getElem_mem _
      · rw [getP l hk]; exact List.getElem_mem _
  constructor
  · exact key l hi hj
  · intro h
    have e : swapL (swapL l i j) i j = l := by
      refine List.ext_getElem (by simp [swapL_length]) fun k h1 h2 => ?_
      have hl := swapL_length l i j
      rw [← getP _ h1, ← getP _ h2, swapL_getD _ (by omega) (by omega), swapL_getD _ hi hj, swapL_getD _ hi hj, swapL_getD _ hi hj]
      by_cases hkj : k = j
      · subst hkj
        by_cases hik : i = k
        · subst hik; simp
        · simp [hik]
      · by_cases hki : k = i
        · subst hki; simp [hkj]
        · simp [hkj, hki]
    have hl := swapL_length l i j
    exact key (swapL l i j) (by omega) (by omega) (by rw [e]; exact h)

def farAt (l : List Pl) (i : Nat) : Int := (l.getD i pl0).2

/-- The first n places are a heap. -/
def HeapTo (l : List Pl) (n : Nat) : Prop := ∀ j, 0 < j → j < n → farAt l ((j - 1) / 2) ≤ farAt l j

/-- .. but for the place j, which may be nearer than its parent. -/
def UpOk (l : List Pl) (n j : Nat) : Prop :=
  (∀ k, 0 < k → k < n → k ≠ j → farAt l ((k - 1) / 2) ≤ farAt l k) ∧ ∀ k, 0 < k → k < n → (k - 1) / 2 = j → 0 < j → farAt l ((j - 1) / 2) ≤ farAt l k

theorem farAt_swap (l : List Pl) {i j : Nat} (hi : i < l.length) (hj : j < l.length) (k : Nat) : farAt (swapL l i j) k = if k = j then farAt l i else if k = i then farAt l j else farAt l k := by
  unfold farAt
  rw [swapL_getD l hi hj]
  split
  · rfl
  · split <;> rfl

theorem UpOk.done {l : List Pl} {n j : Nat} (h : UpOk l n j) (hd : j = 0 ∨ farAt l ((j - 1) / 2) ≤ farAt l j) : HeapTo l n := by
  intro k hk hkn
  by_cases e : k = j
  · subst e
    rcases hd with hd | hd
    · omega
    · exact hd
  · exact h.1 k hk hkn e

theorem UpOk.step {l : List Pl} {n j : Nat} (h : UpOk l n j) (hn : n ≤ l.length) (hj : 0 < j) (hjn : j < n) (hlt : farAt l j < farAt l ((j - 1) / 2)) : UpOk (swapL l ((j - 1) / 2) j) n ((j - 1) / 2) := by
  have hi : (j - 1) / 2 < l.length := by omega
  have hj' : j < l.length := by omega
  have hij : (j - 1) / 2 ≠ j := by omega
  refine ⟨fun k hk hkn hki => ?_, fun k hk hkn hki h0 => ?_⟩
  · rw [farAt_swap l hi hj', farAt_swap l hi hj']
    by_cases hkj : k = j
    · subst hkj
      rw [if_neg hij, if_pos rfl, if_pos rfl]; omega
    · rw [if_neg hkj, if_neg hki]
      by_cases hp : (k - 1) / 2 = j
      · rw [if_pos hp]
        exact h.2 k hk hkn hp hj
      · rw [if_neg hp]
        have hk1 := h.1 k hk hkn hkj
        by_cases hp2 : (k - 1) / 2 = (j - 1) / 2
        · rw [if_pos hp2]; rw [hp2] at hk1; omega
        · rw [if_neg hp2]; exact hk1
  · rw [farAt_swap l hi hj', farAt_swap l hi hj']
    have hpp : ((j - 1) / 2 - 1) / 2 ≠ j := by omega
    have hpp2 : ((j - 1) / 2 - 1) / 2 ≠ (j - 1) / 2 := by omega
    rw [if_neg hpp, if_neg hpp2]
    have hi1 := h.1 ((j - 1) / 2) h0 (by omega) hij
    by_cases hkj : k = j
    · rw [if_pos hkj]; exact hi1
    · have hk1 := h.1 k hk hkn hkj
      rw [if_neg hkj, if_neg (by omega)]
      rw [hki] at hk1; omega

/-- The first n places are a heap, but that the place i may be farther than its children; i's parent is no farther than they. -/
def DownOk (l : List Pl) (n i : Nat) : Prop :=
  (∀ k, 0 < k → k < n → (k - 1) / 2 ≠ i → farAt l ((k - 1) / 2) ≤ farAt l k) ∧ ∀ k, 0 < k → k < n → (k - 1) / 2 = i → 0 < i → farAt l ((i - 1) / 2) ≤ farAt l k

theorem DownOk.done {l : List Pl} {n i : Nat} (h : DownOk l n i) (hd : ∀ k, 0 < k → k < n → (k - 1) / 2 = i → farAt l i ≤ farAt l k) : HeapTo l n := by
  intro k hk hkn
  by_cases e : (k - 1) / 2 = i
  · rw [e]; exact hd k hk hkn e
  · exact h.1 k hk hkn e

theorem DownOk.step {l : List Pl} {n i j : Nat} (h : DownOk l n i) (hn : n ≤ l.length) (hj : 0 < j) (hjn : j < n) (hp : (j - 1) / 2 = i) (hlt : farAt l j < farAt l i)
    (hmin : ∀ k, 0 < k → k < n → (k - 1) / 2 = i → farAt l j ≤ farAt l k) : DownOk (swapL l i j) n j := by
  have hi : i < l.length := by omega
  have hj' : j < l.length := by omega
  refine ⟨fun k hk hkn hkp => ?_, fun k hk hkn hkp _ => ?_⟩
  · rw [farAt_swap l hi hj', farAt_swap l hi hj']
    rw [if_neg hkp]
    by_cases hkj : k = j
    · subst hkj
      rw [if_pos hp, if_pos rfl]; omega
    · rw [if_neg hkj]
      by_cases hki : k = i
      · rw [if_pos hki]
        have hpi : (k - 1) / 2 ≠ i := by omega
        rw [if_neg hpi, hki]
        exact h.2 j hj hjn hp (by omega)
      · rw [if_neg hki]
        by_cases hp2 : (k - 1) / 2 = i
        · rw [if_pos hp2]; exact hmin k hk hkn hp2
        · rw [if_neg hp2]; exact h.1 k hk hkn hp2
  · rw [farAt_swap l hi hj', farAt_swap l hi hj']
    have h1 : (j - 1) / 2 ≠ j := by omega
    have h2 : k ≠ j := by omega
    have h3 : k ≠ i := by omega
    rw [if_neg h1, if_pos hp, if_neg h2, if_neg h3]
    have := h.1 k hk hkn (by omega)
    rw [hkp] at this
    exact this

/-- Taking the last for the first. -/
theorem HeapTo.swap0 {l : List Pl} {n : Nat} (h : HeapTo l (n + 1)) (hl : n + 1 ≤ l.length) : DownOk (swapL l 0 n) n 0 := by
  refine ⟨fun k hk hkn hkp => ?_, fun k _ _ _ h0 => by omega⟩
  rw [farAt_swap l (by omega) (by omega), farAt_swap l (by omega) (by omega)]
  rw [if_neg (by omega), if_neg hkp, if_neg (by omega), if_neg (by omega)]
  exact h k hk (by omega)

/-- The first of a heap is nearest. -/
theorem HeapTo.min {l : List Pl} {n : Nat} (h : HeapTo l n) : ∀ (k : Nat), k < n → farAt l 0 ≤ farAt l k := by
  intro k
  induction k using Nat.strongRecOn with
  | _ k ih =>
    intro hk
    by_cases h0 : k = 0
    · subst h0; omega
    · have h1 := h k (by omega) hk
      have h2 := ih ((k - 1) / 2) (by omega) (by omega)
      omega

theorem HeapTo.snoc {l : List Pl} (h : HeapTo l l.length) (x : Pl) : UpOk (l ++ [x]) (l.length + 1) l.length := by
  have e : ∀ k, k < l.length → farAt (l ++ [x]) k = farAt l k := fun k hk => by simp [farAt, List.getD, List.getElem?_append_left hk]
  refine ⟨fun k hk hkn hkl => ?_, fun k hk hkn hkp h0 => by omega⟩
  rw [e k (by omega), e ((k - 1) / 2) (by omega)]
  exact h k hk (by omega)

theorem HeapTo.take {l : List Pl} {n : Nat} (h : HeapTo l n) : HeapTo (l.take n) n := by
  intro k hk hkn
  have e : ∀ k, k < n → farAt (l.take n) k = farAt l k := fun k hk => by simp [farAt, List.getD, hk]
  rw [e k hkn, e _ (by omega)]
  exact h k hk hkn

end Go.Proofs.Ytmdcpigobfhckaa
