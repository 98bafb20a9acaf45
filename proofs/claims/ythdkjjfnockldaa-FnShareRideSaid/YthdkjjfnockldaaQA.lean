/- Roads in parts, pure: valid ones, their owners mile by mile, miles of each proprietor, plain ones. -/
import Derived.Test.YthdkjjfnockldaaPA
namespace Go.Proofs.Ythdkjjfnockldaa

def okPt (r : Pt) : Bool := decide (0 ≤ r.a) && decide (r.a ≤ 5) && (decide (1 ≤ r.b) && decide (r.b ≤ 99))
theorem okPt_iff {r : Pt} : okPt r = true ↔ 0 ≤ r.a ∧ r.a ≤ 5 ∧ 1 ≤ r.b ∧ r.b ≤ 99 := by simp [okPt]; omega
def validP (l : List Pt) : Bool := decide (1 ≤ l.length) && decide (l.length ≤ 12) && l.all okPt
theorem validP_iff {l : List Pt} : validP l = true ↔ 1 ≤ l.length ∧ l.length ≤ 12 ∧ ∀ r ∈ l, okPt r = true := by
  simp [validP, and_assoc]
theorem validP_at {l : List Pt} (h : validP l = true) {i : Nat} (hi : i < l.length) : 0 ≤ (l.getD i pt0).a ∧ (l.getD i pt0).a ≤ 5 ∧ 1 ≤ (l.getD i pt0).b ∧ (l.getD i pt0).b ≤ 99 := by
  rw [Pt.getD_eq l hi]; exact okPt_iff.1 ((validP_iff.1 h).2.2 _ (List.getElem_mem hi))

/-- The owner of each mile. -/
def ownP (l : List Pt) : List Int := l.flatMap fun r => List.replicate r.b.toNat r.a
theorem ownP_nil : ownP [] = [] := rfl
theorem ownP_snoc (l : List Pt) (r : Pt) : ownP (l ++ [r]) = ownP l ++ List.replicate r.b.toNat r.a := by simp [ownP]
theorem ownP_succ {l : List Pt} {i : Nat} (hi : i < l.length) : ownP (l.take (i + 1)) = ownP (l.take i) ++ List.replicate (l.getD i pt0).b.toNat (l.getD i pt0).a := by
  rw [Pt.take_snoc l i hi, ownP_snoc]
theorem ownP_split {l : List Pt} {i : Nat} (hi : i < l.length) : ∃ t, ownP l = ownP (l.take i) ++ List.replicate (l.getD i pt0).b.toNat (l.getD i pt0).a ++ t := by
  refine ⟨ownP (l.drop (i + 1)), ?_⟩
  rw [← ownP_succ hi]
  have h : ownP (l.take (i + 1) ++ l.drop (i + 1)) = ownP (l.take (i + 1)) ++ ownP (l.drop (i + 1)) := by unfold ownP; rw [List.flatMap_append]
  rwa [List.take_append_drop] at h
theorem ownP_len_le {l : List Pt} (h : ∀ r ∈ l, okPt r = true) : (ownP l).length ≤ 99 * l.length := by
  induction l with
  | nil => simp [ownP]
  | cons r l ih =>
    have h1 := okPt_iff.1 (h r (by simp))
    have h2 := ih (fun x hx => h x (by simp [hx]))
    simp only [ownP, List.flatMap_cons, List.length_append, List.length_replicate, List.length_cons] at h2 ⊢
    omega
theorem ownP_len {l : List Pt} (h : validP l = true) : (ownP l).length ≤ 1188 := by
  have h1 := validP_iff.1 h
  have h2 := ownP_len_le h1.2.2
  omega
theorem ownP_pos {l : List Pt} (h : validP l = true) : 0 < (ownP l).length := by
  have h1 := validP_iff.1 h
  obtain ⟨t, ht⟩ := ownP_split (l := l) (i := 0) (by omega)
  have := validP_at h (i := 0) (by omega)
  rw [ht]; simp only [List.length_append, List.length_replicate]; omega
theorem ownP_mem {l : List Pt} (h : ∀ r ∈ l, okPt r = true) : ∀ x ∈ ownP l, 0 ≤ x ∧ x ≤ 5 := by
  intro x hx
  simp only [ownP, List.mem_flatMap, List.mem_replicate] at hx
  obtain ⟨r, hr, _, rfl⟩ := hx
  have := okPt_iff.1 (h r hr)
  omega
theorem ownP_ok {l : List Pt} (h : validP l = true) : ∀ x ∈ ownP l, 0 ≤ x ∧ x ≤ 5 := ownP_mem (validP_iff.1 h).2.2

/-- The owner of mile k, 0 where there is none. -/
def ownAt (l : List Pt) (k : Nat) : Int := (ownP l).getD k 0
theorem ownAt_ok {l : List Pt} (h : validP l = true) (k : Nat) : 0 ≤ ownAt l k ∧ ownAt l k ≤ 5 := by
  unfold ownAt
  by_cases hk : k < (ownP l).length
  · rw [List.getD_eq_getElem?_getD, List.getElem?_eq_getElem hk]
    exact ownP_ok h _ (List.getElem_mem hk)
  · rw [List.getD_eq_getElem?_getD, List.getElem?_eq_none (by omega)]; simp
theorem ownAt_in {l : List Pt} {i j : Nat} (hi : i < l.length) (hj : j < (l.getD i pt0).b.toNat) : ownAt l ((ownP (l.take i)).length + j) = (l.getD i pt0).a := by
  obtain ⟨t, ht⟩ := ownP_split hi
  unfold ownAt
  rw [ht, List.append_assoc, List.getD_eq_getElem?_getD, List.getElem?_append_right (by omega), Nat.add_sub_cancel_left, List.getElem?_append_left (by rw [List.length_replicate]; exact hj), List.getElem?_replicate, if_pos hj]
  rfl
theorem ownP_up {l : List Pt} {i : Nat} (hi : i < l.length) : (ownP (l.take (i + 1))).length = (ownP (l.take i)).length + (l.getD i pt0).b.toNat := by
  rw [ownP_succ hi]; simp
theorem ownP_take_le {l : List Pt} {i : Nat} (hi : i < l.length) : (ownP (l.take i)).length + (l.getD i pt0).b.toNat ≤ (ownP l).length := by
  obtain ⟨t, ht⟩ := ownP_split hi
  rw [ht]; simp only [List.length_append, List.length_replicate]; omega
theorem ownP_all (l : List Pt) : (List.range (ownP l).length).map (ownAt l) = ownP l := by
  apply List.ext_getElem (by simp)
  intro i h1 h2
  simp [ownAt, List.getD, h2]

theorem snocRec {α : Type} {motive : List α → Prop} (h0 : motive []) (h1 : ∀ l x, motive l → motive (l ++ [x])) (l : List α) : motive l := by
  rw [← List.reverse_reverse l]
  induction l.reverse with
  | nil => exact h0
  | cons x s ih => rw [List.reverse_cons]; exact h1 _ _ ih

/-- How often each of the six stands in a list. -/
def cnt6 (os : List Int) : List Int := (List.range 6).map fun (o : Nat) => ((os.count (o : Int) : Nat) : Int)
theorem cnt6_len (os : List Int) : (cnt6 os).length = 6 := by simp [cnt6]
theorem cnt6_at (os : List Int) {o : Nat} (h : o < 6) : (cnt6 os).getD o 0 = ((os.count (o : Int) : Nat) : Int) := by simp [cnt6, List.getD, h]
theorem cnt6_nil : cnt6 [] = [0, 0, 0, 0, 0, 0] := rfl
theorem cnt6_add (os : List Int) (x : Int) (n : Nat) (h0 : 0 ≤ x) (h5 : x ≤ 5) : cnt6 (os ++ List.replicate n x) = (cnt6 os).set x.toNat ((cnt6 os).getD x.toNat 0 + n) := by
  have hx : ((x.toNat : Nat) : Int) = x := by omega
  rw [cnt6_at os (by omega)]
  apply List.ext_getElem (by simp [cnt6])
  intro i h1 h2
  simp only [cnt6, List.length_map, List.length_range] at h1
  rw [List.getElem_set]
  by_cases e : x.toNat = i
  · subst e
    simp only [cnt6, List.getElem_map, List.getElem_range, if_true, hx]
    rw [List.count_append, List.count_replicate_self]; simp
  · rw [if_neg e]
    simp only [cnt6, List.getElem_map, List.getElem_range]
    rw [List.count_append, List.count_replicate, if_neg (by simp; omega)]; simp
theorem cnt6_snoc (os : List Int) (x : Int) (h0 : 0 ≤ x) (h5 : x ≤ 5) : cnt6 (os ++ [x]) = (cnt6 os).set x.toNat ((cnt6 os).getD x.toNat 0 + 1) := by
  have := cnt6_add os x 1 h0 h5
  simpa using this
theorem cnt6_mem (os : List Int) : ∀ m ∈ cnt6 os, 0 ≤ m ∧ m ≤ os.length := by
  intro m hm
  simp only [cnt6, List.mem_map] at hm
  obtain ⟨o, _, rfl⟩ := hm
  have := List.count_le_length (a := (o : Int)) (l := os)
  omega
theorem cnt6_bd (os : List Int) (i : Nat) : 0 ≤ (cnt6 os).getD i 0 ∧ (cnt6 os).getD i 0 ≤ os.length := by
  by_cases hi : i < 6
  · rw [cnt6_at os hi]
    have := List.count_le_length (a := (i : Int)) (l := os)
    omega
  · rw [List.getD_eq_getElem?_getD, List.getElem?_eq_none (by rw [cnt6_len]; omega)]; simp
theorem sum_set : ∀ (l : List Int) (i : Nat) (v : Int), i < l.length → (l.set i v).sum = l.sum - l.getD i 0 + v
  | [], i, v, h => by simp at h
  | x :: l, 0, v, _ => by simp; omega
  | x :: l, i + 1, v, h => by
    have := sum_set l i v (by simpa using h)
    simp only [List.set_cons_succ, List.sum_cons, List.getD_cons_succ, this]; omega
theorem cnt6_sum : ∀ (os : List Int), (∀ x ∈ os, 0 ≤ x ∧ x ≤ 5) → (cnt6 os).sum = os.length := by
  intro os
  refine snocRec (motive := fun os => (∀ x ∈ os, 0 ≤ x ∧ x ≤ 5) → (cnt6 os).sum = os.length) (fun _ => rfl) (fun os x ih h => ?_) os
  · have hx := h x (by simp)
    rw [cnt6_snoc os x hx.1 hx.2, sum_set _ _ _ (by rw [cnt6_len]; omega), ih (fun y hy => h y (by simp [hy]))]
    simp; omega

/-- The parts of the plain road with these owners. -/
def plainStep (out : List Pt) (o : Int) : List Pt :=
  if 0 < out.length ∧ (out.getD (out.length - 1) pt0).a = o then out.set (out.length - 1) ⟨o, (out.getD (out.length - 1) pt0).b + 1⟩ else out ++ [⟨o, 1⟩]
def plainL (os : List Int) : List Pt := os.foldl plainStep []
theorem plainL_snoc (os : List Int) (o : Int) : plainL (os ++ [o]) = plainStep (plainL os) o := by simp [plainL]
theorem plainL_hit {os : List Int} {o : Int} (h : 0 < (plainL os).length) (h' : ((plainL os).getD ((plainL os).length - 1) pt0).a = o) :
    plainL (os ++ [o]) = (plainL os).set ((plainL os).length - 1) ⟨o, ((plainL os).getD ((plainL os).length - 1) pt0).b + 1⟩ := by
  rw [plainL_snoc, plainStep, if_pos ⟨h, h'⟩]
theorem plainL_miss {os : List Int} {o : Int} (h : ¬ (0 < (plainL os).length ∧ ((plainL os).getD ((plainL os).length - 1) pt0).a = o)) :
    plainL (os ++ [o]) = plainL os ++ [⟨o, 1⟩] := by
  rw [plainL_snoc, plainStep, if_neg h]
theorem plainL_bd (os : List Int) : (plainL os).length ≤ os.length ∧ ∀ r ∈ plainL os, 1 ≤ r.b ∧ r.b ≤ os.length := by
  refine snocRec (motive := fun os => (plainL os).length ≤ os.length ∧ ∀ r ∈ plainL os, 1 ≤ r.b ∧ r.b ≤ os.length) (by simp [plainL]) (fun os o ih => ?_) os
  · obtain ⟨h1, h2⟩ := ih
    by_cases h : 0 < (plainL os).length ∧ ((plainL os).getD ((plainL os).length - 1) pt0).a = o
    · rw [plainL_hit h.1 h.2]
      refine ⟨by simp; omega, fun r hr => ?_⟩
      rcases List.mem_or_eq_of_mem_set hr with hr | rfl
      · have := h2 r hr; simp; omega
      · have := h2 _ (List.getElem_mem (l := plainL os) (n := (plainL os).length - 1) (by omega))
        rw [← Pt.getD_eq _ (by omega)] at this
        simp only [List.length_append, List.length_singleton]; omega
    · rw [plainL_miss h]
      refine ⟨by simp; omega, fun r hr => ?_⟩
      rcases List.mem_append.1 hr with hr | hr
      · have := h2 r hr; simp; omega
      · simp only [List.mem_singleton] at hr; subst hr; simp only [List.length_append, List.length_singleton]; omega
/-- What is handed back: the road, if it is one. -/
def ifP (l : List Pt) : List Pt := if validP l then l else []
theorem ifP_yes {l : List Pt} (h : validP l = true) : ifP l = l := by simp [ifP, h]
theorem ifP_no {l : List Pt} (h : validP l = false) : ifP l = [] := by simp [ifP, h]
theorem ifP_short (l : List Pt) : (ifP l).length ≤ 12 := by
  unfold ifP; split
  · exact (validP_iff.1 (by assumption)).2.1
  · simp

def okOw (x : Int) : Bool := decide (0 ≤ x) && decide (x ≤ 5)
theorem okOw_iff {x : Int} : okOw x = true ↔ 0 ≤ x ∧ x ≤ 5 := by simp [okOw]
def okAm (x : Int) : Bool := decide (0 ≤ x) && decide (x ≤ 1000000)
theorem okAm_iff {x : Int} : okAm x = true ↔ 0 ≤ x ∧ x ≤ 1000000 := by simp [okAm]
theorem bnot_of {b : Bool} {p : Prop} (h : b = true ↔ p) (hn : ¬ p) : b = false := by rw [Bool.eq_false_iff]; exact fun q => hn (h.1 q)

def inS (a b : Int) (k : Nat) : Bool := decide (a ≤ (k : Int)) && decide ((k : Int) < b)
theorem inS_iff {a b : Int} {k : Nat} : inS a b k = true ↔ a ≤ (k : Int) ∧ (k : Int) < b := by simp [inS]
/-- The owner of each mile behind a sale. -/
def soldAt (own : Nat → Int) (a b o : Int) (k : Nat) : Int := if inS a b k then o else own k


end Go.Proofs.Ythdkjjfnockldaa
