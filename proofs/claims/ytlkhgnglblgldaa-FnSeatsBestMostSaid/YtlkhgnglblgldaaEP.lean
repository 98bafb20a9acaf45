/- Pure facts on bookings: which are bookings of a coach; seats as sets of legs; the seating in the order of From, and that bookings are just those that all get a seat; no program. -/
import Derived.Test.YtlkhgnglblgldaaBA
namespace Go.Proofs.Ytlkhgnglblgldaa

def fitsB (n : Int) (r : Bk) : Bool := decide (0 ≤ r.a) && decide (r.a < r.b) && decide (r.b ≤ n)
def seatsB (k : Bool) : Nat := if k then 4 else 6
/-- Is the booking of a kind, and on a leg? -/
def onB (g : Int) (k : Bool) (r : Bk) : Bool := r.m == k && decide (r.a ≤ g) && decide (g < r.b)
def takenTo (l : List Bk) (g : Int) (k : Bool) (j : Nat) : Nat := (l.take j).countP (onB g k)
def takenB (l : List Bk) (g : Int) (k : Bool) : Nat := takenTo l g k l.length
def legOK (l : List Bk) (g : Nat) : Bool := decide (takenB l g true ≤ 4) && decide (takenB l g false ≤ 6)
def legsTo (l : List Bk) (j : Nat) : Bool := (List.range j).all (legOK l)
def fitTo (n : Int) (l : List Bk) (j : Nat) : Bool := (l.take j).all (fitsB n)
def legB (n : Int) : Bool := decide (1 ≤ n) && decide (n ≤ 7)
/-- Each booking alone fits, and there are not too many. -/
def okB (n : Int) (l : List Bk) : Bool := legB n && decide (l.length ≤ 16) && fitTo n l l.length
def validB (n : Int) (l : List Bk) : Bool := okB n l && legsTo l n.toNat

theorem fitsB_iff {n : Int} {r : Bk} : fitsB n r = true ↔ 0 ≤ r.a ∧ r.a < r.b ∧ r.b ≤ n := by
  simp [fitsB, Bool.and_eq_true, and_assoc]
theorem legB_iff {n : Int} : legB n = true ↔ 1 ≤ n ∧ n ≤ 7 := by simp [legB]
theorem fitTo_succ (n : Int) (l : List Bk) (k : Nat) (h : k < l.length) : fitTo n l (k + 1) = (fitTo n l k && fitsB n (l.getD k bk0)) := by
  unfold fitTo; rw [Bk.take_snoc l k h, List.all_append]; simp
theorem fitTo_zero (n : Int) (l : List Bk) : fitTo n l 0 = true := by simp [fitTo]
theorem fitTo_at {n : Int} {l : List Bk} {k j : Nat} (h : fitTo n l k = true) (hj : j < k) (hk : j < l.length) : fitsB n (l.getD j bk0) = true := by
  simp only [fitTo, List.all_eq_true] at h
  refine h _ ?_
  rw [List.mem_take_iff_getElem]
  exact ⟨j, by omega, by simp [List.getD, hk]⟩
theorem fitTo_no {n : Int} {l : List Bk} {i : Nat} (hi : i < l.length) (h : fitsB n (l.getD i bk0) = false) : fitTo n l l.length = false := by
  rw [Bool.eq_false_iff]; intro h'
  rw [fitTo_at h' hi hi] at h; cases h
theorem legsTo_succ (l : List Bk) (k : Nat) : legsTo l (k + 1) = (legsTo l k && legOK l k) := by
  simp [legsTo, List.range_succ]
theorem legsTo_zero (l : List Bk) : legsTo l 0 = true := by simp [legsTo]
theorem legsTo_at {l : List Bk} {k j : Nat} (h : legsTo l k = true) (hj : j < k) : legOK l j = true := by
  simp only [legsTo, List.all_eq_true, List.mem_range] at h
  exact h j hj
theorem legsTo_no {l : List Bk} {k j : Nat} (hj : j < k) (h : legOK l j = false) : legsTo l k = false := by
  rw [Bool.eq_false_iff]; intro h'
  rw [legsTo_at h' hj] at h; cases h
theorem validB_iff {n : Int} {l : List Bk} : validB n l = true ↔ (1 ≤ n ∧ n ≤ 7) ∧ l.length ≤ 16 ∧ (∀ j, j < l.length → fitsB n (l.getD j bk0) = true) ∧ ∀ g : Nat, g < n.toNat → legOK l g = true := by
  constructor
  · intro h
    simp only [validB, okB, Bool.and_eq_true, decide_eq_true_eq] at h
    obtain ⟨⟨⟨h1, h2⟩, h3⟩, h4⟩ := h
    exact ⟨legB_iff.1 h1, h2, fun j hj => fitTo_at h3 hj hj, fun g hg => legsTo_at h4 hg⟩
  · rintro ⟨h1, h2, h3, h4⟩
    simp only [validB, okB, Bool.and_eq_true, decide_eq_true_eq]
    refine ⟨⟨⟨legB_iff.2 h1, h2⟩, ?_⟩, ?_⟩
    · simp only [fitTo, List.all_eq_true]
      intro r hr
      rw [List.mem_take_iff_getElem] at hr
      obtain ⟨j, hj, rfl⟩ := hr
      have := h3 j (by omega)
      simpa [List.getD, show j < l.length by omega] using this
    · simp only [legsTo, List.all_eq_true, List.mem_range]
      exact h4
theorem takenTo_zero (l : List Bk) (g : Int) (k : Bool) : takenTo l g k 0 = 0 := rfl
theorem takenTo_le (l : List Bk) (g : Int) (k : Bool) (j : Nat) : takenTo l g k j ≤ j := by
  unfold takenTo
  have := List.countP_le_length (p := onB g k) (l := l.take j)
  simp at this; omega
theorem takenTo_succ {l : List Bk} {g : Int} {k : Bool} {j : Nat} (h : j < l.length) :
    takenTo l g k (j + 1) = takenTo l g k j + if onB g k (l.getD j bk0) then 1 else 0 := by
  unfold takenTo
  rw [Bk.take_snoc l j h, List.countP_append]
  congr 1
  simp [List.countP_cons]
theorem takenB_le (l : List Bk) (g : Int) (k : Bool) : takenB l g k ≤ l.length := takenTo_le _ _ _ _
theorem takenB_eq (l : List Bk) (g : Int) (k : Bool) : takenB l g k = l.countP (onB g k) := by simp [takenB, takenTo]

/-- The legs of a booking, a bit for each. -/
def maskB (r : Bk) : Nat := 2 ^ r.b.toNat - 2 ^ r.a.toNat
def hasB (x g : Nat) : Bool := x >>> g &&& 1 == 1
theorem mask_lt : ∀ a : Fin 8, ∀ b : Fin 8, a < b → 2 ^ b.val - 2 ^ a.val < 256 := by decide
theorem mask_has : ∀ a : Fin 8, ∀ b : Fin 8, ∀ g : Fin 8, a < b → hasB (2 ^ b.val - 2 ^ a.val) g.val = (decide (a ≤ g) && decide (g < b)) := by decide
set_option maxRecDepth 100000 in
theorem mask_meet : ∀ a : Fin 8, ∀ b : Fin 8, ∀ c : Fin 8, ∀ d : Fin 8, a < b → c < d → ((2 ^ b.val - 2 ^ a.val) &&& (2 ^ d.val - 2 ^ c.val) != 0) = (decide (a < d) && decide (c < b)) := by decide

def meetB (r s : Bk) : Bool := decide (r.a < s.b) && decide (s.a < r.b)
def fit7 (r : Bk) : Prop := 0 ≤ r.a ∧ r.a < r.b ∧ r.b ≤ 7
theorem fit7_of {n : Int} {r : Bk} (hn : n ≤ 7) (h : fitsB n r = true) : fit7 r := by
  have := fitsB_iff.1 h; exact ⟨by omega, by omega, by omega⟩
theorem maskB_lt {r : Bk} (h : fit7 r) : maskB r < 256 := by
  obtain ⟨h0, h1, h2⟩ := h
  exact mask_lt ⟨r.a.toNat, by omega⟩ ⟨r.b.toNat, by omega⟩ (by simp [Fin.lt_def]; omega)
theorem maskB_has {r : Bk} (h : fit7 r) {g : Nat} (hg : g < 8) : hasB (maskB r) g = (decide (r.a ≤ g) && decide ((g : Int) < r.b)) := by
  obtain ⟨h0, h1, h2⟩ := h
  have e := mask_has ⟨r.a.toNat, by omega⟩ ⟨r.b.toNat, by omega⟩ ⟨g, hg⟩ (by simp [Fin.lt_def]; omega)
  unfold maskB
  rw [e]
  have e1 : (⟨r.a.toNat, by omega⟩ : Fin 8) ≤ ⟨g, hg⟩ ↔ r.a ≤ g := by simp [Fin.le_def]
  have e2 : (⟨g, hg⟩ : Fin 8) < ⟨r.b.toNat, by omega⟩ ↔ (g : Int) < r.b := by simp [Fin.lt_def]
  simp only [e1, e2]
theorem maskB_meet {r s : Bk} (hr : fit7 r) (hs : fit7 s) : (maskB r &&& maskB s != 0) = meetB r s := by
  obtain ⟨h0, h1, h2⟩ := hr
  obtain ⟨g0, g1, g2⟩ := hs
  have e := mask_meet ⟨r.a.toNat, by omega⟩ ⟨r.b.toNat, by omega⟩ ⟨s.a.toNat, by omega⟩ ⟨s.b.toNat, by omega⟩ (by simp [Fin.lt_def]; omega) (by simp [Fin.lt_def]; omega)
  unfold maskB meetB
  rw [e]
  have e1 : (⟨r.a.toNat, by omega⟩ : Fin 8) < ⟨s.b.toNat, by omega⟩ ↔ r.a < s.b := by simp [Fin.lt_def]; omega
  have e2 : (⟨s.a.toNat, by omega⟩ : Fin 8) < ⟨r.b.toNat, by omega⟩ ↔ s.a < r.b := by simp [Fin.lt_def]; omega
  simp only [e1, e2]
theorem or_and_ne (x y m : Nat) : ((x ||| y) &&& m != 0) = (x &&& m != 0 || y &&& m != 0) := by
  rw [Nat.and_or_distrib_right, Bool.eq_iff_iff]
  simp only [bne_iff_ne, ne_eq, Bool.or_eq_true, Nat.or_eq_zero_iff]
  omega
theorem hasB_eq (x g : Nat) : hasB x g = x.testBit g := by
  simp only [hasB, Nat.testBit, Nat.and_comm]
  rcases Nat.mod_two_eq_zero_or_one (x >>> g) with h | h <;> simp [Nat.and_one_is_mod, h]
theorem hasB_or (x y g : Nat) : hasB (x ||| y) g = (hasB x g || hasB y g) := by
  simp only [hasB_eq, Nat.testBit_or]
theorem hasB_apart {x y g : Nat} (h : x &&& y = 0) : (hasB x g && hasB y g) = false := by
  simp only [hasB_eq, ← Nat.testBit_and, h, Nat.zero_testBit]
theorem hasB_zero (g : Nat) : hasB 0 g = false := by simp [hasB_eq]
theorem or_lt {x y : Nat} (hx : x < 256) (hy : y < 256) : x ||| y < 256 := Nat.or_lt_two_pow (n := 8) hx hy

/-! ### The plan -/
structure Pl where
  i : List Nat
  o : List Nat
def Pl.row (p : Pl) (k : Bool) : List Nat := match k with | true => p.i | false => p.o
def Pl.put (p : Pl) (k : Bool) (s x : Nat) : Pl := match k with | true => ⟨p.i.set s x, p.o⟩ | false => ⟨p.i, p.o.set s x⟩
def pl0 : Pl := ⟨List.replicate 4 0, List.replicate 6 0⟩
structure PlWf (p : Pl) : Prop where
  i : p.i.length = 4
  o : p.o.length = 6
  ib : ∀ x ∈ p.i, x < 256
  ob : ∀ x ∈ p.o, x < 256
theorem PlWf.len {p : Pl} (h : PlWf p) (k : Bool) : (p.row k).length = seatsB k := by cases k; exact h.o; exact h.i
theorem PlWf.lt {p : Pl} (h : PlWf p) (k : Bool) (s : Nat) : (p.row k).getD s 0 < 256 := by
  by_cases hs : s < (p.row k).length
  · have e : (p.row k).getD s 0 ∈ p.row k := by rw [show (p.row k).getD s 0 = (p.row k)[s] by simp [List.getD, hs]]; exact List.getElem_mem hs
    cases k
    · exact h.ob _ e
    · exact h.ib _ e
  · rw [show (p.row k).getD s 0 = 0 by simp [List.getD, List.getElem?_eq_none (by omega : (p.row k).length ≤ s)]]; omega
theorem pl0_wf : PlWf pl0 := by
  refine ⟨rfl, rfl, ?_, ?_⟩ <;> · intro x hx; have := List.eq_of_mem_replicate hx; omega
theorem Pl.row_put_same (p : Pl) (k : Bool) (s x : Nat) : (p.put k s x).row k = (p.row k).set s x := by cases k <;> rfl
theorem Pl.row_put_other (p : Pl) {k k' : Bool} (h : k ≠ k') (s x : Nat) : (p.put k s x).row k' = p.row k' := by cases k <;> cases k' <;> first | rfl | exact absurd rfl h
theorem PlWf.put {p : Pl} (h : PlWf p) (k : Bool) (s : Nat) {x : Nat} (hx : x < 256) : PlWf (p.put k s x) := by
  cases k
  · exact ⟨h.i, by simp [Pl.put, h.o], h.ib, fun y hy => by rcases List.mem_or_eq_of_mem_set hy with h1 | rfl; exact h.ob _ h1; exact hx⟩
  · exact ⟨by simp [Pl.put, h.i], h.o, fun y hy => by rcases List.mem_or_eq_of_mem_set hy with h1 | rfl; exact h.ib _ h1; exact hx, h.ob⟩

def freeAt (p : Pl) (r : Bk) (s : Nat) : Bool := (p.row r.m).getD s 0 &&& maskB r == 0
def takeAt (p : Pl) (r : Bk) (s : Nat) : Pl := p.put r.m s ((p.row r.m).getD s 0 ||| maskB r)
theorem PlWf.take {p : Pl} (h : PlWf p) {r : Bk} (hr : fit7 r) (s : Nat) : PlWf (takeAt p r s) := h.put _ _ (or_lt (h.lt _ _) (maskB_lt hr))
def leastAt (p : Pl) (r : Bk) : Option Nat := (List.range (seatsB r.m)).find? (freeAt p r)
theorem leastAt_some {p : Pl} {r : Bk} {s : Nat} (hs : s < seatsB r.m) (hf : freeAt p r s = true) (hb : ∀ t, t < s → freeAt p r t = false) : leastAt p r = some s := by
  unfold leastAt
  rw [List.find?_range_eq_some]
  refine ⟨hf, List.mem_range.2 hs, fun j hj => by simp [hb j hj]⟩
theorem leastAt_none {p : Pl} {r : Bk} (hb : ∀ t, t < seatsB r.m → freeAt p r t = false) : leastAt p r = none := by
  unfold leastAt
  rw [List.find?_eq_none]
  intro x hx; simp [hb x (List.mem_range.1 hx)]
theorem leastAt_inv {p : Pl} {r : Bk} {s : Nat} (h : leastAt p r = some s) : s < seatsB r.m ∧ freeAt p r s = true ∧ ∀ t, t < s → freeAt p r t = false := by
  unfold leastAt at h
  rw [List.find?_range_eq_some] at h
  exact ⟨List.mem_range.1 h.2.1, h.1, fun t ht => by simpa using h.2.2 t ht⟩

def stepB (l : List Bk) (st : Option (Pl × List Int)) (i : Nat) : Option (Pl × List Int) :=
  match st with
  | none => none
  | some (p, q) => match leastAt p (l.getD i bk0) with
    | none => none
    | some s => some (takeAt p (l.getD i bk0) s, q.set i (s : Int))
def planTo (l : List Bk) (ord : List Nat) : Option (Pl × List Int) := ord.foldl (stepB l) (some (pl0, List.replicate l.length 0))
theorem planTo_snoc (l : List Bk) (ord : List Nat) (i : Nat) : planTo l (ord ++ [i]) = stepB l (planTo l ord) i := by simp [planTo, List.foldl_append]

structure PInv (l : List Bk) (D : List Nat) (p : Pl) (q : List Int) : Prop where
  wf : PlWf p
  len : q.length = l.length
  bits : ∀ k s, s < seatsB k → ∀ r, fit7 r → (((p.row k).getD s 0 &&& maskB r != 0) = true ↔ ∃ j, j ∈ D ∧ (l.getD j bk0).m = k ∧ q.getD j 0 = (s : Int) ∧ meetB (l.getD j bk0) r = true)
  cnt : ∀ k (g : Nat), g < 8 → (p.row k).countP (fun x => hasB x g) = D.countP fun j => onB g k (l.getD j bk0)

theorem PInv.start (l : List Bk) (q : List Int) (hq : q.length = l.length) : PInv l [] pl0 q := by
  refine ⟨pl0_wf, hq, ?_, ?_⟩
  · intro k s hs r _
    have e : (pl0.row k).getD s 0 = 0 := by
      have hz : ∀ n, (List.replicate n 0).getD s 0 = 0 := fun n => by rw [List.getD, List.getElem?_replicate]; split <;> rfl
      cases k <;> exact hz _
    rw [e]; simp
  · intro k g _
    cases k <;> simp [pl0, Pl.row, hasB_zero]
theorem PInv.zero (l : List Bk) : PInv l [] pl0 (List.replicate l.length 0) := PInv.start l _ (by simp)

theorem countP_set' {α : Type} (f : α → Bool) : ∀ (l : List α) (i : Nat) (d y : α), i < l.length → f (l.getD i d) = false → (l.set i y).countP f = l.countP f + if f y then 1 else 0
  | x :: l, 0, d, y, _, h => by
    simp only [List.getD_cons_zero] at h
    simp [List.countP_cons, h]
  | x :: l, i + 1, d, y, hi, h => by
    have ih := countP_set' f l i d y (by simpa using hi) (by simpa using h)
    simp only [List.set_cons_succ, List.countP_cons, ih]; omega
theorem countP_set'' {α : Type} (f : α → Bool) : ∀ (l : List α) (i : Nat) (d y : α), i < l.length → f y = f (l.getD i d) → (l.set i y).countP f = l.countP f
  | x :: l, 0, d, y, _, h => by
    simp only [List.getD_cons_zero] at h
    simp [List.countP_cons, h]
  | x :: l, i + 1, d, y, hi, h => by
    have ih := countP_set'' f l i d y (by simpa using hi) (by simpa using h)
    simp only [List.set_cons_succ, List.countP_cons, ih]

theorem PInv.add {l : List Bk} {D : List Nat} {p : Pl} {q : List Int} (h : PInv l D p q) {i s : Nat} (hi : i < l.length) (hD : i ∉ D) (hf : fit7 (l.getD i bk0)) (hs1 : s < seatsB (l.getD i bk0).m) (hs2 : freeAt p (l.getD i bk0) s = true) :
    PInv l (D ++ [i]) (takeAt p (l.getD i bk0) s) (q.set i (s : Int)) := by
  obtain ⟨r, hr⟩ : ∃ r, l.getD i bk0 = r := ⟨_, rfl⟩
  rw [hr] at hs1 hs2 hf ⊢
  have hrow : s < (p.row r.m).length := by rw [h.wf.len]; exact hs1
  have qi : (q.set i (s : Int)).getD i 0 = (s : Int) := by simp [List.getD, h.len, hi]
  have qj : ∀ j, j ∈ D → (q.set i (s : Int)).getD j 0 = q.getD j 0 := fun j hj => by
    have : i ≠ j := fun e => hD (e ▸ hj)
    simp [List.getD, this]
  have hz : (p.row r.m).getD s 0 &&& maskB r = 0 := by simpa [freeAt] using hs2
  refine ⟨h.wf.take hf s, by simp [h.len], ?_, ?_⟩
  · intro k t ht r' hr'
    by_cases hk : r.m = k
    · subst hk
      by_cases hts : t = s
      · subst hts
        have e : ((takeAt p r t).row r.m).getD t 0 = (p.row r.m).getD t 0 ||| maskB r := by
          unfold takeAt; rw [Pl.row_put_same]; simp [List.getD, hrow]
        rw [e, or_and_ne, maskB_meet hf hr', Bool.or_eq_true, h.bits r.m t ht r' hr']
        constructor
        · rintro (⟨j, hj, h1, h2, h3⟩ | h1)
          · exact ⟨j, List.mem_append_left _ hj, h1, by rw [qj j hj]; exact h2, h3⟩
          · exact ⟨i, List.mem_append_right _ (List.mem_singleton.2 rfl), by rw [hr], qi, by rw [hr]; exact h1⟩
        · rintro ⟨j, hj, h1, h2, h3⟩
          rcases List.mem_append.1 hj with hj | hj
          · exact Or.inl ⟨j, hj, h1, by rw [← qj j hj]; exact h2, h3⟩
          · obtain rfl := List.mem_singleton.1 hj
            rw [hr] at h3
            exact Or.inr h3
      · have e : ((takeAt p r s).row r.m).getD t 0 = (p.row r.m).getD t 0 := by
          unfold takeAt; rw [Pl.row_put_same]; simp [List.getD, show s ≠ t from fun e => hts e.symm]
        rw [e, h.bits r.m t ht r' hr']
        constructor
        · rintro ⟨j, hj, h1, h2, h3⟩
          exact ⟨j, List.mem_append_left _ hj, h1, by rw [qj j hj]; exact h2, h3⟩
        · rintro ⟨j, hj, h1, h2, h3⟩
          rcases List.mem_append.1 hj with hj | hj
          · exact ⟨j, hj, h1, by rw [← qj j hj]; exact h2, h3⟩
          · obtain rfl := List.mem_singleton.1 hj
            rw [qi] at h2
            exact absurd (by omega : t = s) hts
    · have e : (takeAt p r s).row k = p.row k := Pl.row_put_other p hk _ _
      rw [e, h.bits k t ht r' hr']
      constructor
      · rintro ⟨j, hj, h1, h2, h3⟩
        exact ⟨j, List.mem_append_left _ hj, h1, by rw [qj j hj]; exact h2, h3⟩
      · rintro ⟨j, hj, h1, h2, h3⟩
        rcases List.mem_append.1 hj with hj | hj
        · exact ⟨j, hj, h1, by rw [← qj j hj]; exact h2, h3⟩
        · obtain rfl := List.mem_singleton.1 hj
          rw [hr] at h1
          exact absurd h1 hk
  · intro k g hg
    rw [List.countP_append, ← h.cnt k g hg]
    have e1 : List.countP (fun j => onB g k (l.getD j bk0)) [i] = if onB g k r then 1 else 0 := by simp [List.countP_cons, ← hr]
    rw [e1]
    by_cases hk : r.m = k
    · subst hk
      unfold takeAt
      rw [Pl.row_put_same]
      have hon : onB g r.m r = hasB (maskB r) g := by rw [maskB_has hf hg]; simp [onB]
      rw [hon]
      cases hx : hasB ((p.row r.m).getD s 0) g with
      | true =>
        have hm : hasB (maskB r) g = false := by have := hasB_apart (g := g) hz; rw [hx] at this; simpa using this
        rw [hm, countP_set'' _ _ _ 0 _ hrow (by rw [hasB_or, hx]; rfl)]; rfl
      | false => rw [countP_set' _ _ _ 0 _ hrow hx, hasB_or, hx, Bool.false_or]
    · have e : (takeAt p r s).row k = p.row k := Pl.row_put_other p hk _ _
      rw [e]
      have : onB g k r = false := by
        unfold onB; rw [show (r.m == k) = false by simpa using hk]; rfl
      rw [this]; rfl

theorem PInv.step {l : List Bk} {D : List Nat} {p : Pl} {q : List Int} (h : PInv l D p q) {i s : Nat} (hi : i < l.length) (hD : i ∉ D) (hf : fit7 (l.getD i bk0)) (hs : leastAt p (l.getD i bk0) = some s) :
    PInv l (D ++ [i]) (takeAt p (l.getD i bk0) s) (q.set i (s : Int)) := by
  obtain ⟨hs1, hs2, _⟩ := leastAt_inv hs
  exact h.add hi hD hf hs1 hs2

/-! ### The order -/
def befB (l : List Bk) (i j : Nat) : Prop := (l.getD i bk0).a < (l.getD j bk0).a ∨ ((l.getD i bk0).a = (l.getD j bk0).a ∧ i < j)
def leB (l : List Bk) (i j : Nat) : Bool := decide ((l.getD i bk0).a < (l.getD j bk0).a) || (decide ((l.getD i bk0).a = (l.getD j bk0).a) && decide (i ≤ j))
theorem leB_iff {l : List Bk} {i j : Nat} : leB l i j = true ↔ (l.getD i bk0).a < (l.getD j bk0).a ∨ ((l.getD i bk0).a = (l.getD j bk0).a ∧ i ≤ j) := by simp [leB]
def orderB (l : List Bk) : List Nat := (List.range l.length).mergeSort (leB l)
theorem orderB_perm (l : List Bk) : (orderB l).Perm (List.range l.length) := List.mergeSort_perm _ _
theorem orderB_nodup (l : List Bk) : (orderB l).Nodup := (orderB_perm l).nodup_iff.2 List.nodup_range
theorem orderB_mem {l : List Bk} {i : Nat} : i ∈ orderB l ↔ i < l.length := by rw [(orderB_perm l).mem_iff, List.mem_range]
theorem leB_trans (l : List Bk) (i j k : Nat) (h1 : leB l i j = true) (h2 : leB l j k = true) : leB l i k = true := by
  rw [leB_iff] at *; omega
theorem leB_total (l : List Bk) (i j : Nat) : (leB l i j || leB l j i) = true := by
  rw [Bool.or_eq_true, leB_iff, leB_iff]; omega
theorem leB_antisymm {l : List Bk} {i j : Nat} (h1 : leB l i j = true) (h2 : leB l j i = true) : i = j := by
  rw [leB_iff] at *; omega
theorem orderB_sorted (l : List Bk) : (orderB l).Pairwise fun i j => leB l i j = true := List.pairwise_mergeSort (leB_trans l) (leB_total l) _
theorem orderB_only {l : List Bk} {o : List Nat} (hp : o.Perm (List.range l.length)) (hs : o.Pairwise fun i j => leB l i j = true) : o = orderB l :=
  List.Perm.eq_of_pairwise (fun _ _ _ _ h1 h2 => leB_antisymm h1 h2) hs (orderB_sorted l) (hp.trans (orderB_perm l).symm)
theorem orderB_length (l : List Bk) : (orderB l).length = l.length := by rw [(orderB_perm l).length_eq, List.length_range]
/-- Those ahead in the order are just those before. -/
theorem orderB_ahead {l : List Bk} {A B : List Nat} {i : Nat} (h : orderB l = A ++ i :: B) {j : Nat} : j ∈ A ↔ j < l.length ∧ befB l j i := by
  have hs := orderB_sorted l
  have hn := orderB_nodup l
  rw [h] at hs hn
  constructor
  · intro hj
    refine ⟨orderB_mem.1 (by rw [h]; exact List.mem_append_left _ hj), ?_⟩
    have h1 := (List.pairwise_append.1 hs).2.2 j hj i (List.mem_cons_self)
    have h2 := (List.nodup_append.1 hn).2.2 j hj i (List.mem_cons_self)
    rw [leB_iff] at h1
    unfold befB; omega
  · rintro ⟨hj, hb⟩
    have hm : j ∈ A ++ i :: B := by rw [← h]; exact orderB_mem.2 hj
    rcases List.mem_append.1 hm with hm | hm
    · exact hm
    · rcases List.mem_cons.1 hm with rfl | hm
      · unfold befB at hb; omega
      · have h1 := (List.pairwise_cons.1 (List.pairwise_append.1 hs).2.1).1 j hm
        rw [leB_iff] at h1
        unfold befB at hb; omega

def planB (l : List Bk) : Option (Pl × List Int) := planTo l (orderB l)
theorem planTo_none {l : List Bk} : ∀ (B : List Nat), B.foldl (stepB l) none = none
  | [] => rfl
  | _ :: B => planTo_none B
theorem planB_none {l : List Bk} {A B : List Nat} {i : Nat} (h : orderB l = A ++ i :: B) (hn : planTo l (A ++ [i]) = none) : planB l = none := by
  unfold planB
  rw [h, show A ++ i :: B = (A ++ [i]) ++ B by simp]
  unfold planTo at hn ⊢
  rw [List.foldl_append, hn, planTo_none]


def ordAt (l : List Bk) (k : Nat) : Nat := (orderB l).getD k 0
theorem ordAt_lt {l : List Bk} {k : Nat} (h : k < l.length) : ordAt l k < l.length := by
  have hk : k < (orderB l).length := by rw [orderB_length]; exact h
  refine orderB_mem.1 ?_
  rw [ordAt, List.getD, List.getElem?_eq_getElem hk]
  exact List.getElem_mem hk
theorem ord_split {l : List Bk} {k : Nat} (h : k < l.length) : orderB l = (orderB l).take k ++ ordAt l k :: (orderB l).drop (k + 1) := by
  have hk : k < (orderB l).length := by rw [orderB_length]; exact h
  have e : ordAt l k = (orderB l)[k] := by rw [ordAt, List.getD, List.getElem?_eq_getElem hk]; rfl
  rw [e, List.getElem_cons_drop hk, List.take_append_drop]
theorem ord_take {l : List Bk} {k : Nat} (h : k < l.length) : (orderB l).take (k + 1) = (orderB l).take k ++ [ordAt l k] := by
  have hk : k < (orderB l).length := by rw [orderB_length]; exact h
  rw [List.take_succ_eq_append_getElem hk, ordAt, List.getD, List.getElem?_eq_getElem hk]; rfl
/-- What stands behind k bookings of the order. -/
def planAt (l : List Bk) (k : Nat) : Option (Pl × List Int) := planTo l ((orderB l).take k)
theorem planAt_zero (l : List Bk) : planAt l 0 = some (pl0, List.replicate l.length 0) := rfl
theorem planAt_end (l : List Bk) : planAt l l.length = planB l := by
  unfold planAt planB; rw [← orderB_length l, List.take_length]
theorem planAt_succ {l : List Bk} {k : Nat} (h : k < l.length) : planAt l (k + 1) = stepB l (planAt l k) (ordAt l k) := by
  unfold planAt; rw [ord_take h, planTo_snoc]
theorem planAt_none {l : List Bk} {k : Nat} (h : k < l.length) (hn : planAt l (k + 1) = none) : planB l = none :=
  planB_none (ord_split h) (by rw [← ord_take h]; exact hn)
theorem notin_take {l : List Bk} {k : Nat} (h : k < l.length) : ordAt l k ∉ (orderB l).take k := fun hm => by
  have := (orderB_ahead (ord_split h)).1 hm
  unfold befB at this; omega

theorem planAt_inv {l : List Bk} (hf : ∀ i, i < l.length → fit7 (l.getD i bk0)) : ∀ {k : Nat} {p : Pl} {q : List Int}, k ≤ l.length → planAt l k = some (p, q) → PInv l ((orderB l).take k) p q
  | 0, p, q, _, h => by
    rw [planAt_zero] at h
    simp only [Option.some.injEq, Prod.mk.injEq] at h
    obtain ⟨rfl, rfl⟩ := h
    exact PInv.zero l
  | k + 1, p, q, hk, h => by
    rw [planAt_succ hk] at h
    cases hp : planAt l k with
    | none => rw [hp] at h; cases h
    | some pq =>
      obtain ⟨p0, q0⟩ := pq
      rw [hp] at h
      simp only [stepB] at h
      cases hs : leastAt p0 (l.getD (ordAt l k) bk0) with
      | none => rw [hs] at h; cases h
      | some s =>
        rw [hs] at h
        simp only [Option.some.injEq, Prod.mk.injEq] at h
        obtain ⟨rfl, rfl⟩ := h
        rw [ord_take hk]
        exact (planAt_inv hf (by omega) hp).step (ordAt_lt hk) (notin_take hk) (hf _ (ordAt_lt hk)) hs

theorem countP_getD {l : List Bk} (f : Bk → Bool) : (List.range l.length).countP (fun j => f (l.getD j bk0)) = l.countP f := by
  have e : (List.range l.length).map (fun j => l.getD j bk0) = l := by
    apply List.ext_getElem (by simp)
    intro i h1 h2
    simp [List.getD, h2]
  conv => rhs; rw [← e]
  rw [List.countP_map]; rfl

/-- Where all get a seat, on each leg the seats that are taken are the bookings. -/
theorem planB_cnt {l : List Bk} (hf : ∀ i, i < l.length → fit7 (l.getD i bk0)) {p : Pl} {q : List Int} (h : planB l = some (p, q)) (k : Bool) {g : Nat} (hg : g < 8) :
    (p.row k).countP (fun x => hasB x g) = takenB l g k := by
  rw [← planAt_end] at h
  have hI := planAt_inv hf (Nat.le_refl _) h
  rw [hI.cnt k g hg, ← orderB_length l, List.take_length, takenB_eq, ← countP_getD, (orderB_perm l).countP_eq]
theorem planB_some_leg {l : List Bk} (hf : ∀ i, i < l.length → fit7 (l.getD i bk0)) {p : Pl} {q : List Int} (h : planB l = some (p, q)) {g : Nat} (hg : g < 8) : legOK l g = true := by
  have h' := h
  rw [← planAt_end] at h'
  have hI := planAt_inv hf (Nat.le_refl _) h'
  have h1 := planB_cnt hf h true hg
  have h2 := planB_cnt hf h false hg
  have l1 := List.countP_le_length (p := fun x => hasB x g) (l := p.row true)
  have l2 := List.countP_le_length (p := fun x => hasB x g) (l := p.row false)
  rw [hI.wf.len, h1] at l1
  rw [hI.wf.len, h2] at l2
  simp only [legOK, Bool.and_eq_true, decide_eq_true_eq]
  exact ⟨l1, l2⟩
/-- Where one gets none, there are too many on its first leg. -/
theorem planB_none_leg {l : List Bk} (hf : ∀ i, i < l.length → fit7 (l.getD i bk0)) (h : planB l = none) : ∃ i, i < l.length ∧ legOK l (l.getD i bk0).a.toNat = false := by
  -- the first place at which it goes wrong
  have hex : ∃ k, k < l.length ∧ (∃ p q, planAt l k = some (p, q)) ∧ planAt l (k + 1) = none := by
    have : ∀ n, n ≤ l.length → planAt l n = none → ∃ k, k < l.length ∧ (∃ p q, planAt l k = some (p, q)) ∧ planAt l (k + 1) = none := by
      intro n
      induction n with
      | zero => intro _ h0; rw [planAt_zero] at h0; cases h0
      | succ n ih =>
        intro hn h0
        cases hp : planAt l n with
        | none => exact ih (by omega) hp
        | some pq => exact ⟨n, by omega, ⟨pq.1, pq.2, hp⟩, h0⟩
    exact this l.length (Nat.le_refl _) (by rw [planAt_end]; exact h)
  obtain ⟨k, hk, ⟨p, q, hp⟩, hn⟩ := hex
  have hI := planAt_inv hf (by omega) hp
  rw [planAt_succ hk, hp] at hn
  obtain ⟨i, hi⟩ : ∃ i, ordAt l k = i := ⟨_, rfl⟩
  have hil : i < l.length := hi ▸ ordAt_lt hk
  rw [hi] at hn
  obtain ⟨r, hr⟩ : ∃ r, l.getD i bk0 = r := ⟨_, rfl⟩
  have hfr : fit7 r := hr ▸ hf i hil
  simp only [stepB, hr] at hn
  have hno : ∀ s, s < seatsB r.m → freeAt p r s = false := by
    cases hs : leastAt p r with
    | some s => rw [hs] at hn; cases hn
    | none =>
      unfold leastAt at hs
      rw [List.find?_eq_none] at hs
      intro s hs'
      simpa using hs s (List.mem_range.2 hs')
  obtain ⟨h0, h1, h2⟩ := hfr
  have hg : r.a.toNat < 8 := by omega
  have hga : ((r.a.toNat : Nat) : Int) = r.a := by omega
  -- each seat is taken on the first leg
  have hall : ∀ s, s < seatsB r.m → hasB ((p.row r.m).getD s 0) r.a.toNat = true := fun s hs => by
    have h3 : ((p.row r.m).getD s 0 &&& maskB r != 0) = true := by
      have := hno s hs
      simp only [freeAt, beq_eq_false_iff_ne, ne_eq] at this
      simpa using this
    obtain ⟨j, hj, j1, j2, j3⟩ := (hI.bits r.m s hs r ⟨h0, h1, h2⟩).1 h3
    have hb := ((orderB_ahead (ord_split hk)).1 hj).2
    rw [hi] at hb
    simp only [meetB, Bool.and_eq_true, decide_eq_true_eq] at j3
    have hle : (l.getD j bk0).a ≤ r.a := by unfold befB at hb; rw [hr] at hb; omega
    -- the bit, by the booking of this leg alone
    have hone : fit7 ⟨r.a, r.a + 1, r.m⟩ := ⟨h0, by show r.a < r.a + 1; omega, by show r.a + 1 ≤ 7; omega⟩
    have hbit := (hI.bits r.m s hs ⟨r.a, r.a + 1, r.m⟩ hone).2 ⟨j, hj, j1, j2, by simp only [meetB, Bool.and_eq_true, decide_eq_true_eq]; exact ⟨by omega, by omega⟩⟩
    have hx := hI.wf.lt r.m s
    generalize (p.row r.m).getD s 0 = x at hbit hx
    have e : maskB ⟨r.a, r.a + 1, r.m⟩ = 2 ^ r.a.toNat := by
      unfold maskB
      have : (r.a + 1).toNat = r.a.toNat + 1 := by omega
      simp only [this, Nat.pow_succ]; omega
    rw [e] at hbit
    rw [hasB_eq]
    cases hb2 : x.testBit r.a.toNat with
    | true => rfl
    | false =>
      exfalso
      have : x &&& 2 ^ r.a.toNat = 0 := by
        apply Nat.eq_of_testBit_eq
        intro j
        rw [Nat.testBit_and, Nat.zero_testBit, Nat.testBit_two_pow]
        by_cases hj : r.a.toNat = j
        · subst hj; rw [hb2]; rfl
        · simp [hj]
      rw [this] at hbit; simp at hbit
  have hfull : (p.row r.m).countP (fun x => hasB x r.a.toNat) = seatsB r.m := by
    rw [← hI.wf.len r.m]
    rw [List.countP_eq_length]
    intro x hx
    obtain ⟨s, hs, rfl⟩ := List.getElem_of_mem hx
    have := hall s (by rw [← hI.wf.len]; exact hs)
    simpa [List.getD, hs] using this
  have hc := hI.cnt r.m r.a.toNat hg
  rw [hfull] at hc
  -- with this one there are too many
  have hmore : seatsB r.m + 1 ≤ takenB l r.a.toNat r.m := by
    rw [takenB_eq, ← countP_getD, ← (orderB_perm l).countP_eq, ord_split hk, List.countP_append, List.countP_cons, ← hc, hi]
    have : onB (r.a.toNat : Nat) r.m (l.getD i bk0) = true := by rw [hr]; simp [onB]; omega
    rw [this]; simp
  refine ⟨i, hil, ?_⟩
  rw [hr]
  rw [Bool.eq_false_iff]
  intro hl
  simp only [legOK, Bool.and_eq_true, decide_eq_true_eq] at hl
  cases hm : r.m with
  | true => rw [hm] at hmore; have e : seatsB true = 4 := rfl; rw [e] at hmore; have := hl.1; omega
  | false => rw [hm] at hmore; have e : seatsB false = 6 := rfl; rw [e] at hmore; have := hl.2; omega

theorem okB_fit7 {n : Int} {l : List Bk} (h : okB n l = true) : ∀ i, i < l.length → fit7 (l.getD i bk0) := fun i hi => by
  simp only [okB, Bool.and_eq_true, decide_eq_true_eq] at h
  have := legB_iff.1 h.1.1
  exact fit7_of this.2 (fitTo_at h.2 hi hi)
/-- Bookings are just those that all get a seat. -/
theorem validB_plan {n : Int} {l : List Bk} : validB n l = (okB n l && (planB l).isSome) := by
  unfold validB
  cases h : okB n l with
  | false => rfl
  | true =>
    have hf := okB_fit7 h
    simp only [okB, Bool.and_eq_true, decide_eq_true_eq] at h
    have hn := legB_iff.1 h.1.1
    rw [Bool.true_and, Bool.true_and]
    cases hp : planB l with
    | some pq =>
      have : legsTo l n.toNat = true := by
        simp only [legsTo, List.all_eq_true, List.mem_range]
        intro g hg
        exact planB_some_leg hf (p := pq.1) (q := pq.2) hp (by omega)
      rw [this]; rfl
    | none =>
      obtain ⟨i, hi, hl⟩ := planB_none_leg hf hp
      have h1 := fitsB_iff.1 (fitTo_at h.2 hi hi)
      rw [legsTo_no (j := (l.getD i bk0).a.toNat) (by omega) hl]; rfl

theorem plan_some {n : Int} {l : List Bk} (h : validB n l = true) : ∃ p q, planB l = some (p, q) ∧ True := by
  rw [validB_plan] at h
  simp only [Bool.and_eq_true] at h
  cases hp : planB l with
  | none => rw [hp] at h; cases h.2
  | some pq => exact ⟨pq.1, pq.2, rfl, trivial⟩

/-- What the seating is: the least seat that is free of those before. -/
theorem planB_seat {l : List Bk} (hf : ∀ i, i < l.length → fit7 (l.getD i bk0)) {p : Pl} {q : List Int} (h : planB l = some (p, q)) :
    q.length = l.length ∧ ∀ i, i < l.length → ∃ s : Nat, q.getD i 0 = (s : Int) ∧ s < seatsB (l.getD i bk0).m ∧
      (∀ j, j < l.length → befB l j i → (l.getD j bk0).m = (l.getD i bk0).m → meetB (l.getD j bk0) (l.getD i bk0) = true → q.getD j 0 ≠ (s : Int)) ∧
      (∀ t : Nat, t < s → ∃ j, j < l.length ∧ befB l j i ∧ (l.getD j bk0).m = (l.getD i bk0).m ∧ meetB (l.getD j bk0) (l.getD i bk0) = true ∧ q.getD j 0 = (t : Int)) := by
  have key : ∀ k, k ≤ l.length → ∀ p q, planAt l k = some (p, q) → ∀ i, i ∈ (orderB l).take k → ∃ s : Nat, q.getD i 0 = (s : Int) ∧ s < seatsB (l.getD i bk0).m ∧
      (∀ j, j < l.length → befB l j i → (l.getD j bk0).m = (l.getD i bk0).m → meetB (l.getD j bk0) (l.getD i bk0) = true → q.getD j 0 ≠ (s : Int)) ∧
      (∀ t : Nat, t < s → ∃ j, j < l.length ∧ befB l j i ∧ (l.getD j bk0).m = (l.getD i bk0).m ∧ meetB (l.getD j bk0) (l.getD i bk0) = true ∧ q.getD j 0 = (t : Int)) := by
    intro k
    induction k with
    | zero => intro _ p q _ i hi; simp at hi
    | succ k ih =>
      intro hk p q h i hi
      rw [planAt_succ hk] at h
      cases hp : planAt l k with
      | none => rw [hp] at h; cases h
      | some pq =>
        obtain ⟨p0, q0⟩ := pq
        rw [hp] at h
        simp only [stepB] at h
        have hI := planAt_inv hf (by omega) hp
        cases hs : leastAt p0 (l.getD (ordAt l k) bk0) with
        | none => rw [hs] at h; cases h
        | some s =>
          rw [hs] at h
          simp only [Option.some.injEq, Prod.mk.injEq] at h
          obtain ⟨rfl, rfl⟩ := h
          have hol := ordAt_lt hk
          have hah : ∀ j, j ∈ (orderB l).take k ↔ j < l.length ∧ befB l j (ordAt l k) := fun j => orderB_ahead (ord_split hk)
          have hin : ∀ i, i ∈ (orderB l).take (k + 1) → i ≠ ordAt l k → i ∈ (orderB l).take k := fun i hi hne => by
            rw [ord_take hk] at hi
            rcases List.mem_append.1 hi with hi | hi
            · exact hi
            · exact absurd (List.mem_singleton.1 hi) hne
          generalize ordAt l k = x at *
          have qx : (q0.set x (s : Int)).getD x 0 = (s : Int) := by simp [List.getD, hI.len, hol]
          have qj : ∀ j, j ≠ x → (q0.set x (s : Int)).getD j 0 = q0.getD j 0 := fun j hj => by simp [List.getD, show x ≠ j from fun e => hj e.symm]
          by_cases hix : i = x
          · subst hix
            obtain ⟨s1, s2, s3⟩ := leastAt_inv hs
            have s2' : ((p0.row (l.getD i bk0).m).getD s 0 &&& maskB (l.getD i bk0) != 0) = false := by
              simp only [freeAt, beq_iff_eq] at s2; rw [s2]; rfl
            refine ⟨s, qx, s1, ?_, ?_⟩
            · intro j hj hb hm hme he
              have hji : j ≠ i := fun e => by subst e; unfold befB at hb; omega
              rw [qj j hji] at he
              rw [(hI.bits _ s s1 _ (hf i hol)).2 ⟨j, (hah j).2 ⟨hj, hb⟩, hm, he, hme⟩] at s2'
              cases s2'
            · intro t ht
              have := s3 t ht
              have h3 : ((p0.row (l.getD i bk0).m).getD t 0 &&& maskB (l.getD i bk0) != 0) = true := by
                simp only [freeAt, beq_eq_false_iff_ne, ne_eq] at this; simpa using this
              obtain ⟨j, hj, j1, j2, j3⟩ := (hI.bits _ t (by omega) _ (hf i hol)).1 h3
              obtain ⟨hjl, hb⟩ := (hah j).1 hj
              have hji : j ≠ i := fun e => by subst e; unfold befB at hb; omega
              exact ⟨j, hjl, hb, j1, j3, by rw [qj j hji]; exact j2⟩
          · have hi' : i ∈ (orderB l).take k := hin i hi hix
            obtain ⟨s', e1, e2, e3, e4⟩ := ih (by omega) p0 q0 hp i hi'
            have hbi := ((hah i).1 hi').2
            have hne : ∀ j, befB l j i → j ≠ x := fun j hj e => by subst e; unfold befB at hj hbi; omega
            refine ⟨s', by rw [qj i hix]; exact e1, e2, ?_, ?_⟩
            · intro j hj hb hm hme
              rw [qj j (hne j hb)]
              exact e3 j hj hb hm hme
            · intro t ht
              obtain ⟨j, hj, hb, hm, hme, he⟩ := e4 t ht
              exact ⟨j, hj, hb, hm, hme, by rw [qj j (hne j hb)]; exact he⟩
  rw [← planAt_end] at h
  refine ⟨(planAt_inv hf (Nat.le_refl _) h).len, fun i hi => key _ (Nat.le_refl _) p q h i ?_⟩
  rw [← orderB_length l, List.take_length]
  exact orderB_mem.2 hi

end Go.Proofs.Ytlkhgnglblgldaa
