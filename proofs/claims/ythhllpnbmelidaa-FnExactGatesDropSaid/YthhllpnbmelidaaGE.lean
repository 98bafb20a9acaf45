/- Gates: validity, indexes, tickets; no program. -/
import Derived.Test.YthhllpnbmelidaaGA
import Derived.Test.YthhllpnbmelidaaCI
namespace Go.Proofs.Ythhllpnbmelidaa
set_option linter.unusedVariables false
set_option linter.unusedSimpArgs false

/-! ### gates -/
def fitsG (g : Gt) : Bool := decide (0 ≤ g.a) && decide (g.a ≤ 999) && decide (0 ≤ g.b) && decide (g.b ≤ 3) && decide (1 ≤ g.m) && decide (g.m ≤ 99)
/-- The mile of the gate before the k-th. -/
def lastG (l : List Gt) (k : Nat) : Int := match k with | 0 => -1 | j + 1 => (l.getD j gt0).a
def okG (l : List Gt) (k : Nat) : Bool := fitsG (l.getD k gt0) && decide (lastG l k < (l.getD k gt0).a)
def okToG (l : List Gt) (k : Nat) : Bool := (List.range k).all (okG l)
def validG (l : List Gt) : Bool := decide (l.length ≤ 10) && okToG l l.length

theorem okToG_succ (l : List Gt) (k : Nat) : okToG l (k + 1) = (okToG l k && okG l k) := by
  simp [okToG, List.range_succ]
theorem okToG_at {l : List Gt} {k j : Nat} (h : okToG l k = true) (hj : j < k) : okG l j = true := by
  simp only [okToG, List.all_eq_true, List.mem_range] at h
  exact h j hj
theorem okToG_all {l : List Gt} {k : Nat} (h : ∀ j, j < k → okG l j = true) : okToG l k = true := by
  simp only [okToG, List.all_eq_true, List.mem_range]
  exact h
theorem fitsG_iff (g : Gt) : fitsG g = true ↔ 0 ≤ g.a ∧ g.a ≤ 999 ∧ 0 ≤ g.b ∧ g.b ≤ 3 ∧ 1 ≤ g.m ∧ g.m ≤ 99 := by
  simp [fitsG, Bool.and_eq_true, and_assoc]
theorem okG_iff (l : List Gt) (k : Nat) : okG l k = true ↔ fitsG (l.getD k gt0) = true ∧ lastG l k < (l.getD k gt0).a := by
  simp [okG, Bool.and_eq_true]
theorem validG_no {l : List Gt} {i : Nat} (hi : i < l.length) (h : okG l i = false) : validG l = false := by
  rw [Bool.eq_false_iff]
  intro h'
  simp only [validG, Bool.and_eq_true] at h'
  rw [okToG_at h'.2 hi] at h; cases h
theorem validG_long {l : List Gt} (h : ¬ l.length ≤ 10) : validG l = false := by
  rw [Bool.eq_false_iff]
  intro h'
  simp only [validG, Bool.and_eq_true, decide_eq_true_eq] at h'
  exact h h'.1
theorem validG_yes {l : List Gt} (h : l.length ≤ 10) (h' : okToG l l.length = true) : validG l = true := by
  simp [validG, h, h']
theorem validG_iff {l : List Gt} : validG l = true ↔ l.length ≤ 10 ∧ ∀ i, i < l.length → okG l i = true := by
  constructor
  · intro h
    simp only [validG, Bool.and_eq_true, decide_eq_true_eq] at h
    exact ⟨h.1, fun i hi => okToG_at h.2 hi⟩
  · rintro ⟨h, h'⟩
    exact validG_yes h (okToG_all h')
/-- What valid gates have at each place. -/
theorem validG_at {l : List Gt} (h : validG l = true) {i : Nat} (hi : i < l.length) :
    0 ≤ (l.getD i gt0).a ∧ (l.getD i gt0).a ≤ 999 ∧ 0 ≤ (l.getD i gt0).b ∧ (l.getD i gt0).b ≤ 3 ∧ 1 ≤ (l.getD i gt0).m ∧ (l.getD i gt0).m ≤ 99 ∧ lastG l i < (l.getD i gt0).a := by
  obtain ⟨_, h2⟩ := validG_iff.1 h
  obtain ⟨h3, h4⟩ := (okG_iff _ _).1 (h2 i hi)
  have := (fitsG_iff _).1 h3
  omega
theorem validG_lt {l : List Gt} (h : validG l = true) {j i : Nat} (hj : j < i) (hi : i < l.length) : (l.getD j gt0).a < (l.getD i gt0).a := by
  induction i with
  | zero => omega
  | succ n ih =>
    have hl : lastG l (n + 1) < (l.getD (n + 1) gt0).a := (validG_at h hi).2.2.2.2.2.2
    by_cases e : j = n
    · rw [e]; exact hl
    · have h1 := ih (by omega) (by omega)
      have h2 : (l.getD n gt0).a < (l.getD (n + 1) gt0).a := hl
      omega

/-! ### indexes -/
/-- The gate with an index. -/
def gAt (l : List Gt) (k : Int) : Gt := l.getD k.toNat gt0
/-- The indexes below k of the gates of which p holds, ascending. -/
def whereTo (p : Gt → Bool) (l : List Gt) (k : Nat) : List Int := ((List.range k).filter (fun i => p (l.getD i gt0))).map (fun (i : Nat) => (i : Int))
def whereG (p : Gt → Bool) (l : List Gt) : List Int := whereTo p l l.length
theorem whereTo_zero (p : Gt → Bool) (l : List Gt) : whereTo p l 0 = [] := rfl
theorem whereTo_succ (p : Gt → Bool) (l : List Gt) (k : Nat) : whereTo p l (k + 1) = if p (l.getD k gt0) = true then whereTo p l k ++ [(k : Int)] else whereTo p l k := by
  unfold whereTo
  rw [List.range_succ, List.filter_append, List.map_append]
  by_cases h : p (l.getD k gt0) = true
  · simp only [h, List.filter_cons_of_pos, List.filter_nil, List.map_cons, List.map_nil, if_true]
  · rw [if_neg h, List.filter_cons_of_neg (by simpa using h)]; simp
theorem whereTo_len (p : Gt → Bool) (l : List Gt) (k : Nat) : (whereTo p l k).length ≤ k := by
  unfold whereTo
  rw [List.length_map]
  exact Nat.le_trans (List.length_filter_le _ _) (by simp)
theorem whereTo_mem {p : Gt → Bool} {l : List Gt} {k : Nat} {x : Int} : x ∈ whereTo p l k ↔ ∃ i : Nat, i < k ∧ x = (i : Int) ∧ p (l.getD i gt0) = true := by
  unfold whereTo
  simp only [List.mem_map, List.mem_filter, List.mem_range]
  constructor
  · rintro ⟨i, ⟨h1, h2⟩, rfl⟩; exact ⟨i, h1, rfl, h2⟩
  · rintro ⟨i, h1, rfl, h2⟩; exact ⟨i, ⟨h1, h2⟩, rfl⟩
theorem whereG_mem {p : Gt → Bool} {l : List Gt} {x : Int} : x ∈ whereG p l ↔ 0 ≤ x ∧ x < l.length ∧ p (gAt l x) = true := by
  unfold whereG gAt
  rw [whereTo_mem]
  constructor
  · rintro ⟨i, h1, rfl, h2⟩; exact ⟨by omega, by omega, by simpa using h2⟩
  · rintro ⟨h0, h1, h2⟩; exact ⟨x.toNat, by omega, by omega, h2⟩
theorem whereG_len (p : Gt → Bool) (l : List Gt) : (whereG p l).length ≤ l.length := whereTo_len p l _

/-- Strictly ascending. -/
def Asc (s : List Int) : Prop := s.Pairwise (· < ·)
theorem whereTo_asc (p : Gt → Bool) (l : List Gt) (k : Nat) : Asc (whereTo p l k) := by
  induction k with
  | zero => exact List.Pairwise.nil
  | succ k ih =>
    rw [whereTo_succ]
    split
    · unfold Asc
      rw [List.pairwise_append]
      refine ⟨ih, List.pairwise_singleton _ _, fun x hx y hy => ?_⟩
      obtain ⟨i, hi, rfl, _⟩ := whereTo_mem.1 hx
      simp only [List.mem_singleton] at hy
      omega
    · exact ih
theorem whereG_asc (p : Gt → Bool) (l : List Gt) : Asc (whereG p l) := whereTo_asc p l _
theorem Asc.cons_lt {k : Int} {s : List Int} (h : Asc (k :: s)) {x : Int} (hx : x ∈ s) : k < x := by
  unfold Asc at h
  rw [List.pairwise_cons] at h
  exact h.1 x hx
theorem Asc.tail {k : Int} {s : List Int} (h : Asc (k :: s)) : Asc s := by
  unfold Asc at h ⊢
  rw [List.pairwise_cons] at h
  exact h.2
/-- Ascending lists with the same members are the same. -/
theorem Asc.ext : ∀ {s t : List Int}, Asc s → Asc t → (∀ x, x ∈ s ↔ x ∈ t) → s = t
  | [], [], _, _, _ => rfl
  | [], y :: t, _, _, h => by have := (h y).2 (List.mem_cons_self); cases this
  | x :: s, [], _, _, h => by have := (h x).1 (List.mem_cons_self); cases this
  | x :: s, y :: t, hs, ht, h => by
    have hxy : x = y := by
      have h1 := (h x).1 List.mem_cons_self
      have h2 := (h y).2 List.mem_cons_self
      rw [List.mem_cons] at h1 h2
      rcases h1 with h1 | h1
      · exact h1
      · rcases h2 with h2 | h2
        · exact h2.symm
        · have := hs.cons_lt h2; have := ht.cons_lt h1; omega
    subst hxy
    rw [Asc.ext hs.tail ht.tail (fun z => ?_)]
    constructor
    · intro hz
      have h1 := (h z).1 (List.mem_cons_of_mem _ hz)
      rw [List.mem_cons] at h1
      rcases h1 with h1 | h1
      · have := hs.cons_lt hz; omega
      · exact h1
    · intro hz
      have h1 := (h z).2 (List.mem_cons_of_mem _ hz)
      rw [List.mem_cons] at h1
      rcases h1 with h1 | h1
      · have := ht.cons_lt hz; omega
      · exact h1

/-! ### ways, tickets -/
def okEnds (f t : Int) : Bool := inB f 0 1000 && inB t 0 1000
def okT (l : List Gt) (free f t : Int) : Bool := validG l && inB f 0 1000 && inB t 0 1000 && inB free 0 999
def inW (f t : Int) (g : Gt) : Bool := decide (f ≤ g.a) && decide (g.a < t)
/-- The gates that are passed. -/
def passL (l : List Gt) (f t : Int) : List Int := whereG (inW f t) l
def passOk (l : List Gt) (f t : Int) : Bool := validG l && okEnds f t
def passX (l : List Gt) (f t : Int) : List Int := if passOk l f t = true then passL l f t else []
def trustX (l : List Gt) (t : Int) : List Int := if validG l = true then whereG (fun g => decide (g.b = t)) l else []

/-- Indexes of gates, ascending. -/
structure Pas (l : List Gt) (s : List Int) : Prop where
  v : validG l = true
  i : ∀ k ∈ s, 0 ≤ k ∧ k < l.length
  asc : Asc s
theorem Pas.tail {l : List Gt} {k : Int} {s : List Int} (h : Pas l (k :: s)) : Pas l s := ⟨h.v, fun x hx => h.i x (List.mem_cons_of_mem _ hx), h.asc.tail⟩
theorem Pas.head {l : List Gt} {k : Int} {s : List Int} (h : Pas l (k :: s)) : 0 ≤ k ∧ k < l.length := h.i k List.mem_cons_self
theorem Pas.filter {l : List Gt} {s : List Int} (h : Pas l s) (p : Int → Bool) : Pas l (s.filter p) :=
  ⟨h.v, fun x hx => h.i x (List.mem_filter.1 hx).1, h.asc.filter p⟩
theorem gAt_ok {l : List Gt} (h : validG l = true) {k : Int} (hk : 0 ≤ k ∧ k < l.length) :
    0 ≤ (gAt l k).a ∧ (gAt l k).a ≤ 999 ∧ 0 ≤ (gAt l k).b ∧ (gAt l k).b ≤ 3 ∧ 1 ≤ (gAt l k).m ∧ (gAt l k).m ≤ 99 := by
  have := validG_at h (i := k.toNat) (by omega)
  unfold gAt
  omega
theorem gAt_lt {l : List Gt} (h : validG l = true) {j k : Int} (hj : 0 ≤ j) (hjk : j < k) (hk : k < l.length) : (gAt l j).a < (gAt l k).a := by
  unfold gAt
  exact validG_lt h (by omega) (by omega)
theorem whereG_pas {l : List Gt} (h : validG l = true) (p : Gt → Bool) : Pas l (whereG p l) :=
  ⟨h, fun k hk => ⟨(whereG_mem.1 hk).1, (whereG_mem.1 hk).2.1⟩, whereG_asc p l⟩

/-- A payment ahead frees a gate. -/
def freedG (l : List Gt) (free : Int) (paid : List Int) (i : Int) : Bool := paid.any (fun k => decide (k < i) && decide ((gAt l k).b = (gAt l i).b) && decide ((gAt l i).a - (gAt l k).a ≤ free))
def hasL (s : List Int) (n : Int) : Bool := s.any (fun x => decide (x = n))
theorem hasL_iff {s : List Int} {n : Int} : hasL s n = true ↔ n ∈ s := by
  unfold hasL
  simp only [List.any_eq_true, decide_eq_true_eq]
  constructor
  · rintro ⟨x, hx, rfl⟩; exact hx
  · intro h; exact ⟨n, h, rfl⟩
theorem freedG_iff {l : List Gt} {free : Int} {paid : List Int} {i : Int} : freedG l free paid i = true ↔ ∃ k ∈ paid, k < i ∧ (gAt l k).b = (gAt l i).b ∧ (gAt l i).a - (gAt l k).a ≤ free := by
  unfold freedG
  simp only [List.any_eq_true, Bool.and_eq_true, decide_eq_true_eq, and_assoc]

/-- Until where each trust's tickets free: a number for each trust. -/
def upT8 (R : Int → Int) (b x : Int) : Int → Int := fun t => if t = b then x else R t
/-- R says of all gates in s whether the payments ahead free them. -/
structure FU (l : List Gt) (free : Int) (acc : List Int) (s : List Int) (R : Int → Int) : Prop where
  lt : ∀ p ∈ acc, 0 ≤ p ∧ ∀ k ∈ s, p < k
  eq : ∀ k ∈ s, freedG l free acc k = decide ((gAt l k).a ≤ R (gAt l k).b)
theorem FU.skip {l : List Gt} {free : Int} {acc : List Int} {k : Int} {s : List Int} {R : Int → Int} (h : FU l free acc (k :: s) R) : FU l free acc s R :=
  ⟨fun p hp => ⟨(h.lt p hp).1, fun x hx => (h.lt p hp).2 x (List.mem_cons_of_mem _ hx)⟩, fun x hx => h.eq x (List.mem_cons_of_mem _ hx)⟩
theorem FU.pay {l : List Gt} {free : Int} {acc : List Int} {k : Int} {s : List Int} {R : Int → Int} (h : FU l free acc (k :: s) R) (hp : Pas l (k :: s)) :
    FU l free (acc ++ [k]) s (upT8 R (gAt l k).b ((gAt l k).a + free)) := by
  refine ⟨fun p hm => ?_, fun x hx => ?_⟩
  · rw [List.mem_append, List.mem_singleton] at hm
    rcases hm with hm | rfl
    · exact ⟨(h.lt p hm).1, fun x hx => (h.lt p hm).2 x (List.mem_cons_of_mem _ hx)⟩
    · exact ⟨hp.head.1, fun x hx => hp.asc.cons_lt hx⟩
  · have hkx := hp.asc.cons_lt hx
    have e := h.eq x (List.mem_cons_of_mem _ hx)
    by_cases hb : (gAt l x).b = (gAt l k).b
    · have : upT8 R (gAt l k).b ((gAt l k).a + free) (gAt l x).b = (gAt l k).a + free := by unfold upT8; rw [if_pos hb]
      rw [this, Bool.eq_iff_iff, freedG_iff, decide_eq_true_eq]
      constructor
      · rintro ⟨p, hm, h1, h2, h3⟩
        rw [List.mem_append, List.mem_singleton] at hm
        rcases hm with hm | rfl
        · have hpk := (h.lt p hm).2 k List.mem_cons_self
          have := gAt_lt hp.v (h.lt p hm).1 hpk hp.head.2
          omega
        · omega
      · intro h4
        exact ⟨k, by simp, hkx, hb.symm, by omega⟩
    · have : upT8 R (gAt l k).b ((gAt l k).a + free) (gAt l x).b = R (gAt l x).b := by unfold upT8; rw [if_neg hb]
      rw [this, ← e, Bool.eq_iff_iff, freedG_iff, freedG_iff]
      constructor
      · rintro ⟨p, hm, h1, h2, h3⟩
        rw [List.mem_append, List.mem_singleton] at hm
        rcases hm with hm | rfl
        · exact ⟨p, hm, h1, h2, h3⟩
        · exact absurd h2.symm hb
      · rintro ⟨p, hm, h⟩
        exact ⟨p, List.mem_append_left _ hm, h⟩
/-- No payments: nothing is free. -/
def noTic : Int → Int := fun _ => -1
theorem FU.none {l : List Gt} {free : Int} {s : List Int} (hp : Pas l s) : FU l free [] s noTic :=
  ⟨fun p hp => absurd hp List.not_mem_nil, fun k hk => by
    have := gAt_ok hp.v (hp.i k hk)
    show freedG l free [] k = decide ((gAt l k).a ≤ -1)
    rw [decide_eq_false (by omega)]; rfl⟩

end Go.Proofs.Ythhllpnbmelidaa
