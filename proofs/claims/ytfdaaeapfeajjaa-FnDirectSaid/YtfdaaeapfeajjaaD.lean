/- Ways and distances; no program. -/
import Derived.Test.YtfdaaeapfeajjaaG
namespace Go.Proofs.Ytfdaaeapfeajjaa

/-- A way from x to y of the length d, over the edges e. -/
inductive Way (e : Int → Int → Option Int) : Int → Int → Int → Prop
  | nil (x : Int) : Way e x x 0
  | snoc {x y z d m : Int} : Way e x y d → e y z = some m → Way e x z (d + m)

def Pos (e : Int → Int → Option Int) : Prop := ∀ x y m, e x y = some m → 1 ≤ m
def Sym (e : Int → Int → Option Int) : Prop := ∀ x y, e x y = e y x

theorem Way.nonneg {e} (hp : Pos e) {x y d : Int} (h : Way e x y d) : 0 ≤ d := by
  induction h with
  | nil => omega
  | snoc _ he ih => have := hp _ _ _ he; omega

theorem Way.pos {e} (hp : Pos e) {x y d : Int} (h : Way e x y d) (hne : x ≠ y) : 1 ≤ d := by
  cases h with
  | nil => exact absurd rfl hne
  | snoc hw he => have := hp _ _ _ he; have := hw.nonneg hp; omega

theorem Way.trans {e} {x y z d d' : Int} (h : Way e x y d) (h' : Way e y z d') : Way e x z (d + d') := by
  induction h' with
  | nil => simpa using h
  | snoc _ he ih => rw [← Int.add_assoc]; exact .snoc ih he

theorem Way.cons {e} {x y z d m : Int} (he : e x y = some m) (h : Way e y z d) : Way e x z (m + d) := by
  have := Way.trans (.snoc (.nil x) he) h
  simpa using this

theorem Way.rev {e} (hs : Sym e) {x y d : Int} (h : Way e x y d) : Way e y x d := by
  induction h with
  | nil => exact .nil _
  | snoc _ he ih => rw [hs] at he; rw [Int.add_comm]; exact .cons he ih

/-- The first step of a way. -/
theorem Way.uncons {e} {x y d : Int} (h : Way e x y d) : (x = y ∧ d = 0) ∨ ∃ z m d', e x z = some m ∧ Way e z y d' ∧ d = m + d' := by
  induction h with
  | nil => exact .inl ⟨rfl, rfl⟩
  | snoc hw he ih =>
    rename_i u z d m
    rcases ih with ⟨rfl, rfl⟩ | ⟨v, m', d', h1, h2, rfl⟩
    · exact .inr ⟨_, _, 0, he, .nil _, by omega⟩
    · exact .inr ⟨v, m', d' + m, h1, .snoc h2 he, by omega⟩

/-- Shortest. -/
def Dist (e : Int → Int → Option Int) (x y d : Int) : Prop := Way e x y d ∧ ∀ d', Way e x y d' → d ≤ d'

theorem Dist.uniq {e} {x y d d' : Int} (h : Dist e x y d) (h' : Dist e x y d') : d = d' := by
  have := h.2 _ h'.1; have := h'.2 _ h.1; omega

theorem dist_exists {e} (hp : Pos e) {x y : Int} (h : ∃ d, Way e x y d) : ∃ d, Dist e x y d := by
  obtain ⟨d, hd⟩ := h
  have key : ∀ (n : Nat) (d : Int), Way e x y d → d.toNat ≤ n → ∃ d, Dist e x y d := by
    intro n
    induction n with
    | zero =>
      intro d hd hn
      have := hd.nonneg hp
      exact ⟨d, hd, fun _ hd' => by have := hd'.nonneg hp; omega⟩
    | succ n ih =>
      intro d hd hn
      by_cases hm : ∃ d', Way e x y d' ∧ d' < d
      · obtain ⟨d', h1, h2⟩ := hm
        exact ih d' h1 (by have := h1.nonneg hp; omega)
      · exact ⟨d, hd, fun d' hd' => by
          by_cases hlt : d ≤ d'
          · exact hlt
          · exact absurd ⟨d', hd', by omega⟩ hm⟩
  exact key d.toNat d hd (Nat.le_refl _)

theorem Dist.self {e} (hp : Pos e) (x : Int) : Dist e x x 0 := ⟨.nil x, fun _ h => h.nonneg hp⟩

theorem Dist.symm {e} (hs : Sym e) {x y d : Int} (h : Dist e x y d) : Dist e y x d := ⟨h.1.rev hs, fun _ hd' => h.2 _ (hd'.rev hs)⟩

theorem Dist.nonneg {e} (hp : Pos e) {x y d : Int} (h : Dist e x y d) : 0 ≤ d := h.1.nonneg hp

theorem Dist.zero_iff {e} (hp : Pos e) {x y d : Int} (h : Dist e x y d) : d = 0 ↔ x = y := by
  constructor
  · intro hd
    by_cases hne : x = y
    · exact hne
    · have := h.1.pos hp hne; omega
  · rintro rfl; exact h.uniq (Dist.self hp _)

/-- The distance as a function: none where there is no way. -/
noncomputable def distO (e : Int → Int → Option Int) (x y : Int) : Option Int :=
  open Classical in if h : ∃ d, Dist e x y d then some (Classical.choose h) else none

theorem distO_some {e} {x y d : Int} : distO e x y = some d ↔ Dist e x y d := by
  unfold distO
  split
  · rename_i h
    constructor
    · intro h'; cases h'; exact Classical.choose_spec h
    · intro h'; rw [(Classical.choose_spec h).uniq h']
  · rename_i h
    constructor
    · intro h'; cases h'
    · intro h'; exact absurd ⟨d, h'⟩ h

theorem distO_none {e} (hp : Pos e) {x y : Int} : distO e x y = none ↔ ∀ d, ¬ Way e x y d := by
  constructor
  · intro h d hd
    obtain ⟨d', hd'⟩ := dist_exists hp ⟨d, hd⟩
    rw [distO_some.2 hd'] at h; cases h
  · intro h
    cases hh : distO e x y
    · rfl
    · exact absurd (distO_some.1 hh).1 (h _)

/-- The towns of a way lie among those that edges reach. -/
theorem Way.inside {e} {S : Int → Prop} (hS : ∀ x y m, e x y = some m → S y) {x y d : Int} (h : Way e x y d) (hx : S x) : S y := by
  cases h with
  | nil => exact hx
  | snoc _ he => exact hS _ _ _ he

/-! ### Dijkstra -/

/-- What holds between two rounds: far's entries are distances; what lies ahead are ways; every edge out of a final town leads to a final one or lies ahead. -/
structure Dij (e : Int → Int → Option Int) (s : Int) (far : Int → Option Int) (ahead : Int → Int → Prop) : Prop where
  fin : ∀ t d, far t = some d → Dist e s t d
  way : ∀ t f, ahead t f → Way e s t f
  out : ∀ t d u m, far t = some d → e t u = some m → far u = none → ahead u (d + m)
  start : far s = none → ahead s 0

/-- A way to a town that is not final: some place ahead that is not final is no farther. -/
theorem Dij.front {e far ahead} {s : Int} (hp : Pos e) (h : Dij e s far ahead) {t d : Int} (hw : Way e s t d) : far t = none → ∃ u f, ahead u f ∧ far u = none ∧ f ≤ d := by
  induction hw with
  | nil => intro ht; exact ⟨_, 0, h.start ht, ht, by omega⟩
  | snoc hw he ih =>
    rename_i y z d m
    intro ht
    have hm := hp _ _ _ he
    cases hy : far y with
    | none =>
      obtain ⟨u, f, h1, h2, h3⟩ := ih hy
      exact ⟨u, f, h1, h2, by omega⟩
    | some dy =>
      have := (h.fin _ _ hy).2 _ hw
      exact ⟨z, dy + m, h.out _ _ _ _ hy he ht, ht, by omega⟩

/-- The nearest place ahead is final, if its town is not yet. -/
theorem Dij.take {e s far ahead} (hp : Pos e) (h : Dij e s far ahead) {t f : Int} (ha : ahead t f) (hmin : ∀ u g, ahead u g → f ≤ g) : Dist e s t f ∨ ∃ d, far t = some d := by
  cases ht : far t with
  | some d => exact .inr ⟨d, rfl⟩
  | none =>
    refine .inl ⟨h.way _ _ ha, fun d' hd' => ?_⟩
    obtain ⟨u, g, h1, _, h3⟩ := h.front hp hd' ht
    have := hmin u g h1
    omega

/-- Where nothing lies ahead, far is all. -/
theorem Dij.done {e s far ahead} (hp : Pos e) (h : Dij e s far ahead) (he : ∀ u g, ¬ ahead u g) (t : Int) : far t = distO e s t := by
  cases ht : far t with
  | some d => exact (distO_some.2 (h.fin _ _ ht)).symm
  | none =>
    symm
    rw [distO_none hp]
    intro d hd
    obtain ⟨u, f, h1, _⟩ := h.front hp hd ht
    exact he u f h1

/-! ### Bellman and Ford -/

/-- A way of at most k edges. -/
inductive WayN (e : Int → Int → Option Int) : Nat → Int → Int → Int → Prop
  | nil (k : Nat) (x : Int) : WayN e k x x 0
  | snoc {k : Nat} {x y z d m : Int} : WayN e k x y d → e y z = some m → WayN e (k + 1) x z (d + m)

theorem WayN.way {e k} {x y d : Int} (h : WayN e k x y d) : Way e x y d := by
  induction h with
  | nil => exact .nil _
  | snoc _ he ih => exact .snoc ih he

theorem WayN.mono {e k} {x y d : Int} (h : WayN e k x y d) {k' : Nat} (hk : k ≤ k') : WayN e k' x y d := by
  induction h generalizing k' with
  | nil => exact .nil _ _
  | snoc _ he ih =>
    obtain ⟨j, rfl⟩ : ∃ j, k' = j + 1 := ⟨k' - 1, by omega⟩
    exact .snoc (ih (by omega)) he

theorem WayN.bound {e k} (hm : ∀ x y m, e x y = some m → m ≤ 99) {x y d : Int} (h : WayN e k x y d) : d ≤ 99 * (k : Int) := by
  induction h with
  | nil => omega
  | snoc _ he ih => have := hm _ _ _ he; omega

theorem countP_lt {α : Type} {p q : α → Bool} (hpq : ∀ a, p a = true → q a = true) : ∀ {l : List α} {a : α}, a ∈ l → q a = true → p a = false → l.countP p + 1 ≤ l.countP q
  | [], _, h, _, _ => by cases h
  | b :: r, a, h, hq, hp => by
    have hle : r.countP p ≤ r.countP q := List.countP_mono_left (fun x _ => hpq x)
    rcases List.mem_cons.1 h with rfl | h
    · rw [List.countP_cons_of_pos hq, List.countP_cons_of_neg (by simp [hp])]; omega
    · have ih := countP_lt hpq h hq hp
      by_cases hb : p b = true
      · rw [List.countP_cons_of_pos hb, List.countP_cons_of_pos (hpq b hb)]; omega
      · rw [List.countP_cons_of_neg hb]
        by_cases hb' : q b = true
        · rw [List.countP_cons_of_pos hb']; omega
        · rw [List.countP_cons_of_neg hb']; omega

open Classical in
/-- How many towns lie nearer than d. -/
noncomputable def nearCnt (e : Int → Int → Option Int) (n : Nat) (s d : Int) : Nat := (List.range n).countP fun (i : Nat) => decide (∃ d', d' < d ∧ Dist e s i d')

theorem Dist.wayN {e} (hp : Pos e) {n : Nat} (hin : ∀ x y m, e x y = some m → 0 ≤ x ∧ x < n ∧ 0 ≤ y ∧ y < n) {s : Int} :
    ∀ (j : Nat) {t d : Int}, d.toNat ≤ j → Dist e s t d → WayN e (nearCnt e n s d) s t d := by
  intro j
  induction j with
  | zero =>
    intro t d hj h
    have h0 := h.nonneg hp
    have : d = 0 := by omega
    subst this
    obtain rfl := (h.zero_iff hp).1 rfl
    exact .nil _ _
  | succ j ih =>
    intro t d hj h
    obtain ⟨hw, hmin⟩ := h
    cases hw with
    | nil => exact .nil _ _
    | snoc hw he =>
      rename_i y d m
      have hm := hp _ _ _ he
      have hy := hin _ _ _ he
      have hd : Dist e s y d := ⟨hw, fun d' hd' => by have := hmin _ (.snoc hd' he); omega⟩
      have hd0 := hd.nonneg hp
      have hw' := ih (by omega) hd
      refine WayN.mono (.snoc hw' he) ?_
      unfold nearCnt
      refine countP_lt (a := y.toNat) ?_ ?_ ?_ ?_
      · intro a ha
        simp only [decide_eq_true_eq] at ha ⊢
        obtain ⟨d', h1, h2⟩ := ha
        exact ⟨d', by omega, h2⟩
      · simp only [List.mem_range]; omega
      · simp only [decide_eq_true_eq]
        refine ⟨d, by omega, ?_⟩
        rwa [Int.toNat_of_nonneg hy.1]
      · simp only [decide_eq_false_iff_not]
        rintro ⟨d', h1, h2⟩
        rw [Int.toNat_of_nonneg hy.1] at h2
        have := h2.uniq hd
        omega

theorem Dist.wayN' {e} (hp : Pos e) {n : Nat} (hin : ∀ x y m, e x y = some m → 0 ≤ x ∧ x < n ∧ 0 ≤ y ∧ y < n) {s t d : Int} (h : Dist e s t d) : WayN e n s t d :=
  (h.wayN hp hin _ (Nat.le_refl _)).mono (by
    unfold nearCnt
    exact Nat.le_trans List.countP_le_length (by simp))

/-- What holds of Bellman's and Ford's numbers: C tells the ways that are told already. -/
structure BF (e : Int → Int → Option Int) (s : Int) (C : Int → Int → Prop) (f : Int → Int) : Prop where
  le : ∀ t, f t ≤ 100000
  way : ∀ t, f t = 100000 ∨ Way e s t (f t)
  low : ∀ t d, C t d → f t ≤ d

/-- One half of a road's step. -/
theorem BF.half {e s C f} (h : BF e s C f) {x y m : Int} (he : e y x = some m) (hm : 1 ≤ m) :
    BF e s (fun t d => C t d ∨ (t = x ∧ ∃ d0, C y d0 ∧ d = d0 + m)) (fun t => if t = x then min (f x) (f y + m) else f t) := by
  have hx := h.le x
  have hwx := h.way x
  have hwy := h.way y
  have hy := h.le y
  refine ⟨fun t => ?_, fun t => ?_, fun t d hc => ?_⟩
  · have := h.le t
    show (if t = x then min (f x) (f y + m) else f t) ≤ 100000
    split <;> omega
  · show (if t = x then min (f x) (f y + m) else f t) = 100000 ∨ Way e s t (if t = x then min (f x) (f y + m) else f t)
    split
    · rename_i ht
      subst ht
      by_cases hlt : f t ≤ f y + m
      · rw [Int.min_eq_left hlt]; exact hwx
      · rw [Int.min_eq_right (by omega)]
        rcases hwy with h1 | h1
        · omega
        · exact .inr (.snoc h1 he)
    · exact h.way t
  · show (if t = x then min (f x) (f y + m) else f t) ≤ d
    split
    · rename_i ht
      subst ht
      rcases hc with hc | ⟨_, d0, hc, rfl⟩
      · have := h.low _ _ hc; omega
      · have := h.low _ _ hc; omega
    · rename_i ht
      rcases hc with hc | ⟨h1, _⟩
      · exact h.low _ _ hc
      · exact absurd h1 ht

theorem BF.weaken {e s C C' f} (h : BF e s C f) (hC : ∀ t d, C' t d → C t d) : BF e s C' f := ⟨h.le, h.way, fun t d hc => h.low t d (hC t d hc)⟩

theorem BF.congr {e s C f f'} (h : BF e s C f) (hf : ∀ t, f' t = f t) : BF e s C f' := by
  have : f' = f := funext hf
  rw [this]; exact h

/-- At the start. -/
theorem BF.start {e} {s : Int} {f : Int → Int} (hs : f s = 0) (ho : ∀ t, t ≠ s → f t = 100000) : BF e s (WayN e 0 s) f := by
  refine ⟨fun t => ?_, fun t => ?_, fun t d hc => ?_⟩
  · by_cases h : t = s
    · subst h; omega
    · have := ho t h; omega
  · by_cases h : t = s
    · subst h; rw [hs]; exact .inr (.nil _)
    · exact .inl (ho t h)
  · cases hc; omega

/-- At the end: n rounds tell every shortest way. -/
theorem BF.done {e} {s : Int} {f : Int → Int} {n : Nat} (hn : n ≤ 8) (hp : Pos e) (hm : ∀ x y m, e x y = some m → m ≤ 99) (hin : ∀ x y m, e x y = some m → 0 ≤ x ∧ x < n ∧ 0 ≤ y ∧ y < n)
    (h : BF e s (WayN e n s) f) (t : Int) : f t = (distO e s t).getD 100000 ∧ (∀ d, distO e s t = some d → d ≤ 792) := by
  cases hd : distO e s t with
  | none =>
    refine ⟨?_, fun d h => by cases h⟩
    rcases h.way t with h1 | h1
    · exact h1
    · exact absurd h1 ((distO_none hp).1 hd _)
  | some d =>
    have hd' := distO_some.1 hd
    have hw := hd'.wayN' hp hin
    have hb := hw.bound hm
    have hl := h.low t d hw
    refine ⟨?_, fun d' h => by cases h; omega⟩
    rcases h.way t with h1 | h1
    · omega
    · have := hd'.2 _ h1
      simp; omega

end Go.Proofs.Ytfdaaeapfeajjaa
