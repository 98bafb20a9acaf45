/- A range over a function whose elements come one after the other out of a known list; the function may lay blocks of its own between two rounds, and may itself range over another one. -/
import Derived.RangeFuncNested
import Derived.RangeFuncBound
import Derived.RangeFuncCalls
import Derived.RangeFuncLeaves
import Derived.RangeFuncBox
import Derived.Test.YthhllpnbmelidaaTC
namespace Go.Proofs.Ythhllpnbmelidaa
open Go.RowKit

/-- Without walls the depth is nothing. -/
theorem roundAny {m k : Nat} {P : Program} {l : Nat} {f : FuncId} {tmps : Array Value} {assign body : Code} {w : World} {R : Ending → World → Prop}
    (h : RoundIn Fence.wide m P l f tmps assign body w R) : RoundIn Fence.wide k P l f tmps assign body w R :=
  ⟨trivial, fun c cs _ => h.2 c cs (room_wide _)⟩
theorem yieldAny {m k : Nat} {P : Program} {l : Nat} {args : Array Value} {W : World} {R : Ending → World → Prop} (h : YieldAt Fence.wide m P l args W R) : YieldAt Fence.wide k P l args W R := by
  obtain ⟨fn, tmps, assign, body, hy, hR⟩ := h
  exact ⟨fn, tmps, assign, body, hy, roundAny hR⟩
theorem yieldIn {m k o : Nat} {P : Program} {l : Nat} {args : Array Value} {W : World} {R : Ending → World → Prop} (h : YieldAt Fence.wide m P l args W R) : YieldAt (Fence.wide.inRound o) k P l args W R := by
  obtain ⟨fn, tmps, assign, body, hy, hR⟩ := h
  exact ⟨fn, tmps, assign, body, hy, ⟨trivial, fun c cs _ => hR.2 c cs (room_wide _)⟩⟩

/-- The blocks of T lie as they lay. -/
structure Keep (T : Nat → Prop) (W W' : World) : Prop where
  size : W.heap.size ≤ W'.heap.size
  same : ∀ j, j < W.heap.size → T j → W'.heap[j]? = W.heap[j]?
theorem Keep.refl (T : Nat → Prop) (W : World) : Keep T W W := ⟨Nat.le_refl _, fun _ _ _ => rfl⟩
theorem Keep.trans {T : Nat → Prop} {A B C : World} (h : Keep T A B) (k : Keep T B C) : Keep T A C := ⟨Nat.le_trans h.size k.size, fun j hj ht => (k.same j (Nat.lt_of_lt_of_le hj h.size) ht).trans (h.same j hj ht)⟩
theorem Keep.less {T T' : Nat → Prop} {A B : World} (h : Keep T A B) (hT : ∀ j, T' j → T j) : Keep T' A B := ⟨h.size, fun j hj ht => h.same j hj (hT j ht)⟩
theorem Keep.cell {T : Nat → Prop} {A B : World} (h : Keep T A B) {p : Addr} (hp : p.block < A.heap.size) (ht : T p.block) : B.cell? p = A.cell? p := World.cell?_of_block (h.same _ hp ht)
theorem Keep.touch {T S : Nat → Prop} {A B : World} (h : Touch S A B) (hd : ∀ j, T j → ¬ S j) : Keep T A B := ⟨h.size, fun j hj ht => h.block j hj (hd j ht)⟩
theorem Keep.alloc (T : Nat → Prop) (W : World) (o : Obj) : Keep T W (W.alloc o) := ⟨by simp, fun j hj _ => Below.heap_alloc W o j hj⟩
theorem Keep.setCell {T : Nat → Prop} {A B : World} (h : Keep T A B) {p : Addr} (hp : ¬ T p.block) (v : Value) : Keep T A (B.setCell p v) :=
  ⟨by rw [World.size_setCell]; exact h.size, fun j hj ht => (Below.heap_setCell B p v j (fun e => hp (e ▸ ht))).trans (h.same j hj ht)⟩
theorem Keep.drew {T : Nat → Prop} {A B : World} (h : Keep T A B) : Keep T A B.drew := ⟨h.size, h.same⟩
theorem Keep.boxed {T : Nat → Prop} {A B : World} (h : Keep T A B) {b : Nat} {t : TypeId} {v : Value} (hb : Boxed A b t v) (ht : T b) : Boxed B b t v := (h.same b hb.lt ht).trans hb

/-- THE OTHER PARTY's STEPS: it turns blocks of its own, laid from B on, and lays new ones, of which it may make its own. -/
def Abide {β : Type} (B : Nat) (J : (Nat → Prop) → β → World → Prop) : Prop :=
  ∀ (T T' : Nat → Prop) (s : β) (W W' : World), J T s W → Touch (fun j => B ≤ j ∧ T j) W W' → (∀ j, T' j → T j ∨ (W.heap.size ≤ j ∧ j < W'.heap.size)) → J T' s W'
theorem Abide.later {β : Type} {B B' : Nat} {J : (Nat → Prop) → β → World → Prop} (h : Abide B J) (hB : B ≤ B') : Abide B' J :=
  fun T T' s W W' hj ht hT => h T T' s W W' hj ⟨ht.os, ht.tape, ht.output, ht.size, fun j hj hn => ht.block j hj (fun e => hn ⟨by omega, e.2⟩)⟩ hT
theorem Abide.own {β : Type} {B : Nat} {J : (Nat → Prop) → β → World → Prop} (h : Abide B J) {T : Nat → Prop} {s : β} {W W' : World} (hj : J T s W) (ht : Touch (fun j => B ≤ j ∧ T j) W W') : J T s W' :=
  h T T s W W' hj ht (fun _ => .inl)
theorem Abide.fewer {β : Type} {B : Nat} {J : (Nat → Prop) → β → World → Prop} (h : Abide B J) {T T' : Nat → Prop} {s : β} {W : World} (hj : J T s W) (hT : ∀ j, T' j → T j) : J T' s W :=
  h T T' s W W hj (Touch.refl _ _) (fun j hj => .inl (hT j hj))
theorem Abide.drew {β : Type} {B : Nat} {J : (Nat → Prop) → β → World → Prop} (h : Abide B J) {T : Nat → Prop} {s : β} {W : World} (hj : J T s W) : J T s W.drew :=
  h.own hj ⟨rfl, rfl, rfl, Nat.le_refl _, fun _ _ _ => rfl⟩
/-- A block is laid and made one's own. -/
theorem Abide.alloc {β : Type} {B : Nat} {J : (Nat → Prop) → β → World → Prop} (h : Abide B J) {T : Nat → Prop} {s : β} {W : World} (o : Obj) (hj : J T s W) : J (fun j => T j ∨ j = W.heap.size) s (W.alloc o) :=
  h T _ s W _ hj ((Touch.of_below ((Below.refl _ W).alloc (Nat.le_refl _) o))) (fun j hj => hj.imp id (fun e => by subst e; simp))
theorem Abide.pure {β : Type} (B : Nat) (p : β → Prop) : Abide B (fun _ s (_ : World) => p s) := fun _ _ _ _ _ h _ _ => h
theorem Abide.never {β : Type} (B : Nat) : Abide B (fun _ (_ : β) (_ : World) => False) := fun _ _ _ _ _ h _ _ => h

theorem touch_putObj {S : Nat → Prop} (W : World) {k : Nat} (o : Obj) (hS : S k) : Touch S W (W.putObj k o) := Touch.grown (grownBy_putObj' W k o) hS

/-- What one call of yield brings. -/
def Took {α : Type} (T : Nat → Prop) (J Jx : (Nat → Prop) → List α → World → Prop) (xs : List α) (W : World) (e : Ending) (W' : World) : Prop :=
  Keep T W W' ∧ ((e = .returned (.bool true) ∧ J T xs W') ∨ (e = .returned (.bool false) ∧ Jx T xs W'))

/-- THE ITERATOR: the elements of xs come in their order, until a round says no. T₀: the blocks that it reads. -/
def Comes {α : Type} (P : Program) (gf : Nat) (lb : Array Value) (encs : α → Array Value) (T₀ : Nat → Prop) (xs : List α) (w : World) : Prop :=
  ∀ (l : Nat) (J Jx : (Nat → Prop) → List α → World → Prop) (W : World), Below w.heap.size w W → Abide W.heap.size J → Abide W.heap.size Jx →
    (∀ (T : Nat → Prop) (pre : List α) (x : α) (W1 : World), pre ++ [x] <+: xs → W.heap.size ≤ W1.heap.size → (∀ j, T j → j < W1.heap.size) → J T pre W1 → YieldAt Fence.wide 9 P l (encs x) W1 (Took T J Jx (pre ++ [x]) W1)) →
    J T₀ [] W →
    Calls P gf (#[.func (.yield l) #[] #[]] ++ lb) W fun e W' => (∃ v, e = .returned v) ∧ ∃ T, J T xs W' ∨ ∃ pre, pre <+: xs ∧ Jx T pre W'

theorem Comes.later {α : Type} {P : Program} {gf : Nat} {lb : Array Value} {encs : α → Array Value} {T₀ : Nat → Prop} {xs : List α} {w w' : World} (h : Comes P gf lb encs T₀ xs w) (hb : Below w.heap.size w w') :
    Comes P gf lb encs T₀ xs w' := fun l J Jx W hW hJ hJx hY h0 => h l J Jx W (hb.trans (hW.mono hb.size)) hJ hJx hY h0

/-- How the body of a round may be left. -/
def leftT {α : Type} (I : (Nat → Prop) → List α → World → Prop) (Ix : Code → (Nat → Prop) → List α → World → Prop) (T : Nat → Prop) (xs : List α) (W : World) : Exit → Act → World → Prop
  | .normal, _, W' => Keep T W W' ∧ I T xs W'
  | .ret, _, W' => Keep T W W' ∧ Ix .ret T xs W'
  | .exit id, _, W' => Keep T W W' ∧ Ix (.exit id) T xs W'
  | .goto t, _, W' => Keep T W W' ∧ Ix (.goto t) T xs W'
  | .panic _, _, _ => False
  | .outgrown, _, _ => False

set_option maxHeartbeats 1000000 in
/-- THE LOOP over it, at its own activation's top. -/
theorem rangeComes {α : Type} {P : Program} {n : Nat} {g : Operand} {ps : Array Tmp} {assign body : Code} {Q : Exit → Act → World → Prop} {a : Act} {w : World} {gf : Nat} {lb : Array Value}
    {encs : α → Array Value} {T₀ : Nat → Prop} {xs : List α} {w0 : World} (hg : a.eval g = .func (.func gf) #[] lb) (eg : ∀ args w, (callFunc gf args).run P w = .ok (.enter gf args) w)
    (hseq : Comes P gf lb encs T₀ xs w0) (hT₀ : ∀ j, T₀ j → j < w.heap.size) (hb0 : Below w0.heap.size w0 w) (hps : ∀ x, (encs x).size = ps.size)
    (I : (Nat → Prop) → List α → World → Prop) (Ix : Code → (Nat → Prop) → List α → World → Prop) (hI : Abide w.heap.size I) (hIx : ∀ c, Abide w.heap.size (Ix c)) (h0 : I T₀ [] w) (a₁ : α → Act)
    (hassign : ∀ (l : Nat) (x : α) (W : World) (K : Act → World → Prop), K (a₁ x) W →
      assign.wpIn (Fence.wide.inRound l) 9 P (Exit.then K (fun _ _ _ => False)) { tmps := (ps.zip (encs x)).foldl (fun t (p, v) => t.setIfInBounds p v) a.tmps, defers := [] } W)
    (hbody : ∀ (l : Nat) (T : Nat → Prop) (pre : List α) (x : α) (W : World), pre ++ [x] <+: xs → w.heap.size ≤ W.heap.size → (∀ j, T j → j < W.heap.size) → I T pre W →
      body.wpIn (Fence.wide.inRound l) 9 P (leftT I Ix T (pre ++ [x]) W) (a₁ x) W)
    (hdone : ∀ (D : Nat) (T : Nat → Prop) (W : World), w.heap.size ≤ D → T D → I T xs W → W.heap[D]? = some (.deferred (some [])) → Q .normal { a with defers := { target := .collected D, args := #[] } :: a.defers } W)
    (hstop : ∀ (D : Nat) (c : Code) (T : Nat → Prop) (pre : List α) (W : World), w.heap.size ≤ D → T D → pre <+: xs → Ix c T pre W → W.heap[D]? = some (.deferred (some [])) →
      c.wpIn Fence.wide n P Q { a with defers := { target := .collected D, args := #[] } :: a.defers } W) :
    (Code.rangeFunc g ps assign body).wpIn Fence.wide n P Q a w := by
  refine wpIn_rangeFunc fun fn _ => ?_
  -- the record, in its states
  obtain ⟨rec, hrec⟩ : ∃ rec : LoopState → Option Code → Loop, rec = fun st pe => { state := st, pending := pe, fn := fn, tmps := a.tmps, params := ps, assign := assign, body := body, defers := w.heap.size } := ⟨_, rfl⟩
  obtain ⟨W1, hW1⟩ : ∃ W1, W1 = (w.alloc (.deferred (some []))).alloc (.loop (rec .ready none)) := ⟨_, rfl⟩
  -- the two blocks that the loop lays become its own
  obtain ⟨O, hO⟩ : ∃ O : (Nat → Prop) → Nat → Prop, O = fun T j => T j ∨ j = w.heap.size ∨ j = w.heap.size + 1 := ⟨_, rfl⟩
  have s1 : W1.heap.size = w.heap.size + 2 := by rw [hW1]; simp
  have b1 : Below w.heap.size w W1 := by rw [hW1]; exact ((Below.refl _ w).alloc (Nat.le_refl _) _).alloc (by simp) _
  have eL : W1.heap[w.heap.size + 1]? = some (.loop (rec .ready none)) := by
    have := World.alloc_heap_new (w.alloc (.deferred (some []))) (.loop (rec .ready none))
    rw [World.size_alloc] at this
    rw [hW1]; exact this
  have eD : W1.heap[w.heap.size]? = some (.deferred (some [])) := by
    rw [hW1]; exact (Below.heap_alloc _ _ _ (by simp)).trans (World.alloc_heap_new w _)
  have i1 : I (O T₀) [] W1 := by
    refine hI T₀ (O T₀) [] w W1 h0 (Touch.of_below b1) (fun j hj => ?_)
    rw [hO] at hj
    rcases hj with hj | rfl | rfl
    · exact .inl hj
    · exact .inr (by omega)
    · exact .inr (by omega)
  have enter : (Instr.enterLoop fn a.tmps ps assign body Fence.wide.round).run P w = .ok (w.heap.size + 1, [{ target := .collected w.heap.size, args := #[] }]) W1 := by
    rw [hW1, hrec]
    exact run_enterLoop_outer fn a.tmps ps assign body
  clear hW1
  refine ⟨_, _, W1, { target := .fn (.func gf) lb, args := #[.func (.yield (w.heap.size + 1)) #[] #[]] }, W1, gf, #[.func (.yield (w.heap.size + 1)) #[] #[]] ++ lb, W1, enter, ?_, fun _ _ => trivial, ?_, (fun h => by cases h), ?_⟩
  · simp only [resolve, hg]; simp [go_sem]
  · simp [invoke, go_sem, eg]
  have oL : ∀ T, O T (w.heap.size + 1) := fun T => by rw [hO]; exact .inr (.inr rfl)
  have oD : ∀ T, O T w.heap.size := fun T => by rw [hO]; exact .inr (.inl rfl)
  have oT : ∀ T j, T j → O T j := fun T j h => by rw [hO]; exact .inl h
  -- a turn of the loop's own record
  have turn : ∀ {T : Nat → Prop} {s : List α} {W : World} (o' : Obj), I (O T) s W → I (O T) s (W.putObj (w.heap.size + 1) o') := fun o' h => hI.own h (touch_putObj _ _ ⟨by omega, oL _⟩)
  have turnX : ∀ {c : Code} {T : Nat → Prop} {s : List α} {W : World} (o' : Obj), Ix c (O T) s W → Ix c (O T) s (W.putObj (w.heap.size + 1) o') := fun o' h => (hIx _).own h (touch_putObj _ _ ⟨by omega, oL _⟩)
  have other : ∀ {W : World} {o' : Obj}, (W.putObj (w.heap.size + 1) o').heap[w.heap.size]? = W.heap[w.heap.size]? := fun {W o'} => World.putObj_heap_other (by omega)
  have lies : ∀ {T : Nat → Prop} {W W' : World} {j : Nat} {o : Obj}, j < W1.heap.size → Touch (fun j => W1.heap.size ≤ j ∧ T j) W W' → W.heap[j]? = some o → W'.heap[j]? = some o :=
    fun hj ht h => (ht.block _ (Array.getElem?_eq_some_iff.1 h).1 (fun e => by omega)).trans h
  -- the iterator's steps, as the loop's own
  have steps : ∀ {T T' : Nat → Prop} {W W' : World}, W1.heap.size ≤ W.heap.size → Touch (fun j => W1.heap.size ≤ j ∧ T j) W W' → (∀ j, T' j → T j ∨ (W.heap.size ≤ j ∧ j < W'.heap.size)) →
      Touch (fun j => w.heap.size ≤ j ∧ O T j) W W' ∧ (∀ j, O T' j → O T j ∨ (W.heap.size ≤ j ∧ j < W'.heap.size)) := fun {T T' W W'} _ ht hT =>
    ⟨⟨ht.os, ht.tape, ht.output, ht.size, fun j hj hn => ht.block j hj (fun e => hn ⟨by omega, oT _ _ e.2⟩)⟩, fun j hj => by
      rw [hO] at hj
      rcases hj with hj | rfl | rfl
      · exact (hT j hj).imp (oT _ _) id
      · exact .inl (oD _)
      · exact .inl (oL _)⟩
  refine (callsIn_wide (n := n - 1)).2 ((hseq (w.heap.size + 1)
    (fun T pre W => I (O T) pre W ∧ W.heap[w.heap.size + 1]? = some (.loop (rec .ready none)) ∧ W.heap[w.heap.size]? = some (.deferred (some [])) ∧ (¬ T (w.heap.size + 1) ∧ ¬ T w.heap.size) ∧ W1.heap.size ≤ W.heap.size)
    (fun T pre W => ∃ c, Ix c (O T) pre W ∧ W.heap[w.heap.size + 1]? = some (.loop (rec .done (some c))) ∧ W.heap[w.heap.size]? = some (.deferred (some [])) ∧ (¬ T (w.heap.size + 1) ∧ ¬ T w.heap.size) ∧ W1.heap.size ≤ W.heap.size)
    W1 (hb0.trans (b1.mono hb0.size))
    (fun T T' s A B hs ht hT => ⟨hI _ _ s A B hs.1 (steps hs.2.2.2.2 ht hT).1 (steps hs.2.2.2.2 ht hT).2, lies (by omega) ht hs.2.1, lies (by omega) ht hs.2.2.1,
      ⟨fun h => (hT _ h).elim hs.2.2.2.1.1 (fun h => by have := hs.2.2.2.2; omega), fun h => (hT _ h).elim hs.2.2.2.1.2 (fun h => by have := hs.2.2.2.2; omega)⟩, Nat.le_trans hs.2.2.2.2 ht.size⟩)
    (fun T T' s A B hs ht hT => by
      obtain ⟨c, h1, h2, h3, h4, h5⟩ := hs
      exact ⟨c, hIx c _ _ s A B h1 (steps h5 ht hT).1 (steps h5 ht hT).2, lies (by omega) ht h2, lies (by omega) ht h3,
        ⟨fun h => (hT _ h).elim h4.1 (fun h => by omega), fun h => (hT _ h).elim h4.2 (fun h => by omega)⟩, Nat.le_trans h5 ht.size⟩)
    ?_ ⟨i1, eL, eD, ⟨fun h => by have := hT₀ _ h; omega, fun h => by have := hT₀ _ h; omega⟩, Nat.le_refl _⟩).mono ?_)
  · -- a round
    rintro T pre x W hpre hsz hTl ⟨hi, hl, hd, hn, hw⟩
    have hy := run_yield (P := P) (args := encs x) hl (by rw [hrec]; exact hps x)
    rw [hrec] at hy
    refine ⟨fn, _, assign, body, hy, roundIn_of_wpIn trivial (hassign _ x W _ ⟨_, run_beginRound hl (by rw [hrec]), ?_⟩)⟩
    clear hy
    have hlt := (Array.getElem?_eq_some_iff.1 hl).1
    obtain ⟨Wb, hWb⟩ : ∃ Wb, Wb = W.putObj (w.heap.size + 1) (.loop { rec .ready none with state := .busy }) := ⟨_, rfl⟩
    rw [← hWb]
    have sb2 : Wb.heap.size = W.heap.size := by rw [hWb]; simp
    have lb2 : Wb.heap[w.heap.size + 1]? = some (.loop { rec .ready none with state := .busy }) := by rw [hWb]; exact World.putObj_heap_same hlt
    have db2 : Wb.heap[w.heap.size]? = some (.deferred (some [])) := by rw [hWb]; exact other.trans hd
    have ib2 : I (O T) pre Wb := by rw [hWb]; exact turn _ hi
    have kb2 : Keep T W Wb := by rw [hWb]; exact Keep.touch (S := fun j => j = w.heap.size + 1) (touch_putObj _ _ rfl) (fun j hj e => hn.1 (e ▸ hj))
    refine wpIn_mono (hbody _ (O T) pre x Wb hpre (by omega) (fun j hj => by
      rw [hO] at hj
      rcases hj with hj | rfl | rfl
      · have := hTl j hj; omega
      · omega
      · omega) ib2) ?_
    clear hWb
    -- the record is turned once more at the round's end
    have fin : ∀ (jump : Option Code) (W3 : World), Keep (O T) Wb W3 → ∃ W4, (Instr.endRound (w.heap.size + 1) jump).run P W3 = .ok (.bool jump.isNone) W4 ∧
        W4 = W3.putObj (w.heap.size + 1) (.loop (rec (if jump.isNone then .ready else .done) jump)) ∧
        W4.heap[w.heap.size + 1]? = some (.loop (rec (if jump.isNone then .ready else .done) jump)) ∧ W4.heap[w.heap.size]? = some (.deferred (some [])) ∧ Keep T W W4 ∧ W1.heap.size ≤ W4.heap.size := fun jump W3 hk => by
      have h3 := (hk.same _ (by omega) (oL T)).trans lb2
      have h4 := (hk.same _ (by omega) (oD T)).trans db2
      have hlt3 := (Array.getElem?_eq_some_iff.1 h3).1
      have hs3 := hk.size
      refine ⟨_, run_endRound jump h3, by rw [hrec], ?_, other.trans h4, (kb2.trans (hk.less (oT T))).trans (Keep.touch (S := fun j => j = w.heap.size + 1) (touch_putObj _ _ rfl) (fun j hj e => hn.1 (e ▸ hj))), by rw [World.putObj_size]; omega⟩
      rw [hrec]; exact World.putObj_heap_same hlt3
    rintro e a3 W3 hp
    cases e with
    | normal =>
      obtain ⟨hk, hi3⟩ := hp
      obtain ⟨W4, hr, rfl, h4, h5, h6, h7⟩ := fin none W3 hk
      exact ⟨_, _, hr, h6, .inl ⟨rfl, turn _ hi3, h4, h5, hn, h7⟩⟩
    | ret =>
      obtain ⟨hk, hi3⟩ := hp
      obtain ⟨W4, hr, rfl, h4, h5, h6, h7⟩ := fin (some .ret) W3 hk
      exact ⟨_, _, hr, h6, .inr ⟨rfl, .ret, turnX _ hi3, h4, h5, hn, h7⟩⟩
    | exit id =>
      obtain ⟨hk, hi3⟩ := hp
      obtain ⟨W4, hr, rfl, h4, h5, h6, h7⟩ := fin (some (.exit id)) W3 hk
      exact ⟨_, _, hr, h6, .inr ⟨rfl, .exit id, turnX _ hi3, h4, h5, hn, h7⟩⟩
    | goto t =>
      obtain ⟨hk, hi3⟩ := hp
      obtain ⟨W4, hr, rfl, h4, h5, h6, h7⟩ := fin (some (.goto t)) W3 hk
      exact ⟨_, _, hr, h6, .inr ⟨rfl, .goto t, turnX _ hi3, h4, h5, hn, h7⟩⟩
    | panic ch => exact hp.elim
    | outgrown => exact hp.elim
  · -- behind the iterator
    rintro e W2 ⟨⟨v, rfl⟩, T, ⟨hi, hl, hd, _, _⟩ | ⟨pre, hpre, c, hi, hl, hd, _, _⟩⟩
    · refine ⟨none, _, by have := run_endLoop (P := P) hl (by rw [hrec]; simp); rw [hrec] at this; exact this, ?_⟩
      exact hdone _ (O T) _ (Nat.le_refl _) (oD T) (turn _ hi) (other.trans hd)
    · refine ⟨some c, _, by have := run_endLoop (P := P) hl (by rw [hrec]; simp); rw [hrec] at this; exact this, ?_⟩
      exact hstop _ c (O T) pre _ (Nat.le_refl _) (oD T) hpre (turnX _ hi) (other.trans hd)

end Go.Proofs.Ythhllpnbmelidaa
