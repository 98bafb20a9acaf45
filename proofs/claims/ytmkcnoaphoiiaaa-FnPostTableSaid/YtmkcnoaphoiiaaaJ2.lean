/- Nets, pure: letters that spread from town to town, each time only if none was there as early. -/
import Derived.Test.YtmkcnoaphoiiaaaJ1
namespace Go.Proofs.Ytmkcnoaphoiiaaa

/-- A letter in a town at a time, behind some rides. -/
structure Ltr where
  u : Int
  t : Int
  r : Int

/-- Whether a letter takes a coach that leaves at m. -/
def catL (ch : Int) (l : Ltr) (m : Int) : Bool := if l.r = 0 then decide (l.t ≤ m) else decide (l.t + ch ≤ m)

/-- The letters that one coach brings: from the stop i on to those behind it. -/
def subC (l : List Rd) (r : Int) (i : Nat) : List Ltr := ((List.range l.length).drop (i + 1)).map fun j => ⟨(l.getD j rd0).a, (l.getD j rd0).b, r + 1⟩
def subsC (ch : Int) (x : Ltr) (l : List Rd) : List Ltr :=
  match atS l x.u with
  | none => []
  | some i => if catL ch x (l.getD i rd0).m then subC l x.r i else []
def subs (net : List (List Rd)) (ch : Int) (x : Ltr) : List Ltr := net.flatMap (subsC ch x)

/-- A table by keys: who was where earliest. -/
abbrev Tbl := Int → Int → Option Ltr

/-- What a callback does: f l says whether the letter counts; key r u. -/
structure Kp where
  g : Ltr → Bool
  k : Ltr → Int

def beat (o : Option Ltr) (x : Ltr) : Bool := match o with | none => true | some y => decide (x.t < y.t)
def putT (T : Tbl) (k u : Int) (x : Ltr) : Tbl := fun k' u' => if k' = k ∧ u' = u then some x else T k' u'
def impr (κ : Kp) (T : Tbl) (x : Ltr) : Tbl × Bool :=
  if κ.g x = true ∧ beat (T (κ.k x) x.u) x = true then (putT T (κ.k x) x.u x, true) else (T, false)

/-- The table behind the spreading of a letter. -/
def spr (κ : Kp) (net : List (List Rd)) (ch : Int) : Nat → Tbl → Ltr → Tbl
  | 0, T, _ => T
  | d + 1, T, x => if (impr κ T x).2 = true then (subs net ch x).foldl (fun T y => spr κ net ch d T y) (impr κ T x).1 else T

def sprL (κ : Kp) (net : List (List Rd)) (ch : Int) (d : Nat) (T : Tbl) (ls : List Ltr) : Tbl := ls.foldl (fun T y => spr κ net ch d T y) T

theorem sprL_cons (κ : Kp) (net : List (List Rd)) (ch : Int) (d : Nat) (T : Tbl) (y : Ltr) (ls : List Ltr) : sprL κ net ch d T (y :: ls) = sprL κ net ch d (spr κ net ch d T y) ls := rfl
theorem sprL_append (κ : Kp) (net : List (List Rd)) (ch : Int) (d : Nat) (T : Tbl) (ls ls' : List Ltr) : sprL κ net ch d T (ls ++ ls') = sprL κ net ch d (sprL κ net ch d T ls) ls' := by unfold sprL; rw [List.foldl_append]

def LeT (T T' : Tbl) : Prop := ∀ k u y, T' k u = some y → ∃ x, T k u = some x ∧ x.t ≤ y.t
theorem LeT.refl (T : Tbl) : LeT T T := fun _ _ y h => ⟨y, h, by omega⟩
theorem LeT.trans {A B C : Tbl} (h : LeT A B) (h' : LeT B C) : LeT A C := fun k u y e => by
  obtain ⟨x, e1, h1⟩ := h' k u y e
  obtain ⟨z, e2, h2⟩ := h k u x e1
  exact ⟨z, e2, by omega⟩

theorem impr_le (κ : Kp) (T : Tbl) (x : Ltr) : LeT (impr κ T x).1 T := by
  unfold impr
  split
  · rename_i h
    intro k u y e
    unfold putT
    simp only
    split
    · rename_i hk
      rw [hk.1, hk.2] at e
      have h2 := h.2
      rw [e] at h2
      simp only [beat, decide_eq_true_eq] at h2
      exact ⟨x, rfl, by omega⟩
    · exact ⟨y, e, by omega⟩
  · exact LeT.refl T

/-- A letter that counts is there, or one as early. -/
def Has (κ : Kp) (T : Tbl) (x : Ltr) : Prop := κ.g x = true → ∃ y, T (κ.k x) x.u = some y ∧ y.t ≤ x.t
theorem Has.le {κ : Kp} {T T' : Tbl} {x : Ltr} (h : Has κ T' x) (hl : LeT T T') : Has κ T x := fun hg => by
  obtain ⟨y, e, h1⟩ := h hg
  obtain ⟨z, e2, h2⟩ := hl _ _ _ e
  exact ⟨z, e2, by omega⟩

/-- What has become earlier is done: all that it brings is there. -/
def DoneT (κ : Kp) (net : List (List Rd)) (ch : Int) (T' T : Tbl) : Prop := ∀ k u x, T' k u = some x → T k u = some x ∨ ∀ y ∈ subs net ch x, Has κ T' y

theorem doneT_trans {κ : Kp} {net : List (List Rd)} {ch : Int} {A B C : Tbl} (h : DoneT κ net ch A B) (h' : DoneT κ net ch B C) (hl : LeT A B) : DoneT κ net ch A C := fun k u x e => by
  rcases h k u x e with e' | e'
  · rcases h' k u x e' with e2 | e2
    · exact .inl e2
    · exact .inr fun y hy => (e2 y hy).le hl
  · exact .inr e'

theorem impr_has (κ : Kp) (T : Tbl) (x : Ltr) : Has κ (impr κ T x).1 x := by
  intro hg
  unfold impr
  split
  · exact ⟨x, by simp [putT], by omega⟩
  · rename_i h
    have hb : ¬ beat (T (κ.k x) x.u) x = true := fun hb => h ⟨hg, hb⟩
    cases e : T (κ.k x) x.u with
    | none => rw [e] at hb; simp [beat] at hb
    | some y =>
      rw [e] at hb
      simp only [beat, decide_eq_true_eq] at hb
      exact ⟨y, e, by omega⟩

/-- All letters that a property keeps have it. -/
theorem sprL_all {κ : Kp} {net : List (List Rd)} {ch : Int} {d : Nat} (hs : ∀ T y, LeT (spr κ net ch d T y) T) : ∀ (ls : List Ltr) (T : Tbl), LeT (sprL κ net ch d T ls) T
  | [], T => LeT.refl T
  | y :: ls, T => by rw [sprL_cons]; exact (sprL_all hs ls _).trans (hs T y)

theorem spr_le (κ : Kp) (net : List (List Rd)) (ch : Int) : ∀ (d : Nat) (T : Tbl) (x : Ltr), LeT (spr κ net ch d T x) T
  | 0, T, _ => LeT.refl T
  | d + 1, T, x => by
    unfold spr
    split
    · exact LeT.trans (sprL_all (spr_le κ net ch d) (subs net ch x) _) (impr_le κ T x)
    · exact LeT.refl T

theorem sprL_le (κ : Kp) (net : List (List Rd)) (ch : Int) (d : Nat) (ls : List Ltr) (T : Tbl) : LeT (sprL κ net ch d T ls) T := sprL_all (spr_le κ net ch d) ls T

def SubsUp (net : List (List Rd)) (ch : Int) : Prop := ∀ x : Ltr, 0 ≤ x.r → ∀ y ∈ subs net ch x, x.t < y.t ∧ y.t ≤ 10000 ∧ y.r = x.r + 1

theorem spr_done {κ : Kp} {net : List (List Rd)} {ch : Int} (hu : SubsUp net ch) : ∀ (d : Nat) (T : Tbl) (x : Ltr), 10000 < (d : Int) + x.t → x.t ≤ 10000 → 0 ≤ x.r →
    Has κ (spr κ net ch d T x) x ∧ DoneT κ net ch (spr κ net ch d T x) T
  | 0, T, x, h, h', _ => by omega
  | d + 1, T, x, h, h', hr => by
    have key : ∀ (ls : List Ltr) (T : Tbl), (∀ y ∈ ls, 10000 < (d : Int) + y.t ∧ y.t ≤ 10000 ∧ 0 ≤ y.r) → (∀ y ∈ ls, Has κ (sprL κ net ch d T ls) y) ∧ DoneT κ net ch (sprL κ net ch d T ls) T := by
      intro ls
      induction ls with
      | nil => intro T _; exact ⟨fun y hy => (by cases hy), fun k u x e => .inl e⟩
      | cons y ls ih =>
        intro T hy
        rw [sprL_cons]
        obtain ⟨y1, y2, y3⟩ := hy y (List.mem_cons_self ..)
        obtain ⟨a1, a2⟩ := spr_done hu d T y y1 y2 y3
        obtain ⟨b1, b2⟩ := ih (spr κ net ch d T y) fun z hz => hy z (List.mem_cons_of_mem _ hz)
        have hle := sprL_le κ net ch d ls (spr κ net ch d T y)
        refine ⟨fun z hz => ?_, doneT_trans b2 a2 hle⟩
        rcases List.mem_cons.1 hz with rfl | hz
        · exact a1.le hle
        · exact b1 z hz
    unfold spr
    split
    · rename_i hi
      have hsub : ∀ y ∈ subs net ch x, 10000 < (d : Int) + y.t ∧ y.t ≤ 10000 ∧ 0 ≤ y.r := fun y hy => by
        obtain ⟨h1, h2, h3⟩ := hu x hr y hy
        omega
      obtain ⟨k1, k2⟩ := key (subs net ch x) (impr κ T x).1 hsub
      have hle := sprL_le κ net ch d (subs net ch x) (impr κ T x).1
      refine ⟨(impr_has κ T x).le hle, fun k u z e => ?_⟩
      rcases k2 k u z e with e' | e'
      · unfold impr at e' hi
        split at e'
        · simp only [putT] at e'
          split at e'
          · injection e' with e'
            subst e'
            exact .inr k1
          · exact .inl e'
        · exact .inl e'
      · exact .inr e'
    · rename_i hi
      refine ⟨?_, fun k u z e => .inl e⟩
      have := impr_has κ T x
      have e : (impr κ T x).1 = T := by
        unfold impr at hi ⊢
        split
        · rename_i hh; rw [if_pos hh] at hi; exact absurd rfl hi
        · rfl
      rw [e] at this
      exact this

/-- What holds of a letter, and goes on to those that it brings, holds of all that lie in the table. -/
theorem spr_inv {κ : Kp} {net : List (List Rd)} {ch : Int} {P : Ltr → Prop} (hP : ∀ x, P x → ∀ y ∈ subs net ch x, P y) : ∀ (d : Nat) (T : Tbl) (x : Ltr), P x → (∀ k u y, T k u = some y → P y ∧ y.u = u ∧ κ.k y = k ∧ κ.g y = true) →
    ∀ k u y, spr κ net ch d T x k u = some y → P y ∧ y.u = u ∧ κ.k y = k ∧ κ.g y = true
  | 0, T, x, _, hT => hT
  | d + 1, T, x, hx, hT => by
    have key : ∀ (ls : List Ltr) (T : Tbl), (∀ y ∈ ls, P y) → (∀ k u y, T k u = some y → P y ∧ y.u = u ∧ κ.k y = k ∧ κ.g y = true) → ∀ k u y, sprL κ net ch d T ls k u = some y → P y ∧ y.u = u ∧ κ.k y = k ∧ κ.g y = true := by
      intro ls
      induction ls with
      | nil => intro T _ hT; exact hT
      | cons y ls ih => intro T hy hT; rw [sprL_cons]; exact ih _ (fun z hz => hy z (List.mem_cons_of_mem _ hz)) (spr_inv hP d T y (hy y (List.mem_cons_self ..)) hT)
    unfold spr
    split
    · refine key (subs net ch x) _ (hP x hx) ?_
      intro k u y e
      unfold impr at e
      split at e
      · rename_i hg
        simp only [putT] at e
        split at e
        · rename_i hk
          injection e with e
          subst e
          exact ⟨hx, hk.2.symm, hk.1.symm, hg.1⟩
        · exact hT k u y e
      · exact hT k u y e
    · exact hT

end Go.Proofs.Ytmkcnoaphoiiaaa
