/- One round of Dijkstra's walk; no program. -/
import Derived.Test.YtfdaaeapfeajjaaD
import Derived.Test.YtfdaaeapfeajjaaH
namespace Go.Proofs.Ytfdaaeapfeajjaa

def setFar (far : Int → Option Int) (t f : Int) : Int → Option Int := fun x => if x = t then some f else far x

/-- How many towns are not final. -/
def unfin (far : Int → Option Int) (n : Nat) : Nat := (List.range n).countP fun (i : Nat) => (far (i : Int)).isNone

theorem unfin_set {far : Int → Option Int} {n : Nat} {t f : Int} (h0 : 0 ≤ t) (h1 : t < n) (hn : far t = none) : unfin (setFar far t f) n + 1 ≤ unfin far n := by
  refine countP_lt (a := t.toNat) (fun a ha => ?_) (by simp; omega) ?_ ?_
  · unfold setFar at ha
    split at ha
    · simp at ha
    · exact ha
  · rw [Int.toNat_of_nonneg h0, hn]; rfl
  · rw [Int.toNat_of_nonneg h0]; simp [setFar]

theorem unfin_le (far : Int → Option Int) (n : Nat) : unfin far n ≤ n := by
  unfold unfin
  exact Nat.le_trans List.countP_le_length (by simp)

def ahead (l : List Pl) : Int → Int → Prop := fun t f => (t, f) ∈ l

/-- A place of a final town is struck. -/
theorem Dij.drop {e far} {s : Int} {l l' : List Pl} {x : Pl} (h : Dij e s far (ahead l)) {d : Int} (hx : far x.1 = some d) (h1 : ∀ p, p ∈ l' → p ∈ l) (h2 : ∀ p, p ∈ l → p = x ∨ p ∈ l') : Dij e s far (ahead l') := by
  refine ⟨h.fin, fun t f ha => h.way t f (h1 _ ha), fun t d' u m ht he hu => ?_, fun hs => ?_⟩
  · rcases h2 _ (h.out t d' u m ht he hu) with h' | h'
    · rw [← h'] at hx; simp only at hx; rw [hu] at hx; cases hx
    · exact h'
  · rcases h2 _ (h.start hs) with h' | h'
    · rw [← h'] at hx; simp only at hx; rw [hs] at hx; cases hx
    · exact h'

/-- A town becomes final; its neighbors lie ahead. -/
theorem Dij.final {e far} {s : Int} (hp : Pos e) {l l1 l2 : List Pl} {x : Pl} (h : Dij e s far (ahead l)) (hx : x ∈ l) (hmin : ∀ p, p ∈ l → x.2 ≤ p.2) (hn : far x.1 = none) (h2 : ∀ p, p ∈ l → p = x ∨ p ∈ l1) (h1 : ∀ p, p ∈ l1 → p ∈ l)
    (hl2 : ∀ p, p ∈ l2 ↔ (p ∈ l1 ∨ ∃ u m, e x.1 u = some m ∧ p = (u, x.2 + m))) : Dij e s (setFar far x.1 x.2) (ahead l2) := by
  have hd : Dist e s x.1 x.2 := by
    rcases h.take hp (t := x.1) (f := x.2) hx (fun u g hu => hmin (u, g) hu) with h' | ⟨d, hd⟩
    · exact h'
    · rw [hn] at hd; cases hd
  refine ⟨fun t d ht => ?_, fun t f ha => ?_, fun t d u m ht he hu => ?_, fun hs => ?_⟩
  · unfold setFar at ht
    split at ht
    · rename_i hte; subst hte; injection ht with ht; subst ht; exact hd
    · exact h.fin t d ht
  · rcases (hl2 _).1 ha with h' | ⟨u, m, he, h'⟩
    · exact h.way t f (h1 _ h')
    · injection h' with e1 e2; subst e1 e2; exact .snoc hd.1 he
  · have hut : u ≠ x.1 := fun e => by subst e; simp [setFar] at hu
    have hu' : far u = none := by simpa [setFar, hut] using hu
    refine (hl2 _).2 ?_
    unfold setFar at ht
    split at ht
    · rename_i hte; subst hte; injection ht with ht; subst ht
      exact .inr ⟨u, m, he, rfl⟩
    · rcases h2 _ (h.out t d u m ht he hu') with h' | h'
      · exact absurd (congrArg Prod.fst h') hut
      · exact .inl h'
  · have hsx : s ≠ x.1 := fun e => by subst e; simp [setFar] at hs
    have hs' : far s = none := by simpa [setFar, hsx] using hs
    refine (hl2 _).2 ?_
    rcases h2 _ (h.start hs') with h' | h'
    · exact absurd (congrArg Prod.fst h') hsx
    · exact .inl h'

theorem Dij.init {e} (s : Int) : Dij e s (fun _ => none) (ahead [(s, 0)]) := by
  refine ⟨(fun t d h => by cases h), (fun t f ha => ?_), (fun t d u m h => by cases h), (fun _ => by simp [ahead])⟩
  simp [ahead] at ha
  obtain ⟨rfl, rfl⟩ := ha
  exact .nil _

/-- The distances of a town; none if there is no such town. -/
noncomputable def distN (n : Int) (e : Int → Int → Option Int) (s t : Int) : Option Int := if 0 ≤ s ∧ s < n then distO e s t else none

end Go.Proofs.Ytfdaaeapfeajjaa
