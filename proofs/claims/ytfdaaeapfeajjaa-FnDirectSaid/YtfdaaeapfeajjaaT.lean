/- slices.Sort on a slice of the call's own; the towns next to a town. -/
import Derived.Test.YtfdaaeapfeajjaaWC
import Derived.Test.YtfdaaeapfeajjaaR
import Derived.Test.YtfdaaeapfeajjaaI
import Derived.Test.YtfdaaeapfeajjaaS
import Derived.Sort.OwnSortedInts
import Derived.BigRegion
import Derived.OwnWalk
namespace Go.Proofs.Ytfdaaeapfeajjaa
open Go.RowKit Go.Maps Go.Sort

/-- The library's order. -/
def leI : Int → Int → Bool := fun x y => decide (x ≤ y)

def NearOut (n : Int) (g : Int → Int → Option Int) (f : Int → Option Int) (t : Int) (w : World) (e : Ending) (w' : World) : Prop :=
  ∃ b cap, e = .returned (.slice (some ⟨b, 0, none⟩) (nearL n g f t).length cap) ∧ w'.ownsRow w.heap.size 3 1 (.slice (some ⟨b, 0, none⟩) (nearL n g f t).length cap) (nearL n g f t).length ((nearL n g f t).map (Value.int .i64)) ∧ Below w.heap.size w w'

def NearRel (g : Int → Int → Option Int) (f : Int → Option Int) (t : Int) (b cnt : Nat) (D : DataW Unit) (w : World) (gi : Nat) (v : Value) (wq : World) : Prop :=
  ∃ (left : Lit → Bool) (xs : List Int) (g0 cap : Nat), v = .slice (some ⟨g0, 0, none⟩) xs.length cap ∧ wq.ranges Try.prog 3 intElem b (w.heap.size + 1) cnt D left gi ∧ wq.ownsRow w.heap.size 3 1 v xs.length (xs.map (Value.int .i64)) ∧
    xs.Nodup ∧ (∀ x, x ∈ xs ↔ (nearP g f t x = true ∧ left (.int .i64 x) = false)) ∧ xs.length + gi ≤ Maps.size D ∧ Below w.heap.size w wq

theorem near_start {g : Int → Int → Option Int} {f : Int → Option Int} {t : Int} {D : DataW Unit} (hD : ∀ x, W64 x → Maps.has D (.int .i64 x) = ((g t x).map dI).isSome) (hw : ∀ u m, g t u = some m → W64 u) :
    ∀ x, x ∈ ([] : List Int) ↔ (nearP g f t x = true ∧ Maps.has D (.int .i64 x) = false) := fun x => by
  constructor
  · intro h; cases h
  · rintro ⟨h1, h2⟩
    obtain ⟨m, hm, _⟩ := nearP_iff.1 h1
    rw [hD x (hw x m hm), hm] at h2; simp at h2

theorem near_yes {g : Int → Int → Option Int} {f : Int → Option Int} {t : Int} {xs : List Int} {left : Lit → Bool} {y : Int} (h : ∀ x, x ∈ xs ↔ (nearP g f t x = true ∧ left (.int .i64 x) = false)) (hy : nearP g f t y = true) :
    ∀ x, x ∈ xs ++ [y] ↔ (nearP g f t x = true ∧ (left (.int .i64 x) && !(Lit.int .i64 x).sameKey (.int .i64 y)) = false) := fun x => by
  rw [List.mem_append, List.mem_singleton, h, sameKeyI]
  by_cases e : x = y
  · subst e; simp [hy]
  · simp [e]

theorem near_no {g : Int → Int → Option Int} {f : Int → Option Int} {t : Int} {xs : List Int} {left : Lit → Bool} {y : Int} (h : ∀ x, x ∈ xs ↔ (nearP g f t x = true ∧ left (.int .i64 x) = false)) (hy : nearP g f t y = false) :
    ∀ x, x ∈ xs ↔ (nearP g f t x = true ∧ (left (.int .i64 x) && !(Lit.int .i64 x).sameKey (.int .i64 y)) = false) := fun x => by
  rw [h, sameKeyI]
  by_cases e : x = y
  · subst e; simp [hy]
  · simp [e]

theorem near_done {n : Int} {g : Int → Int → Option Int} {f : Int → Option Int} {t : Int} {xs : List Int} {left : Lit → Bool} (he : EdgesOk n g) (h : ∀ x, x ∈ xs ↔ (nearP g f t x = true ∧ left (.int .i64 x) = false)) (hl : ∀ kl, left kl = false) (hd : xs.Nodup) :
    xs.mergeSort leI = nearL n g f t := by
  refine sort_near hd fun x => ?_
  rw [h]
  constructor
  · rintro ⟨h1, _⟩
    obtain ⟨m, hm, _⟩ := nearP_iff.1 h1
    have := he.bd _ _ _ hm
    exact ⟨⟨this.2.2.1, this.2.2.2.1⟩, h1⟩
  · rintro ⟨_, h1⟩; exact ⟨h1, hl _⟩

theorem nodup_snoc {xs : List Int} {y : Int} (h : xs.Nodup) (hy : y ∉ xs) : (xs ++ [y]).Nodup := by
  rw [List.nodup_append]
  exact ⟨h, by simp, fun a ha b hb e => by rw [List.mem_singleton] at hb; subst hb; subst e; exact hy ha⟩

theorem own_shape {w : World} {B k : Nat} {v : Value} {xs : List Value} (h : w.ownsRow B 3 1 v (k + 1) xs) : ∃ g cap, v = .slice (some ⟨g, 0, none⟩) (k + 1) cap := by
  obtain ⟨_, h2⟩ := h
  rcases h2 with ⟨_, h0⟩ | ⟨g, cap, cur, rfl, _⟩
  · omega
  · exact ⟨g, cap, rfl⟩

end Go.Proofs.Ytfdaaeapfeajjaa
