/- Slices of ints: memory; the laws' helpers toIntS, eqIntS, markIntS, heldIntS. -/
import Derived.Test.YtmphpbjmpokjjabRows
import Derived.Test.YtmphpbjmpokjjabM
import Derived.WalkKit
import Derived.WalkSpells
import Derived.WalkLawsBesides
import Derived.Lib.Hide
import Derived.IntWalk
import Derived.Deep.QuietTactic
import Derived.BigQuiet
import Derived.Laws.MakeOwn
namespace Go.Proofs.Ytmphpbjmpokjjab
open Go.RowKit

/-- The numbers l lie in w from ⟨b, o⟩ on. -/
def IntAt (w : World) (b o : Nat) (l : List Int) : Prop := ∀ i, i < l.length → w.cell? ⟨b, o + i, none⟩ = some (.int .i64 (l.getD i 0))

theorem IntAt.below {w w' : World} {b o : Nat} {l : List Int} (h : IntAt w b o l) {B : Nat} (hb : Below B w w') (hlt : b < B) : IntAt w' b o l := fun i hi => by
  rw [hb.cell (p := ⟨b, o + i, none⟩) hlt]; exact h i hi

/-- The slice value v reads in w as the numbers l. -/
def IntsIn (w : World) (v : Value) (l : List Int) : Prop :=
  ∃ (a : Option Addr) (cap : Nat), v = .slice a l.length cap ∧ l.length ≤ cap ∧ (l ≠ [] → ∃ b o, a = some ⟨b, o, none⟩ ∧ b < w.heap.size ∧ IntAt w b o l)

theorem IntsIn.below {w w' : World} {v : Value} {l : List Int} (h : IntsIn w v l) (hb : Below w.heap.size w w') : IntsIn w' v l := by
  obtain ⟨a, cap, rfl, hc, ha⟩ := h
  refine ⟨a, cap, rfl, hc, fun hl => ?_⟩
  obtain ⟨b, o, rfl, hlt, hr⟩ := ha hl
  exact ⟨b, o, rfl, Nat.lt_of_lt_of_le hlt hb.size, hr.below hb hlt⟩

theorem IntsIn.row {w : World} {b cap : Nat} {l : List Int} (hb : b < w.heap.size) (hc : l.length ≤ cap) (h : IntAt w b 0 l) : IntsIn w (.slice (some ⟨b, 0, none⟩) l.length cap) l :=
  ⟨_, _, rfl, hc, fun _ => ⟨b, 0, rfl, hb, h⟩⟩

def IntWf (l : List Int) : Prop := ∀ x ∈ l, W64 x

theorem getI (l : List Int) {i : Nat} (h : i < l.length) : l.getD i 0 = l[i] := by simp [List.getD, h]

/-- One more number is stored behind those that lie there. -/
theorem IntAt.push {w : World} {b n : Nat} {l : List Int} {k : Nat} (hk : k < l.length) (hn : l.length ≤ n) (h : IntAt w b 0 (l.take k)) (hr : Room w b n) {x : Int} (hx : x = l.getD k 0) :
    IntAt (w.setCell ⟨b, k, none⟩ (.int .i64 x)) b 0 (l.take (k + 1)) := by
  subst hx
  intro i hi
  simp only [List.length_take] at hi
  by_cases hik : i = k
  · subst hik
    have e : (l.take (i + 1)).getD i 0 = l.getD i 0 := by simp [List.getD]
    rw [e]
    simp only [Nat.zero_add]
    obtain ⟨u, hu⟩ := hr.1 i (by omega)
    exact World.cell?_setCell_same _ _ _ hu
  · have e : (l.take (k + 1)).getD i 0 = (l.take k).getD i 0 := by simp [List.getD, show i < k by omega, show i < k + 1 by omega]
    rw [e]
    have h0 := h i (by simp; omega)
    simp only [Nat.zero_add] at h0 ⊢
    rw [World.cell?_setCell_other _ _ _ _ (by intro e; injection e; omega)]
    exact h0

theorem Try.info3 : (Try.prog.info? 3).map (fun i => (i.zero, i.size, i.bytes)) = some (some (.int .i64 0), 1, 8) := by kernel_rfl

/-- A new row of its own, which reads as l. -/
def NewInts (l : List Int) (w : World) (e : Ending) (w' : World) : Prop :=
  ∃ b, e = .returned (.slice (some ⟨b, 0, none⟩) l.length l.length) ∧ w.heap.size ≤ b ∧ b < w'.heap.size ∧ IntAt w' b 0 l ∧ Room w' b l.length ∧ Below w.heap.size w w'

def ToIRel (l : List Int) (w : World) (i : Value) (wr : World) : Prop :=
  ∃ k : Nat, k ≤ l.length ∧ i = .int .i64 k ∧ IntAt wr w.heap.size 0 (l.take k) ∧ Room wr w.heap.size l.length ∧ Below w.heap.size w wr ∧ w.heap.size < wr.heap.size


def eqITo (l l' : List Int) (k : Nat) : Prop := ∀ i, i < k → l.getD i 0 = l'.getD i 0

theorem eqITo_all {l l' : List Int} (h : l.length = l'.length) (he : eqITo l l' l.length) : l = l' := by
  refine List.ext_getElem h fun i h1 h2 => ?_
  have := he i h1
  rwa [getI l h1, getI l' h2] at this

/-- A bool that says whether the two are one. -/
def EqIOut (p : Prop) (w : World) (e : Ending) (w' : World) : Prop := (∃ x : Bool, e = .returned (.bool x) ∧ (x = true ↔ p)) ∧ Below w.heap.size w w'

def EqIRel (l l' : List Int) (w : World) (i : Value) (wr : World) : Prop := ∃ k : Nat, k ≤ l.length ∧ i = .int .i64 k ∧ eqITo l l' k ∧ Below w.heap.size w wr


end Go.Proofs.Ytmphpbjmpokjjab

