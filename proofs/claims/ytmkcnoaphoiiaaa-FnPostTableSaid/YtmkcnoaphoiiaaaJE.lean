/- Nets in memory: slices of slices of Stop. -/
import Derived.Test.YtmkcnoaphoiiaaaZA
import Derived.Test.YtmkcnoaphoiiaaaZD
import Derived.Test.YtmkcnoaphoiiaaaJ1
namespace Go.Proofs.Ytmkcnoaphoiiaaa
open Go.RowKit

/-- The slices of the list lie in w from ⟨b, o⟩ on. -/
def NtAt (w : World) (b o : Nat) (net : List (List Tz)) : Prop := ∀ i, i < net.length → ∃ u, w.cell? ⟨b, o + i, none⟩ = some u ∧ TzIn w u (coach net i)

theorem NtAt.below {w w' : World} {b o : Nat} {net : List (List Tz)} (h : NtAt w b o net) (hb : Below w.heap.size w w') (hlt : b < w.heap.size) : NtAt w' b o net := fun i hi => by
  obtain ⟨u, h1, h2⟩ := h i hi
  exact ⟨u, by rw [hb.cell (p := ⟨b, o + i, none⟩) hlt]; exact h1, h2.below hb⟩

/-- The slice value v reads in w as the net. -/
def NtIn (w : World) (v : Value) (net : List (List Tz)) : Prop :=
  ∃ (a : Option Addr) (cap : Nat), v = .slice a net.length cap ∧ net.length ≤ cap ∧ (net ≠ [] → ∃ b o, a = some ⟨b, o, none⟩ ∧ b < w.heap.size ∧ NtAt w b o net)

theorem NtIn.below {w w' : World} {v : Value} {net : List (List Tz)} (h : NtIn w v net) (hb : Below w.heap.size w w') : NtIn w' v net := by
  obtain ⟨a, cap, rfl, hc, ha⟩ := h
  refine ⟨a, cap, rfl, hc, fun hl => ?_⟩
  obtain ⟨b, o, rfl, hlt, hr⟩ := ha hl
  exact ⟨b, o, rfl, Nat.lt_of_lt_of_le hlt hb.size, hr.below hb hlt⟩
theorem NtIn.drewN {w : World} {v : Value} {net : List (List Tz)} (h : NtIn w v net) (n : Nat) : NtIn (w.drewN n) v net := h.below ((Below.refl _ _).drewN n)

/-- The net's slices and their stops lie in blocks of their own from A to below B, its slices in the block b. -/
structure NtOwn (w : World) (A B b : Nat) (ads : Nat → Option Addr) (cps : Nat → Nat) (net : List (List Tz)) : Prop where
  lo : A ≤ b ∧ b < B
  hi : B ≤ w.heap.size
  row : ∀ i, i < net.length → w.cell? ⟨b, i, none⟩ = some (.slice (ads i) (coach net i).length (cps i))
  cap : ∀ i, i < net.length → (coach net i).length ≤ cps i
  own : ∀ i, i < net.length → OwnTz w (ads i) (coach net i)
  blk : ∀ i, i < net.length → ∀ p, inBlk (ads i) p → A ≤ p ∧ p < B ∧ p ≠ b
  dis : ∀ i j, i < net.length → j < net.length → i ≠ j → ∀ p, inBlk (ads i) p → ¬ inBlk (ads j) p

section
variable {w w' : World} {A B b : Nat} {ads : Nat → Option Addr} {cps : Nat → Nat} {net : List (List Tz)}

theorem NtOwn.touch {S : Nat → Prop} (h : NtOwn w A B b ads cps net) (ht : Touch S w w') (hS : ∀ p, A ≤ p → p < B → ¬ S p) : NtOwn w' A B b ads cps net := by
  have hb : b < w.heap.size := Nat.lt_of_lt_of_le h.lo.2 h.hi
  refine ⟨h.lo, Nat.le_trans h.hi ht.size, fun i hi => ?_, h.cap, fun i hi => (h.own i hi).touch ht (fun p hp => ?_), h.blk, h.dis⟩
  · rw [World.cell?_of_block (a := ⟨b, i, none⟩) (ht.block b hb (hS b h.lo.1 h.lo.2))]
    exact h.row i hi
  · obtain ⟨h1, h2, _⟩ := h.blk i hi p hp
    exact hS p h1 h2

theorem NtOwn.below (h : NtOwn w A B b ads cps net) (hb : Below w.heap.size w w') : NtOwn w' A B b ads cps net :=
  h.touch (Touch.of_below (S := fun _ => False) hb) (fun _ _ _ h => h)

theorem NtOwn.ins (h : NtOwn w A B b ads cps net) {cap : Nat} (hc : net.length ≤ cap) : NtIn w (.slice (some ⟨b, 0, none⟩) net.length cap) net :=
  ⟨_, cap, rfl, hc, fun _ => ⟨b, 0, rfl, Nat.lt_of_lt_of_le h.lo.2 h.hi, fun i hi => ⟨_, by rw [Nat.zero_add]; exact h.row i hi, (h.own i hi).ins (h.cap i hi)⟩⟩⟩

theorem NtOwn.widen (h : NtOwn w A B b ads cps net) {A' B' : Nat} (hA : A' ≤ A) (hB : B ≤ B') (hs : B' ≤ w.heap.size) : NtOwn w A' B' b ads cps net :=
  ⟨⟨Nat.le_trans hA h.lo.1, Nat.lt_of_lt_of_le h.lo.2 hB⟩, hs, h.row, h.cap, h.own, fun i hi p hp => by obtain ⟨h1, h2, h3⟩ := h.blk i hi p hp; exact ⟨by omega, by omega, h3⟩, h.dis⟩
end

/-- Blocks from A to below B. -/
def inAB (A B : Nat) : Nat → Prop := fun p => A ≤ p ∧ p < B

/-- What a function gives that makes a net, and a bool. -/
def NtOut (xs : List (List Tz)) (ok : Bool) (w : World) (e : Ending) (w' : World) : Prop :=
  ∃ (b cap : Nat) (ads : Nat → Option Addr) (cps : Nat → Nat), e = .returned (.tuple #[.slice (some ⟨b, 0, none⟩) xs.length cap, .bool ok]) ∧ xs.length ≤ cap ∧ NtOwn w' w.heap.size w'.heap.size b ads cps xs ∧ Below w.heap.size w w'

theorem NtOut.no {w w' : World} {g : Nat} (hg : w.heap.size ≤ g) (hl : g < w'.heap.size) (hb : Below w.heap.size w w') : NtOut [] false w (.returned (.tuple #[.slice (some ⟨g, 0, none⟩) 0 0, .bool false])) w' :=
  ⟨g, 0, fun _ => none, fun _ => 0, rfl, Nat.le_refl _, ⟨⟨hg, hl⟩, Nat.le_refl _, fun i hi => by simp at hi, fun i hi => by simp at hi, fun i hi => by simp at hi, fun i hi => by simp at hi, fun i j hi => by simp at hi⟩, hb⟩

/-- How many slices and stops. -/
def totTo (net : List (List Tz)) : Nat → Nat
  | 0 => 0
  | k + 1 => totTo net k + (coach net k).length
theorem totTo_mono (net : List (List Tz)) {k : Nat} : ∀ {m : Nat}, k ≤ m → totTo net k ≤ totTo net m
  | 0, h => by obtain rfl : k = 0 := Nat.le_zero.1 h; exact Nat.le_refl _
  | m + 1, h => by
    by_cases e : k = m + 1
    · rw [e]; exact Nat.le_refl _
    · have := totTo_mono net (show k ≤ m by omega); show totTo net k ≤ totTo net m + _; omega
theorem totTo_at (net : List (List Tz)) {i k : Nat} (h : i < k) : (coach net i).length ≤ totTo net k := by
  have := totTo_mono net (show i + 1 ≤ k by omega)
  have e : totTo net (i + 1) = totTo net i + (coach net i).length := rfl
  omega
def totN (net : List (List Tz)) : Nat := net.length + totTo net net.length

/-- The marks on a net. -/
def marksNt (k : Int) (net : List (List Tz)) : List (List Tz) := (List.range net.length).map fun i => marksTz (k + 3 * (totTo net i : Int)) (coach net i).length
theorem marksNt_len (k : Int) (net : List (List Tz)) : (marksNt k net).length = net.length := by simp [marksNt]
theorem marksNt_at (k : Int) (net : List (List Tz)) {i : Nat} (h : i < net.length) : coach (marksNt k net) i = marksTz (k + 3 * (totTo net i : Int)) (coach net i).length := by
  simp [coach, marksNt, List.getD, h]

end Go.Proofs.Ytmkcnoaphoiiaaa
