/- A net that grows, slice by slice. -/
import Derived.Test.YtmkcnoaphoiiaaaJK
import Derived.Test.YtmkcnoaphoiiaaaJG
namespace Go.Proofs.Ytmkcnoaphoiiaaa
open Go.RowKit

def encN (ads : Nat → Option Addr) (cps : Nat → Nat) (L : List (List Tz)) : List Value := (List.range L.length).map fun i => .slice (ads i) (coach L i).length (cps i)

/-- The slice at the block g, of the call's own from B on, has the slices L, each of its own, too. -/
def GrowN (w : World) (B g cap : Nat) (L : List (List Tz)) : Prop :=
  ∃ (ads : Nat → Option Addr) (cps : Nat → Nat), w.ownsRow B 57 1 (.slice (some ⟨g, 0, none⟩) L.length cap) L.length (encN ads cps L) ∧
    (∀ i, i < L.length → (coach L i).length ≤ cps i ∧ OwnTz w (ads i) (coach L i) ∧ ∀ p, inBlk (ads i) p → B ≤ p ∧ p < w.heap.size ∧ p ≠ g) ∧
    (∀ i j, i < L.length → j < L.length → i ≠ j → ∀ p, inBlk (ads i) p → ¬ inBlk (ads j) p)

theorem GrowN.made (w : World) (B : Nat) (hB : B ≤ w.heap.size) : GrowN (w.alloc (.cells #[] 57)) B w.heap.size 0 [] :=
  ⟨fun _ => none, fun _ => 0, ⟨rfl, .inr ⟨w.heap.size, 0, #[], rfl, hB, heap_alloc_new w _, Nat.le_refl _, by unfold maxLen; omega, rfl, rfl⟩⟩, fun i hi => by simp at hi, fun i j hi => by simp at hi⟩

theorem GrowN.below {w w' : World} {B g cap : Nat} {L : List (List Tz)} (h : GrowN w B g cap L) (hb : Below w.heap.size w w') : GrowN w' B g cap L := by
  obtain ⟨ads, cps, h1, h2, h3⟩ := h
  exact ⟨ads, cps, own_keep h1 hb, fun i hi => by obtain ⟨a, b, c⟩ := h2 i hi; exact ⟨a, b.below hb, fun p hp => by obtain ⟨x, y, z⟩ := c p hp; exact ⟨x, Nat.lt_of_lt_of_le y hb.size, z⟩⟩, h3⟩

theorem GrowN.own {w : World} {B g cap : Nat} {L : List (List Tz)} (h : GrowN w B g cap L) : B ≤ g ∧ g < w.heap.size ∧ L.length ≤ cap := by
  obtain ⟨ads, cps, ⟨_, h1⟩, _⟩ := h
  rcases h1 with ⟨h1, _⟩ | ⟨g', cap', cur, h1, hB, hh, hcap, _⟩
  · cases h1
  · injection h1 with h1 _ h3
    injection h1 with h1
    injection h1 with h1
    subst h1 h3
    exact ⟨hB, (Array.getElem?_eq_some_iff.1 hh).1, hcap⟩

theorem GrowN.done {w : World} {B g cap : Nat} {L : List (List Tz)} (h : GrowN w B g cap L) : ∃ ads cps, NtOwn w B w.heap.size g ads cps L := by
  obtain ⟨h4, h5, h6⟩ := h.own
  obtain ⟨ads, cps, h1, h2, h3⟩ := h
  obtain ⟨a, cap', cb, e, _, hd⟩ := owns_done h1
  injection e with e _ _
  refine ⟨ads, cps, ⟨h4, h5⟩, Nat.le_refl _, fun i hi => ?_, fun i hi => (h2 i hi).1, fun i hi => (h2 i hi).2.1, fun i hi => (h2 i hi).2.2, h3⟩
  obtain ⟨d1, _, _, d2⟩ := hd (by omega)
  rw [d1] at e
  injection e with e
  injection e with e
  rw [e]
  exact d2 i _ (by unfold encN; simp [hi])

theorem coach_snoc_lt (L : List (List Tz)) (l : List Tz) {i : Nat} (h : i < L.length) : coach (L ++ [l]) i = coach L i := by
  simp [coach, List.getD, List.getElem?_append, h]
theorem coach_snoc_eq (L : List (List Tz)) (l : List Tz) {i : Nat} (h : i = L.length) : coach (L ++ [l]) i = l := by
  subst h; simp [coach, List.getD]

theorem encN_snoc (ads : Nat → Option Addr) (cps : Nat → Nat) (L : List (List Tz)) (l : List Tz) (ad : Option Addr) (cp : Nat) :
    encN (fun i => if i = L.length then ad else ads i) (fun i => if i = L.length then cp else cps i) (L ++ [l]) = encN ads cps L ++ [.slice ad l.length cp] := by
  unfold encN
  rw [List.length_append, List.length_singleton, List.range_succ, List.map_append]
  congr 1
  · refine List.map_congr_left fun i hi => ?_
    have := List.mem_range.1 hi
    dsimp only
    rw [if_neg (by omega), if_neg (by omega), coach_snoc_lt L l this]
  · simp only [List.map_cons, List.map_nil]
    simp [coach_snoc_eq L l rfl]

/-- What an append of one more slice gives. -/
theorem GrowN.push {w w2 w8 : World} {B g g2 cap2 : Nat} {L : List (List Tz)} {ads : Nat → Option Addr} {cps : Nat → Nat} {ad : Option Addr} {cp : Nat} {l : List Tz} {A : Obj}
    (hg : B ≤ g ∧ g < w.heap.size) (h2 : ∀ i, i < L.length → (coach L i).length ≤ cps i ∧ OwnTz w (ads i) (coach L i) ∧ ∀ p, inBlk (ads i) p → B ≤ p ∧ p < w.heap.size ∧ p ≠ g)
    (h3 : ∀ i j, i < L.length → j < L.length → i ≠ j → ∀ p, inBlk (ads i) p → ¬ inBlk (ads j) p)
    (hb : Below w.heap.size w w2) (ho : OwnTz w2 ad l) (hc : l.length ≤ cp) (hblk : ∀ p, inBlk ad p → w.heap.size ≤ p ∧ p < w2.heap.size)
    (hown : w8.ownsRow B 57 1 (.slice (some ⟨g2, 0, none⟩) (L.length + 1) cap2) (L.length + 1) (encN ads cps L ++ [.slice ad l.length cp]))
    (hgrow : (w2.alloc A).grownBy w8 (some g)) (hlie : some g = some g2 ∨ g2 = (w2.alloc A).heap.size) : GrowN w8 B g2 cap2 (L ++ [l]) := by
  have hT : Touch (fun p => p = g) w2 w8 := ⟨by rw [hgrow.os]; rfl, by rw [hgrow.tape]; rfl, by rw [hgrow.output]; rfl, by have := hgrow.size; simp at this; omega, fun j hj hS => (hgrow.block j (by simp; omega) (fun e => hS (by injection e with e))).trans (((Below.refl w2.heap.size w2).alloc (Nat.le_refl _) _).block j hj)⟩
  have hsz := hb.size
  have hsz8 := hT.size
  rw [World.size_alloc] at hlie
  have hne : ∀ p, p < w2.heap.size → p ≠ g → p ≠ g2 := fun p hp hp2 e => by
    rcases hlie with h | h
    · injection h with h; omega
    · omega
  refine ⟨fun i => if i = L.length then ad else ads i, fun i => if i = L.length then cp else cps i, ?_, fun i hi => ?_, fun i j hi hj hij => ?_⟩
  · rw [encN_snoc, List.length_append, List.length_singleton]
    exact hown
  · rw [List.length_append, List.length_singleton] at hi
    dsimp only
    by_cases hik : i = L.length
    · rw [if_pos hik, if_pos hik, coach_snoc_eq L l hik]
      refine ⟨hc, ho.touch hT (fun p hp e => by have := hblk p hp; omega), fun p hp => ?_⟩
      have := hblk p hp
      exact ⟨by omega, by omega, hne p this.2 (by omega)⟩
    · rw [if_neg hik, if_neg hik, coach_snoc_lt L l (by omega)]
      obtain ⟨a1, a2, a3⟩ := h2 i (by omega)
      refine ⟨a1, (a2.below hb).touch hT (fun p hp e => (a3 p hp).2.2 e), fun p hp => ?_⟩
      obtain ⟨b1, b2, b3⟩ := a3 p hp
      exact ⟨b1, by omega, hne p (by omega) b3⟩
  · rw [List.length_append, List.length_singleton] at hi hj
    dsimp only
    intro p hp hq
    by_cases hik : i = L.length
    · rw [if_pos hik] at hp
      rw [if_neg (by omega)] at hq
      have := hblk p hp
      have := (h2 j (by omega)).2.2 p hq
      omega
    · rw [if_neg hik] at hp
      by_cases hjk : j = L.length
      · rw [if_pos hjk] at hq
        have := hblk p hq
        have := (h2 i (by omega)).2.2 p hp
        omega
      · rw [if_neg hjk] at hq
        exact h3 i j (by omega) (by omega) hij p hp hq

/-- What lies below B stays. -/
theorem push_below {w2 w8 : World} {B g : Nat} {A : Obj} (hB : B ≤ w2.heap.size) (hg : B ≤ g) (hgrow : (w2.alloc A).grownBy w8 (some g)) : Below B w2 w8 :=
  ((Below.refl B w2).alloc hB A).grown hgrow (by simp; omega) (fun q hq => by injection hq with hq; omega)

end Go.Proofs.Ytmkcnoaphoiiaaa
