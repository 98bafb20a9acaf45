/- What a law's marks leave as it was. -/
import Derived.Test.YtnlhnibhgpelfaaAB
namespace Go.Proofs.Ytnlhnibhgpelfaa
open Go.RowKit Go.Maps

theorem OwnI.touch {w w' : World} {ad : Option Addr} {l : List Int} {S : Nat → Prop} (h : OwnI w ad l) (ht : Touch S w w') (hS : ∀ j, inBlk ad j → ¬ S j) : OwnI w' ad l := fun hne => by
  obtain ⟨b, rfl, hb, hi, hr⟩ := h hne
  have hk := ht.block b hb (hS b ⟨0, rfl⟩)
  refine ⟨b, rfl, Nat.lt_of_lt_of_le hb ht.size, fun i hi' => ?_, fun j hj => ?_, fun o => ?_⟩
  · rw [World.cell?_of_block (a := ⟨b, 0 + i, none⟩) hk]; exact hi i hi'
  · rw [World.cell?_of_block (a := ⟨b, j, none⟩) hk]; exact hr.1 j hj
  · rw [World.frozen?_of_block (a := ⟨b, o, none⟩) hk]; exact hr.2 o

theorem OwnI.below {w w' : World} {ad : Option Addr} {l : List Int} (h : OwnI w ad l) (hb : Below w.heap.size w w') : OwnI w' ad l :=
  h.touch (Touch.of_below (S := fun _ => False) hb) (fun _ _ h => h)

theorem OwnI.ints {w : World} {ad : Option Addr} {l : List Int} {cap : Nat} (h : OwnI w ad l) (hc : l.length ≤ cap) : IntsIn w (.slice ad l.length cap) l :=
  ⟨ad, cap, rfl, hc, fun hne => by obtain ⟨b, rfl, hb, hi, _⟩ := h hne; exact ⟨b, 0, rfl, hb, hi⟩⟩

theorem wayL_len (n : Int) (l : List Rd) (b : Int) : ∀ k t, (wayL n l b k t).length ≤ k + 1
  | 0, t => by simp [wayL]
  | k + 1, t => by
    unfold wayL
    split
    · simp
    · have := wayL_len n l b k (nextT n l b t)
      simp only [List.length_cons]; omega

theorem wayOf_len (n : Int) (l : List Rd) (a b : Int) : (wayOf n l a b).length ≤ 1048576 := by
  unfold wayOf
  split
  · have := wayL_len n l b 800 a; omega
  · simp

end Go.Proofs.Ytnlhnibhgpelfaa
