/- What turns and what stays; rows of stops of the call's own. -/
import Derived.Test.YtmkcnoaphoiiaaaSM
import Derived.Laws.AppendOwn
import Derived.OwnWalk
namespace Go.Proofs.Ytmkcnoaphoiiaaa
open Go.RowKit

/-- A slice of roads of the call's own, room and all. -/
def OwnRd (w : World) (ad : Option Addr) (l : List Rd) : Prop := l ≠ [] → ∃ b, ad = some ⟨b, 0, none⟩ ∧ b < w.heap.size ∧ RowAt w b 0 l ∧ Room w b (l.length * 3)

theorem OwnRd.touch {w w' : World} {ad : Option Addr} {l : List Rd} {S : Nat → Prop} (h : OwnRd w ad l) (ht : Touch S w w') (hS : ∀ j, inBlk ad j → ¬ S j) : OwnRd w' ad l := fun hne => by
  obtain ⟨b, rfl, hb, hi, hr⟩ := h hne
  have hk := ht.block b hb (hS b ⟨0, rfl⟩)
  have kc : ∀ j, w'.cell? ⟨b, j, none⟩ = w.cell? ⟨b, j, none⟩ := fun j => World.cell?_of_block (a := ⟨b, j, none⟩) hk
  refine ⟨b, rfl, Nat.lt_of_lt_of_le hb ht.size, fun i hi' => ?_, fun j hj => ?_, fun o => ?_⟩
  · obtain ⟨c0, c1, c2⟩ := hi i hi'
    exact ⟨(kc _).trans c0, (kc _).trans c1, (kc _).trans c2⟩
  · rw [kc]; exact hr.1 j hj
  · rw [World.frozen?_of_block (a := ⟨b, o, none⟩) hk]; exact hr.2 o

theorem OwnRd.below {w w' : World} {ad : Option Addr} {l : List Rd} (h : OwnRd w ad l) (hb : Below w.heap.size w w') : OwnRd w' ad l :=
  h.touch (Touch.of_below (S := fun _ => False) hb) (fun _ _ h => h)

theorem OwnRd.ins {w : World} {ad : Option Addr} {l : List Rd} {cap : Nat} (h : OwnRd w ad l) : RoadsIn w (.slice ad l.length cap) l :=
  ⟨ad, cap, rfl, fun hne => by obtain ⟨b, rfl, hb, hi, _⟩ := h hne; exact ⟨b, 0, rfl, hb, hi⟩⟩

def encR (l : List Rd) : List Value := l.flatMap fun r => [.int .i64 r.a, .int .i64 r.b, .int .i64 r.m]

theorem encR_len : ∀ (l : List Rd), (encR l).length = l.length * 3
  | [] => rfl
  | r :: l => by
    have ih := encR_len l
    have e : encR (r :: l) = .int .i64 r.a :: .int .i64 r.b :: .int .i64 r.m :: encR l := rfl
    rw [e]; simp only [List.length_cons]; omega

theorem encR_get : ∀ (l : List Rd) (i : Nat), i < l.length → (encR l)[i * 3]? = some (.int .i64 (l.getD i rd0).a) ∧ (encR l)[i * 3 + 1]? = some (.int .i64 (l.getD i rd0).b) ∧ (encR l)[i * 3 + 2]? = some (.int .i64 (l.getD i rd0).m)
  | r :: l, 0, _ => ⟨rfl, rfl, rfl⟩
  | r :: l, i + 1, h => by
    have ih := encR_get l i (by simpa using h)
    have e : encR (r :: l) = .int .i64 r.a :: .int .i64 r.b :: .int .i64 r.m :: encR l := rfl
    rw [e]
    have e1 : (i + 1) * 3 = i * 3 + 1 + 1 + 1 := by omega
    rw [e1]
    simpa using ih

theorem encR_snoc (l : List Rd) (r : Rd) : encR (l ++ [r]) = encR l ++ [.int .i64 r.a, .int .i64 r.b, .int .i64 r.m] := by simp [encR]

/-- The slice v is a row of the call's own, of blocks from B on; it reads as l. -/
def OwnS (w : World) (B : Nat) (v : Value) (l : List Rd) : Prop := w.ownsRow B 77 3 v l.length (encR l)

theorem OwnS.row {w : World} {B : Nat} {v : Value} {l : List Rd} (h : OwnS w B v l) : ∃ (ad : Option Addr) (cap : Nat), v = .slice ad l.length cap ∧ OwnRd w ad l ∧ (∀ j, inBlk ad j → B ≤ j ∧ j < w.heap.size) := by
  obtain ⟨hlen, h⟩ := h
  rcases h with ⟨rfl, h0⟩ | ⟨g, cap, cur, rfl, hB, hh, hcap, hmax, hs, htk⟩
  · have : l = [] := List.eq_nil_of_length_eq_zero h0
    subst this
    exact ⟨none, 0, rfl, fun h => absurd rfl h, fun j hj => by obtain ⟨o, ho⟩ := hj; cases ho⟩
  · have hg : g < w.heap.size := (Array.getElem?_eq_some_iff.1 hh).1
    refine ⟨some ⟨g, 0, none⟩, cap, rfl, fun _ => ⟨g, rfl, hg, fun i hi => ?_, ⟨fun j hj => ?_, fun o => ?_⟩⟩, fun j hj => by obtain ⟨o, ho⟩ := hj; cases ho; exact ⟨hB, hg⟩⟩
    · obtain ⟨c0, c1, c2⟩ := encR_get l i hi
      have key : ∀ j v, (encR l)[j]? = some v → w.cell? ⟨g, j, none⟩ = some v := fun j v hj => by
        rw [cell_of_row w g j cur 77 (0, 0) hh]
        rw [← htk, List.getElem?_take] at hj
        split at hj
        · simpa using hj
        · cases hj
      simp only [Nat.zero_add]
      exact ⟨key _ _ c0, key _ _ c1, key _ _ c2⟩
    · rw [cell_of_row w g j cur 77 (0, 0) hh]
      have hle : l.length * 3 ≤ cap * 3 := Nat.mul_le_mul_right 3 hcap
      exact ⟨_, Array.getElem?_eq_getElem (by omega)⟩
    · simp [World.frozen?, hh]

theorem OwnS.made (w : World) (B : Nat) (hB : B ≤ w.heap.size) : OwnS (w.alloc (.cells #[] 77)) B (.slice (some ⟨w.heap.size, 0, none⟩) 0 0) [] :=
  ⟨rfl, .inr ⟨w.heap.size, 0, #[], rfl, hB, heap_alloc_new w _, Nat.le_refl _, by unfold maxLen; omega, rfl, rfl⟩⟩

theorem OwnS.below {w w' : World} {B : Nat} {v : Value} {l : List Rd} (h : OwnS w B v l) (hb : Below w.heap.size w w') : OwnS w' B v l := by
  obtain ⟨h1, h2⟩ := h
  refine ⟨h1, ?_⟩
  rcases h2 with h0 | ⟨g, cap, cur, rfl, hg, hh, r⟩
  · exact .inl h0
  · exact .inr ⟨g, cap, cur, rfl, hg, (hb.block g (Array.getElem?_eq_some_iff.1 hh).1).trans hh, r⟩

theorem OwnS.snoc {w : World} {B : Nat} {v : Value} {l : List Rd} {r : Rd} (h : w.ownsRow B 77 3 v (l.length + 1) (encR l ++ [.int .i64 r.a, .int .i64 r.b, .int .i64 r.m])) : OwnS w B v (l ++ [r]) := by
  unfold OwnS
  rw [encR_snoc, List.length_append]
  exact h

theorem stopInfo : (Try.prog.info? 77).map (fun i => (i.zero, i.size, i.bytes)) = some (some (.agg #[.int .i64 0, .int .i64 0, .int .i64 0]), 3, 24) := by kernel_rfl

end Go.Proofs.Ytmkcnoaphoiiaaa
