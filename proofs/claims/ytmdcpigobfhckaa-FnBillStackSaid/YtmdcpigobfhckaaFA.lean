/- Slices of Parcel: the record, rows in memory, rows of the call's own. -/
import Derived.Test.YtmdcpigobfhckaaM
import Derived.Test.YtmdcpigobfhckaaTC
namespace Go.Proofs.Ytmdcpigobfhckaa
open Go.RowKit

structure Fr where
  a : Int
  b : Int
  m : Int
def fr0 : Fr := ⟨0, 0, 0⟩

theorem Fr.take_snoc (l : List Fr) (k : Nat) (h : k < l.length) : l.take (k + 1) = l.take k ++ [l.getD k fr0] := by
  rw [List.take_succ_eq_append_getElem h]; simp [List.getD, h]
theorem Fr.getD_take (l : List Fr) {i k : Nat} (h : i < k) : (l.take k).getD i fr0 = l.getD i fr0 := by
  simp [List.getD, h]
theorem Fr.getD_eq (l : List Fr) {i : Nat} (h : i < l.length) : l.getD i fr0 = l[i] := by simp [List.getD, h]
theorem Fr.getD_snoc_lt (l : List Fr) (r : Fr) {i : Nat} (h : i < l.length) : (l ++ [r]).getD i fr0 = l.getD i fr0 := by
  simp [List.getD, List.getElem?_append, h]
theorem Fr.getD_snoc_eq (l : List Fr) (r : Fr) {i : Nat} (h : i = l.length) : (l ++ [r]).getD i fr0 = r := by
  subst h; simp [List.getD]

/-- The list l lies in w from ⟨b, o⟩ on. -/
def FrAt (w : World) (b o : Nat) (l : List Fr) : Prop :=
  ∀ i, i < l.length → w.cell? ⟨b, o + i * 3, none⟩ = some (.int .i64 (l.getD i fr0).a) ∧ w.cell? ⟨b, o + i * 3 + 1, none⟩ = some (.int .i64 (l.getD i fr0).b) ∧ w.cell? ⟨b, o + i * 3 + 2, none⟩ = some (.int .i64 (l.getD i fr0).m)

theorem FrAt.below {w w' : World} {b o : Nat} {l : List Fr} (h : FrAt w b o l) {B : Nat} (hb : Below B w w') (hlt : b < B) : FrAt w' b o l := fun i hi => by
  obtain ⟨h0, h1, h2⟩ := h i hi
  exact ⟨by rw [hb.cell (p := ⟨b, o + i * 3, none⟩) hlt]; exact h0, by rw [hb.cell (p := ⟨b, o + i * 3 + 1, none⟩) hlt]; exact h1, by rw [hb.cell (p := ⟨b, o + i * 3 + 2, none⟩) hlt]; exact h2⟩

theorem FrAt.kept {w w' : World} {b o : Nat} {l : List Fr} (h : FrAt w b o l) (hk : ∀ j, w'.cell? ⟨b, j, none⟩ = w.cell? ⟨b, j, none⟩) : FrAt w' b o l := fun i hi => by
  obtain ⟨h0, h1, h2⟩ := h i hi
  exact ⟨(hk _).trans h0, (hk _).trans h1, (hk _).trans h2⟩

/-- One more is stored behind those that lie there. -/
theorem FrAt.push {w : World} {b n : Nat} {l : List Fr} {k : Nat} (hk : k < l.length) (hn : l.length * 3 ≤ n) (h : FrAt w b 0 (l.take k)) (hr : Room w b n) {xa : Int} {xb : Int} {xm : Int}
    (ha : xa = (l.getD k fr0).a) (hb : xb = (l.getD k fr0).b) (hm : xm = (l.getD k fr0).m) :
    FrAt (((w.setCell ⟨b, k * 3, none⟩ (.int .i64 xa)).setCell ⟨b, k * 3 + 1, none⟩ (.int .i64 xb)).setCell ⟨b, k * 3 + 2, none⟩ (.int .i64 xm)) b 0 (l.take (k + 1)) := by
  subst ha hb hm
  have far : ∀ (w : World) (i j : Nat) (v : Value), i ≠ j → (w.setCell ⟨b, i, none⟩ v).cell? ⟨b, j, none⟩ = w.cell? ⟨b, j, none⟩ := fun w i j v hne =>
    World.cell?_setCell_other _ _ _ _ (by intro e; injection e; omega)
  have near : ∀ (w : World), Room w b n → ∀ (i : Nat) (v : Value), i < n → (w.setCell ⟨b, i, none⟩ v).cell? ⟨b, i, none⟩ = some v := fun w hr i v hi => by
    obtain ⟨u, hu⟩ := hr.1 i hi
    exact World.cell?_setCell_same _ _ _ hu
  intro i hi
  simp only [List.length_take] at hi
  by_cases hik : i = k
  · subst hik
    have e : (l.take (i + 1)).getD i fr0 = l.getD i fr0 := by simp [List.getD]
    rw [e]
    simp only [Nat.zero_add]
    refine ⟨?_, ?_, ?_⟩
    · rw [far _ _ _ _ (by omega), far _ _ _ _ (by omega), near _ hr _ _ (by omega)]
    · rw [far _ _ _ _ (by omega), near _ (hr.setCell _ _) _ _ (by omega)]
    · rw [near _ ((hr.setCell _ _).setCell _ _) _ _ (by omega)]
  · have hlt : i < k := by omega
    have e : (l.take (k + 1)).getD i fr0 = (l.take k).getD i fr0 := by simp [List.getD, show i < k by omega, show i < k + 1 by omega]
    rw [e]
    obtain ⟨h0, h1, h2⟩ := h i (by simp; omega)
    simp only [Nat.zero_add] at h0 h1 h2 ⊢
    refine ⟨?_, ?_, ?_⟩
    · rw [far _ _ _ _ (by omega), far _ _ _ _ (by omega), far _ _ _ _ (by omega)]; exact h0
    · rw [far _ _ _ _ (by omega), far _ _ _ _ (by omega), far _ _ _ _ (by omega)]; exact h1
    · rw [far _ _ _ _ (by omega), far _ _ _ _ (by omega), far _ _ _ _ (by omega)]; exact h2

/-- The slice value v reads in w as l. -/
def FrIn (w : World) (v : Value) (l : List Fr) : Prop :=
  ∃ (a : Option Addr) (cap : Nat), v = .slice a l.length cap ∧ l.length ≤ cap ∧ (l ≠ [] → ∃ b o, a = some ⟨b, o, none⟩ ∧ b < w.heap.size ∧ FrAt w b o l)

theorem FrIn.below {w w' : World} {v : Value} {l : List Fr} (h : FrIn w v l) (hb : Below w.heap.size w w') : FrIn w' v l := by
  obtain ⟨a, cap, rfl, hc, ha⟩ := h
  refine ⟨a, cap, rfl, hc, fun hl => ?_⟩
  obtain ⟨b, o, rfl, hlt, hr⟩ := ha hl
  exact ⟨b, o, rfl, Nat.lt_of_lt_of_le hlt hb.size, hr.below hb hlt⟩

theorem FrIn.drewN {w : World} {v : Value} {l : List Fr} (h : FrIn w v l) (n : Nat) : FrIn (w.drewN n) v l := h.below ((Below.refl _ _).drewN n)

theorem FrIn.row {w : World} {b cap : Nat} {l : List Fr} (hb : b < w.heap.size) (hc : l.length ≤ cap) (h : FrAt w b 0 l) : FrIn w (.slice (some ⟨b, 0, none⟩) l.length cap) l :=
  ⟨_, _, rfl, hc, fun _ => ⟨b, 0, rfl, hb, h⟩⟩

/-- Each number is one of 64 bits. -/
def FrWf (l : List Fr) : Prop := ∀ r ∈ l, W64 r.a ∧ W64 r.b ∧ W64 r.m

/-- A new row of its own, which reads as l. -/
def NewFr (l : List Fr) (w : World) (e : Ending) (w' : World) : Prop :=
  ∃ b, e = .returned (.slice (some ⟨b, 0, none⟩) l.length l.length) ∧ w.heap.size ≤ b ∧ b < w'.heap.size ∧ FrAt w' b 0 l ∧ Room w' b (l.length * 3) ∧ Below w.heap.size w w'

/-- A slice of the call's own, room and all. -/
def OwnFr (w : World) (ad : Option Addr) (l : List Fr) : Prop := l ≠ [] → ∃ b, ad = some ⟨b, 0, none⟩ ∧ b < w.heap.size ∧ FrAt w b 0 l ∧ Room w b (l.length * 3)

theorem OwnFr.touch {w w' : World} {ad : Option Addr} {l : List Fr} {S : Nat → Prop} (h : OwnFr w ad l) (ht : Touch S w w') (hS : ∀ j, inBlk ad j → ¬ S j) : OwnFr w' ad l := fun hne => by
  obtain ⟨b, rfl, hb, hi, hr⟩ := h hne
  have hk := ht.block b hb (hS b ⟨0, rfl⟩)
  have kc : ∀ j, w'.cell? ⟨b, j, none⟩ = w.cell? ⟨b, j, none⟩ := fun j => World.cell?_of_block (a := ⟨b, j, none⟩) hk
  refine ⟨b, rfl, Nat.lt_of_lt_of_le hb ht.size, hi.kept kc, fun j hj => ?_, fun o => ?_⟩
  · rw [kc]; exact hr.1 j hj
  · rw [World.frozen?_of_block (a := ⟨b, o, none⟩) hk]; exact hr.2 o

theorem OwnFr.below {w w' : World} {ad : Option Addr} {l : List Fr} (h : OwnFr w ad l) (hb : Below w.heap.size w w') : OwnFr w' ad l :=
  h.touch (Touch.of_below (S := fun _ => False) hb) (fun _ _ h => h)

theorem OwnFr.ins {w : World} {ad : Option Addr} {l : List Fr} {cap : Nat} (h : OwnFr w ad l) (hc : l.length ≤ cap) : FrIn w (.slice ad l.length cap) l :=
  ⟨ad, cap, rfl, hc, fun hne => by obtain ⟨b, rfl, hb, hi, _⟩ := h hne; exact ⟨b, 0, rfl, hb, hi⟩⟩

theorem OwnFr.nil {w : World} {ad : Option Addr} : OwnFr w ad [] := fun h => absurd rfl h

/-- What a function gives that makes such a slice, and a bool. -/
def FrOut (xs : List Fr) (ok : Bool) (w : World) (e : Ending) (w' : World) : Prop :=
  ∃ (ad : Option Addr) (cap : Nat), e = .returned (.tuple #[.slice ad xs.length cap, .bool ok]) ∧ xs.length ≤ cap ∧ OwnFr w' ad xs ∧ (∀ j, inBlk ad j → w.heap.size ≤ j ∧ j < w'.heap.size) ∧ Below w.heap.size w w'

def encFr (l : List Fr) : List Value := l.flatMap fun r => [.int .i64 r.a, .int .i64 r.b, .int .i64 r.m]

theorem encFr_len : ∀ (l : List Fr), (encFr l).length = l.length * 3
  | [] => rfl
  | r :: l => by
    have ih := encFr_len l
    have e : encFr (r :: l) = .int .i64 r.a :: .int .i64 r.b :: .int .i64 r.m :: encFr l := rfl
    rw [e]; simp only [List.length_cons]; omega

theorem encFr_get : ∀ (l : List Fr) (i : Nat), i < l.length → (encFr l)[i * 3]? = some (.int .i64 (l.getD i fr0).a) ∧ (encFr l)[i * 3 + 1]? = some (.int .i64 (l.getD i fr0).b) ∧ (encFr l)[i * 3 + 2]? = some (.int .i64 (l.getD i fr0).m)
  | r :: l, 0, _ => ⟨rfl, rfl, rfl⟩
  | r :: l, i + 1, h => by
    have ih := encFr_get l i (by simpa using h)
    have e : encFr (r :: l) = .int .i64 r.a :: .int .i64 r.b :: .int .i64 r.m :: encFr l := rfl
    rw [e]
    have e1 : (i + 1) * 3 = i * 3 + 1 + 1 + 1 := by omega
    rw [e1]
    simpa using ih

theorem encFr_snoc (l : List Fr) (r : Fr) : encFr (l ++ [r]) = encFr l ++ [.int .i64 r.a, .int .i64 r.b, .int .i64 r.m] := by simp [encFr]
theorem encFr_one (l : List Fr) : ∀ u ∈ encFr l, u.oneCell' = true := by
  intro u hu
  unfold encFr at hu
  rw [List.mem_flatMap] at hu
  obtain ⟨r, _, hr⟩ := hu
  simp at hr
  rcases hr with rfl | rfl | rfl <;> rfl
/-- The cells of a row that lies in memory, to be appended. -/
theorem FrAt.news {w : World} {b o f n : Nat} {l : List Fr} (h : FrAt w b o l) (hf : f + n ≤ l.length) : ∀ j u, (encFr ((l.drop f).take n))[j]? = some u → w.cell? ((⟨b, o + f * 3, none⟩ : Addr).add j) = some u := by
  intro j u hj
  have hlen : ((l.drop f).take n).length = n := by simp; omega
  have hjl : j < n * 3 := by
    have := (List.getElem?_eq_some_iff.1 hj).1
    rw [encFr_len, hlen] at this; exact this
  have e1 : j = (j / 3) * 3 + j % 3 := by omega
  have hq : j / 3 < n := by omega
  have hr : j % 3 < 3 := Nat.mod_lt _ (by omega)
  obtain ⟨c0, c1, c2⟩ := h (f + j / 3) (by omega)
  obtain ⟨e10, e11, e12⟩ := encFr_get ((l.drop f).take n) (j / 3) (by omega)
  have eg : ((l.drop f).take n).getD (j / 3) fr0 = l.getD (f + j / 3) fr0 := by simp [List.getD, hq]
  rw [eg] at e10 e11 e12
  have ea : (⟨b, o + f * 3, none⟩ : Addr).add j = ⟨b, o + f * 3 + j, none⟩ := by
    unfold Addr.add
    split
    · rename_i h0; rw [h0]; rfl
    · rfl
  rw [ea]
  have key : ∀ i v, i < 3 → j % 3 = i → (encFr ((l.drop f).take n))[j / 3 * 3 + i]? = some v → w.cell? ⟨b, o + (f + j / 3) * 3 + i, none⟩ = some v → w.cell? ⟨b, o + f * 3 + j, none⟩ = some u := fun i v hi hm h1 h2 => by
    have e2 : j / 3 * 3 + i = j := by omega
    rw [e2, hj] at h1
    have e3 : o + (f + j / 3) * 3 + i = o + f * 3 + j := by omega
    rw [e3] at h2
    rw [h2, ← h1]
  rcases (by omega : j % 3 = 0 ∨ j % 3 = 1 ∨ j % 3 = 2) with hm | hm | hm
  · exact key 0 _ (by omega) hm e10 c0
  · exact key 1 _ (by omega) hm e11 c1
  · exact key 2 _ (by omega) hm e12 c2
theorem encFr_append (l l' : List Fr) : encFr (l ++ l') = encFr l ++ encFr l' := by simp [encFr]

/-- The slice v is a row of the call's own, of blocks from B on; it reads as l. -/
def RowFr (w : World) (B : Nat) (v : Value) (l : List Fr) : Prop := w.ownsRow B 41 3 v l.length (encFr l)

theorem RowFr.row {w : World} {B : Nat} {v : Value} {l : List Fr} (h : RowFr w B v l) : ∃ (ad : Option Addr) (cap : Nat), v = .slice ad l.length cap ∧ l.length ≤ cap ∧ OwnFr w ad l ∧ (∀ j, inBlk ad j → B ≤ j ∧ j < w.heap.size) := by
  obtain ⟨hlen, h⟩ := h
  rcases h with ⟨rfl, h0⟩ | ⟨g, cap, cur, rfl, hB, hh, hcap, hmax, hs, htk⟩
  · have : l = [] := List.eq_nil_of_length_eq_zero h0
    subst this
    exact ⟨none, 0, rfl, Nat.le_refl _, fun h => absurd rfl h, fun j hj => by obtain ⟨o, ho⟩ := hj; cases ho⟩
  · have hg : g < w.heap.size := (Array.getElem?_eq_some_iff.1 hh).1
    refine ⟨some ⟨g, 0, none⟩, cap, rfl, hcap, fun _ => ⟨g, rfl, hg, fun i hi => ?_, ⟨fun j hj => ?_, fun o => ?_⟩⟩, fun j hj => by obtain ⟨o, ho⟩ := hj; cases ho; exact ⟨hB, hg⟩⟩
    · obtain ⟨c0, c1, c2⟩ := encFr_get l i hi
      have key : ∀ j v, (encFr l)[j]? = some v → w.cell? ⟨g, j, none⟩ = some v := fun j v hj => by
        rw [cell_of_row w g j cur 41 (0, 0) hh]
        rw [← htk, List.getElem?_take] at hj
        split at hj
        · simpa using hj
        · cases hj
      simp only [Nat.zero_add]
      exact ⟨key _ _ c0, key _ _ c1, key _ _ c2⟩
    · rw [cell_of_row w g j cur 41 (0, 0) hh]
      have hle : l.length * 3 ≤ cap * 3 := Nat.mul_le_mul_right 3 hcap
      exact ⟨_, Array.getElem?_eq_getElem (by omega)⟩
    · simp [World.frozen?, hh]

theorem RowFr.made (w : World) (B : Nat) (hB : B ≤ w.heap.size) : RowFr (w.alloc (.cells #[] 41)) B (.slice (some ⟨w.heap.size, 0, none⟩) 0 0) [] :=
  ⟨rfl, .inr ⟨w.heap.size, 0, #[], rfl, hB, heap_alloc_new w _, Nat.le_refl _, by unfold maxLen; omega, rfl, rfl⟩⟩

theorem RowFr.below {w w' : World} {B : Nat} {v : Value} {l : List Fr} (h : RowFr w B v l) (hb : Below w.heap.size w w') : RowFr w' B v l := by
  obtain ⟨h1, h2⟩ := h
  refine ⟨h1, ?_⟩
  rcases h2 with h0 | ⟨g, cap, cur, rfl, hg, hh, r⟩
  · exact .inl h0
  · exact .inr ⟨g, cap, cur, rfl, hg, (hb.block g (Array.getElem?_eq_some_iff.1 hh).1).trans hh, r⟩

theorem RowFr.snoc {w : World} {B : Nat} {v : Value} {l : List Fr} {r : Fr} (h : w.ownsRow B 41 3 v (l.length + 1) (encFr l ++ [.int .i64 r.a, .int .i64 r.b, .int .i64 r.m])) : RowFr w B v (l ++ [r]) := by
  unfold RowFr
  rw [encFr_snoc, List.length_append]
  exact h

theorem RowFr.more {w : World} {B : Nat} {v : Value} {l l' : List Fr} (h : w.ownsRow B 41 3 v (l.length + l'.length) (encFr l ++ encFr l')) : RowFr w B v (l ++ l') := by
  unfold RowFr
  rw [encFr_append, List.length_append]
  exact h

theorem infoFr : (Try.prog.info? 41).map (fun i => (i.zero, i.size, i.bytes)) = some (some (.agg #[.int .i64 0, .int .i64 0, .int .i64 0]), 3, 24) := by kernel_rfl

end Go.Proofs.Ytmdcpigobfhckaa
