/- Slices of Run: the record, rows in memory, rows of the call's own. -/
import Derived.Test.YtmcapcclnkicbabM
import Derived.Test.YtmcapcclnkicbabTC
namespace Go.Proofs.Ytmcapcclnkicbab
open Go.RowKit

structure Rn where
  a : Int
  b : Int
def rn0 : Rn := ⟨0, 0⟩

theorem Rn.take_snoc (l : List Rn) (k : Nat) (h : k < l.length) : l.take (k + 1) = l.take k ++ [l.getD k rn0] := by
  rw [List.take_succ_eq_append_getElem h]; simp [List.getD, h]
theorem Rn.getD_take (l : List Rn) {i k : Nat} (h : i < k) : (l.take k).getD i rn0 = l.getD i rn0 := by
  simp [List.getD, h]
theorem Rn.getD_eq (l : List Rn) {i : Nat} (h : i < l.length) : l.getD i rn0 = l[i] := by simp [List.getD, h]
theorem Rn.getD_snoc_lt (l : List Rn) (r : Rn) {i : Nat} (h : i < l.length) : (l ++ [r]).getD i rn0 = l.getD i rn0 := by
  simp [List.getD, List.getElem?_append, h]
theorem Rn.getD_snoc_eq (l : List Rn) (r : Rn) {i : Nat} (h : i = l.length) : (l ++ [r]).getD i rn0 = r := by
  subst h; simp [List.getD]

/-- The list l lies in w from ⟨b, o⟩ on. -/
def RnAt (w : World) (b o : Nat) (l : List Rn) : Prop :=
  ∀ i, i < l.length → w.cell? ⟨b, o + i * 2, none⟩ = some (.int .i64 (l.getD i rn0).a) ∧ w.cell? ⟨b, o + i * 2 + 1, none⟩ = some (.int .i64 (l.getD i rn0).b)

theorem RnAt.below {w w' : World} {b o : Nat} {l : List Rn} (h : RnAt w b o l) {B : Nat} (hb : Below B w w') (hlt : b < B) : RnAt w' b o l := fun i hi => by
  obtain ⟨h0, h1⟩ := h i hi
  exact ⟨by rw [hb.cell (p := ⟨b, o + i * 2, none⟩) hlt]; exact h0, by rw [hb.cell (p := ⟨b, o + i * 2 + 1, none⟩) hlt]; exact h1⟩

theorem RnAt.kept {w w' : World} {b o : Nat} {l : List Rn} (h : RnAt w b o l) (hk : ∀ j, w'.cell? ⟨b, j, none⟩ = w.cell? ⟨b, j, none⟩) : RnAt w' b o l := fun i hi => by
  obtain ⟨h0, h1⟩ := h i hi
  exact ⟨(hk _).trans h0, (hk _).trans h1⟩

/-- One more is stored behind those that lie there. -/
theorem RnAt.push {w : World} {b n : Nat} {l : List Rn} {k : Nat} (hk : k < l.length) (hn : l.length * 2 ≤ n) (h : RnAt w b 0 (l.take k)) (hr : Room w b n) {xa : Int} {xb : Int}
    (ha : xa = (l.getD k rn0).a) (hb : xb = (l.getD k rn0).b) :
    RnAt ((w.setCell ⟨b, k * 2, none⟩ (.int .i64 xa)).setCell ⟨b, k * 2 + 1, none⟩ (.int .i64 xb)) b 0 (l.take (k + 1)) := by
  subst ha hb
  have far : ∀ (w : World) (i j : Nat) (v : Value), i ≠ j → (w.setCell ⟨b, i, none⟩ v).cell? ⟨b, j, none⟩ = w.cell? ⟨b, j, none⟩ := fun w i j v hne =>
    World.cell?_setCell_other _ _ _ _ (by intro e; injection e; omega)
  have near : ∀ (w : World), Room w b n → ∀ (i : Nat) (v : Value), i < n → (w.setCell ⟨b, i, none⟩ v).cell? ⟨b, i, none⟩ = some v := fun w hr i v hi => by
    obtain ⟨u, hu⟩ := hr.1 i hi
    exact World.cell?_setCell_same _ _ _ hu
  intro i hi
  simp only [List.length_take] at hi
  by_cases hik : i = k
  · subst hik
    have e : (l.take (i + 1)).getD i rn0 = l.getD i rn0 := by simp [List.getD]
    rw [e]
    simp only [Nat.zero_add]
    refine ⟨?_, ?_⟩
    · rw [far _ _ _ _ (by omega), near _ hr _ _ (by omega)]
    · rw [near _ (hr.setCell _ _) _ _ (by omega)]
  · have hlt : i < k := by omega
    have e : (l.take (k + 1)).getD i rn0 = (l.take k).getD i rn0 := by simp [List.getD, show i < k by omega, show i < k + 1 by omega]
    rw [e]
    obtain ⟨h0, h1⟩ := h i (by simp; omega)
    simp only [Nat.zero_add] at h0 h1 ⊢
    refine ⟨?_, ?_⟩
    · rw [far _ _ _ _ (by omega), far _ _ _ _ (by omega)]; exact h0
    · rw [far _ _ _ _ (by omega), far _ _ _ _ (by omega)]; exact h1

/-- The slice value v reads in w as l. -/
def RnIn (w : World) (v : Value) (l : List Rn) : Prop :=
  ∃ (a : Option Addr) (cap : Nat), v = .slice a l.length cap ∧ l.length ≤ cap ∧ (l ≠ [] → ∃ b o, a = some ⟨b, o, none⟩ ∧ b < w.heap.size ∧ RnAt w b o l)

theorem RnIn.below {w w' : World} {v : Value} {l : List Rn} (h : RnIn w v l) (hb : Below w.heap.size w w') : RnIn w' v l := by
  obtain ⟨a, cap, rfl, hc, ha⟩ := h
  refine ⟨a, cap, rfl, hc, fun hl => ?_⟩
  obtain ⟨b, o, rfl, hlt, hr⟩ := ha hl
  exact ⟨b, o, rfl, Nat.lt_of_lt_of_le hlt hb.size, hr.below hb hlt⟩

theorem RnIn.drewN {w : World} {v : Value} {l : List Rn} (h : RnIn w v l) (n : Nat) : RnIn (w.drewN n) v l := h.below ((Below.refl _ _).drewN n)

theorem RnIn.row {w : World} {b cap : Nat} {l : List Rn} (hb : b < w.heap.size) (hc : l.length ≤ cap) (h : RnAt w b 0 l) : RnIn w (.slice (some ⟨b, 0, none⟩) l.length cap) l :=
  ⟨_, _, rfl, hc, fun _ => ⟨b, 0, rfl, hb, h⟩⟩

/-- Each number is one of 64 bits. -/
def RnWf (l : List Rn) : Prop := ∀ r ∈ l, W64 r.a ∧ W64 r.b

/-- A new row of its own, which reads as l. -/
def NewRn (l : List Rn) (w : World) (e : Ending) (w' : World) : Prop :=
  ∃ b, e = .returned (.slice (some ⟨b, 0, none⟩) l.length l.length) ∧ w.heap.size ≤ b ∧ b < w'.heap.size ∧ RnAt w' b 0 l ∧ Room w' b (l.length * 2) ∧ Below w.heap.size w w'

/-- A slice of the call's own, room and all. -/
def OwnRn (w : World) (ad : Option Addr) (l : List Rn) : Prop := l ≠ [] → ∃ b, ad = some ⟨b, 0, none⟩ ∧ b < w.heap.size ∧ RnAt w b 0 l ∧ Room w b (l.length * 2)

theorem OwnRn.touch {w w' : World} {ad : Option Addr} {l : List Rn} {S : Nat → Prop} (h : OwnRn w ad l) (ht : Touch S w w') (hS : ∀ j, inBlk ad j → ¬ S j) : OwnRn w' ad l := fun hne => by
  obtain ⟨b, rfl, hb, hi, hr⟩ := h hne
  have hk := ht.block b hb (hS b ⟨0, rfl⟩)
  have kc : ∀ j, w'.cell? ⟨b, j, none⟩ = w.cell? ⟨b, j, none⟩ := fun j => World.cell?_of_block (a := ⟨b, j, none⟩) hk
  refine ⟨b, rfl, Nat.lt_of_lt_of_le hb ht.size, hi.kept kc, fun j hj => ?_, fun o => ?_⟩
  · rw [kc]; exact hr.1 j hj
  · rw [World.frozen?_of_block (a := ⟨b, o, none⟩) hk]; exact hr.2 o

theorem OwnRn.below {w w' : World} {ad : Option Addr} {l : List Rn} (h : OwnRn w ad l) (hb : Below w.heap.size w w') : OwnRn w' ad l :=
  h.touch (Touch.of_below (S := fun _ => False) hb) (fun _ _ h => h)

theorem OwnRn.ins {w : World} {ad : Option Addr} {l : List Rn} {cap : Nat} (h : OwnRn w ad l) (hc : l.length ≤ cap) : RnIn w (.slice ad l.length cap) l :=
  ⟨ad, cap, rfl, hc, fun hne => by obtain ⟨b, rfl, hb, hi, _⟩ := h hne; exact ⟨b, 0, rfl, hb, hi⟩⟩

theorem OwnRn.nil {w : World} {ad : Option Addr} : OwnRn w ad [] := fun h => absurd rfl h

/-- What a function gives that makes such a slice, and a bool. -/
def RnOut (xs : List Rn) (ok : Bool) (w : World) (e : Ending) (w' : World) : Prop :=
  ∃ (ad : Option Addr) (cap : Nat), e = .returned (.tuple #[.slice ad xs.length cap, .bool ok]) ∧ xs.length ≤ cap ∧ OwnRn w' ad xs ∧ (∀ j, inBlk ad j → w.heap.size ≤ j ∧ j < w'.heap.size) ∧ Below w.heap.size w w'

def encRn (l : List Rn) : List Value := l.flatMap fun r => [.int .i64 r.a, .int .i64 r.b]

theorem encRn_len : ∀ (l : List Rn), (encRn l).length = l.length * 2
  | [] => rfl
  | r :: l => by
    have ih := encRn_len l
    have e : encRn (r :: l) = .int .i64 r.a :: .int .i64 r.b :: encRn l := rfl
    rw [e]; simp only [List.length_cons]; omega

theorem encRn_get : ∀ (l : List Rn) (i : Nat), i < l.length → (encRn l)[i * 2]? = some (.int .i64 (l.getD i rn0).a) ∧ (encRn l)[i * 2 + 1]? = some (.int .i64 (l.getD i rn0).b)
  | r :: l, 0, _ => ⟨rfl, rfl⟩
  | r :: l, i + 1, h => by
    have ih := encRn_get l i (by simpa using h)
    have e : encRn (r :: l) = .int .i64 r.a :: .int .i64 r.b :: encRn l := rfl
    rw [e]
    have e1 : (i + 1) * 2 = i * 2 + 1 + 1 := by omega
    rw [e1]
    simpa using ih

theorem encRn_snoc (l : List Rn) (r : Rn) : encRn (l ++ [r]) = encRn l ++ [.int .i64 r.a, .int .i64 r.b] := by simp [encRn]
theorem encRn_one (l : List Rn) : ∀ u ∈ encRn l, u.oneCell' = true := by
  intro u hu
  unfold encRn at hu
  rw [List.mem_flatMap] at hu
  obtain ⟨r, _, hr⟩ := hu
  simp at hr
  rcases hr with rfl | rfl <;> rfl
/-- The cells of a row that lies in memory, to be appended. -/
theorem RnAt.news {w : World} {b o f n : Nat} {l : List Rn} (h : RnAt w b o l) (hf : f + n ≤ l.length) : ∀ j u, (encRn ((l.drop f).take n))[j]? = some u → w.cell? ((⟨b, o + f * 2, none⟩ : Addr).add j) = some u := by
  intro j u hj
  have hlen : ((l.drop f).take n).length = n := by simp; omega
  have hjl : j < n * 2 := by
    have := (List.getElem?_eq_some_iff.1 hj).1
    rw [encRn_len, hlen] at this; exact this
  have e1 : j = (j / 2) * 2 + j % 2 := by omega
  have hq : j / 2 < n := by omega
  have hr : j % 2 < 2 := Nat.mod_lt _ (by omega)
  obtain ⟨c0, c1⟩ := h (f + j / 2) (by omega)
  obtain ⟨e10, e11⟩ := encRn_get ((l.drop f).take n) (j / 2) (by omega)
  have eg : ((l.drop f).take n).getD (j / 2) rn0 = l.getD (f + j / 2) rn0 := by simp [List.getD, hq]
  rw [eg] at e10 e11
  have ea : (⟨b, o + f * 2, none⟩ : Addr).add j = ⟨b, o + f * 2 + j, none⟩ := by
    unfold Addr.add
    split
    · rename_i h0; rw [h0]; rfl
    · rfl
  rw [ea]
  have key : ∀ i v, i < 2 → j % 2 = i → (encRn ((l.drop f).take n))[j / 2 * 2 + i]? = some v → w.cell? ⟨b, o + (f + j / 2) * 2 + i, none⟩ = some v → w.cell? ⟨b, o + f * 2 + j, none⟩ = some u := fun i v hi hm h1 h2 => by
    have e2 : j / 2 * 2 + i = j := by omega
    rw [e2, hj] at h1
    have e3 : o + (f + j / 2) * 2 + i = o + f * 2 + j := by omega
    rw [e3] at h2
    rw [h2, ← h1]
  rcases (by omega : j % 2 = 0 ∨ j % 2 = 1) with hm | hm
  · exact key 0 _ (by omega) hm e10 c0
  · exact key 1 _ (by omega) hm e11 c1
theorem encRn_append (l l' : List Rn) : encRn (l ++ l') = encRn l ++ encRn l' := by simp [encRn]

/-- The slice v is a row of the call's own, of blocks from B on; it reads as l. -/
def RowRn (w : World) (B : Nat) (v : Value) (l : List Rn) : Prop := w.ownsRow B 29 2 v l.length (encRn l)

theorem RowRn.row {w : World} {B : Nat} {v : Value} {l : List Rn} (h : RowRn w B v l) : ∃ (ad : Option Addr) (cap : Nat), v = .slice ad l.length cap ∧ l.length ≤ cap ∧ OwnRn w ad l ∧ (∀ j, inBlk ad j → B ≤ j ∧ j < w.heap.size) := by
  obtain ⟨hlen, h⟩ := h
  rcases h with ⟨rfl, h0⟩ | ⟨g, cap, cur, rfl, hB, hh, hcap, hmax, hs, htk⟩
  · have : l = [] := List.eq_nil_of_length_eq_zero h0
    subst this
    exact ⟨none, 0, rfl, Nat.le_refl _, fun h => absurd rfl h, fun j hj => by obtain ⟨o, ho⟩ := hj; cases ho⟩
  · have hg : g < w.heap.size := (Array.getElem?_eq_some_iff.1 hh).1
    refine ⟨some ⟨g, 0, none⟩, cap, rfl, hcap, fun _ => ⟨g, rfl, hg, fun i hi => ?_, ⟨fun j hj => ?_, fun o => ?_⟩⟩, fun j hj => by obtain ⟨o, ho⟩ := hj; cases ho; exact ⟨hB, hg⟩⟩
    · obtain ⟨c0, c1⟩ := encRn_get l i hi
      have key : ∀ j v, (encRn l)[j]? = some v → w.cell? ⟨g, j, none⟩ = some v := fun j v hj => by
        rw [cell_of_row w g j cur 29 (0, 0) hh]
        rw [← htk, List.getElem?_take] at hj
        split at hj
        · simpa using hj
        · cases hj
      simp only [Nat.zero_add]
      exact ⟨key _ _ c0, key _ _ c1⟩
    · rw [cell_of_row w g j cur 29 (0, 0) hh]
      have hle : l.length * 2 ≤ cap * 2 := Nat.mul_le_mul_right 2 hcap
      exact ⟨_, Array.getElem?_eq_getElem (by omega)⟩
    · simp [World.frozen?, hh]

theorem RowRn.made (w : World) (B : Nat) (hB : B ≤ w.heap.size) : RowRn (w.alloc (.cells #[] 29)) B (.slice (some ⟨w.heap.size, 0, none⟩) 0 0) [] :=
  ⟨rfl, .inr ⟨w.heap.size, 0, #[], rfl, hB, heap_alloc_new w _, Nat.le_refl _, by unfold maxLen; omega, rfl, rfl⟩⟩

theorem RowRn.below {w w' : World} {B : Nat} {v : Value} {l : List Rn} (h : RowRn w B v l) (hb : Below w.heap.size w w') : RowRn w' B v l := by
  obtain ⟨h1, h2⟩ := h
  refine ⟨h1, ?_⟩
  rcases h2 with h0 | ⟨g, cap, cur, rfl, hg, hh, r⟩
  · exact .inl h0
  · exact .inr ⟨g, cap, cur, rfl, hg, (hb.block g (Array.getElem?_eq_some_iff.1 hh).1).trans hh, r⟩

theorem RowRn.snoc {w : World} {B : Nat} {v : Value} {l : List Rn} {r : Rn} (h : w.ownsRow B 29 2 v (l.length + 1) (encRn l ++ [.int .i64 r.a, .int .i64 r.b])) : RowRn w B v (l ++ [r]) := by
  unfold RowRn
  rw [encRn_snoc, List.length_append]
  exact h

theorem RowRn.more {w : World} {B : Nat} {v : Value} {l l' : List Rn} (h : w.ownsRow B 29 2 v (l.length + l'.length) (encRn l ++ encRn l')) : RowRn w B v (l ++ l') := by
  unfold RowRn
  rw [encRn_append, List.length_append]
  exact h

theorem infoRn : (Try.prog.info? 29).map (fun i => (i.zero, i.size, i.bytes)) = some (some (.agg #[.int .i64 0, .int .i64 0]), 2, 16) := by kernel_rfl

end Go.Proofs.Ytmcapcclnkicbab
