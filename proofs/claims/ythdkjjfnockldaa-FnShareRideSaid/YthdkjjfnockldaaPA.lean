/- Slices of Part: the record, rows in memory, rows of the call's own. -/
import Derived.Test.YthdkjjfnockldaaM
import Derived.Test.YthdkjjfnockldaaTC
namespace Go.Proofs.Ythdkjjfnockldaa
open Go.RowKit

structure Pt where
  a : Int
  b : Int
def pt0 : Pt := ⟨0, 0⟩

theorem Pt.take_snoc (l : List Pt) (k : Nat) (h : k < l.length) : l.take (k + 1) = l.take k ++ [l.getD k pt0] := by
  rw [List.take_succ_eq_append_getElem h]; simp [List.getD, h]
theorem Pt.getD_take (l : List Pt) {i k : Nat} (h : i < k) : (l.take k).getD i pt0 = l.getD i pt0 := by
  simp [List.getD, h]
theorem Pt.getD_eq (l : List Pt) {i : Nat} (h : i < l.length) : l.getD i pt0 = l[i] := by simp [List.getD, h]
theorem Pt.getD_snoc_lt (l : List Pt) (r : Pt) {i : Nat} (h : i < l.length) : (l ++ [r]).getD i pt0 = l.getD i pt0 := by
  simp [List.getD, List.getElem?_append, h]
theorem Pt.getD_snoc_eq (l : List Pt) (r : Pt) {i : Nat} (h : i = l.length) : (l ++ [r]).getD i pt0 = r := by
  subst h; simp [List.getD]

/-- The list l lies in w from ⟨b, o⟩ on. -/
def PtAt (w : World) (b o : Nat) (l : List Pt) : Prop :=
  ∀ i, i < l.length → w.cell? ⟨b, o + i * 2, none⟩ = some (.int .i64 (l.getD i pt0).a) ∧ w.cell? ⟨b, o + i * 2 + 1, none⟩ = some (.int .i64 (l.getD i pt0).b)

theorem PtAt.below {w w' : World} {b o : Nat} {l : List Pt} (h : PtAt w b o l) {B : Nat} (hb : Below B w w') (hlt : b < B) : PtAt w' b o l := fun i hi => by
  obtain ⟨h0, h1⟩ := h i hi
  exact ⟨by rw [hb.cell (p := ⟨b, o + i * 2, none⟩) hlt]; exact h0, by rw [hb.cell (p := ⟨b, o + i * 2 + 1, none⟩) hlt]; exact h1⟩

theorem PtAt.kept {w w' : World} {b o : Nat} {l : List Pt} (h : PtAt w b o l) (hk : ∀ j, w'.cell? ⟨b, j, none⟩ = w.cell? ⟨b, j, none⟩) : PtAt w' b o l := fun i hi => by
  obtain ⟨h0, h1⟩ := h i hi
  exact ⟨(hk _).trans h0, (hk _).trans h1⟩

/-- One more is stored behind those that lie there. -/
theorem PtAt.push {w : World} {b n : Nat} {l : List Pt} {k : Nat} (hk : k < l.length) (hn : l.length * 2 ≤ n) (h : PtAt w b 0 (l.take k)) (hr : Room w b n) {xa : Int} {xb : Int}
    (ha : xa = (l.getD k pt0).a) (hb : xb = (l.getD k pt0).b) :
    PtAt ((w.setCell ⟨b, k * 2, none⟩ (.int .i64 xa)).setCell ⟨b, k * 2 + 1, none⟩ (.int .i64 xb)) b 0 (l.take (k + 1)) := by
  subst ha hb
  have far : ∀ (w : World) (i j : Nat) (v : Value), i ≠ j → (w.setCell ⟨b, i, none⟩ v).cell? ⟨b, j, none⟩ = w.cell? ⟨b, j, none⟩ := fun w i j v hne =>
    World.cell?_setCell_other _ _ _ _ (by intro e; injection e; omega)
  have near : ∀ (w : World), Room w b n → ∀ (i : Nat) (v : Value), i < n → (w.setCell ⟨b, i, none⟩ v).cell? ⟨b, i, none⟩ = some v := fun w hr i v hi => by
    obtain ⟨u, hu⟩ := hr.1 i hi
    exact World.cell?_setCell_same _ _ _ hu
  intro i hi
  simp only [List.length_take] at hi
  by_cases hik : i = k
  · subst hik
    have e : (l.take (i + 1)).getD i pt0 = l.getD i pt0 := by simp [List.getD]
    rw [e]
    simp only [Nat.zero_add]
    refine ⟨?_, ?_⟩
    · rw [far _ _ _ _ (by omega), near _ hr _ _ (by omega)]
    · rw [near _ (hr.setCell _ _) _ _ (by omega)]
  · have hlt : i < k := by omega
    have e : (l.take (k + 1)).getD i pt0 = (l.take k).getD i pt0 := by simp [List.getD, show i < k by omega, show i < k + 1 by omega]
    rw [e]
    obtain ⟨h0, h1⟩ := h i (by simp; omega)
    simp only [Nat.zero_add] at h0 h1 ⊢
    refine ⟨?_, ?_⟩
    · rw [far _ _ _ _ (by omega), far _ _ _ _ (by omega)]; exact h0
    · rw [far _ _ _ _ (by omega), far _ _ _ _ (by omega)]; exact h1

/-- The slice value v reads in w as l. -/
def PtIn (w : World) (v : Value) (l : List Pt) : Prop :=
  ∃ (a : Option Addr) (cap : Nat), v = .slice a l.length cap ∧ l.length ≤ cap ∧ (l ≠ [] → ∃ b o, a = some ⟨b, o, none⟩ ∧ b < w.heap.size ∧ PtAt w b o l)

theorem PtIn.below {w w' : World} {v : Value} {l : List Pt} (h : PtIn w v l) (hb : Below w.heap.size w w') : PtIn w' v l := by
  obtain ⟨a, cap, rfl, hc, ha⟩ := h
  refine ⟨a, cap, rfl, hc, fun hl => ?_⟩
  obtain ⟨b, o, rfl, hlt, hr⟩ := ha hl
  exact ⟨b, o, rfl, Nat.lt_of_lt_of_le hlt hb.size, hr.below hb hlt⟩

theorem PtIn.drewN {w : World} {v : Value} {l : List Pt} (h : PtIn w v l) (n : Nat) : PtIn (w.drewN n) v l := h.below ((Below.refl _ _).drewN n)

theorem PtIn.row {w : World} {b cap : Nat} {l : List Pt} (hb : b < w.heap.size) (hc : l.length ≤ cap) (h : PtAt w b 0 l) : PtIn w (.slice (some ⟨b, 0, none⟩) l.length cap) l :=
  ⟨_, _, rfl, hc, fun _ => ⟨b, 0, rfl, hb, h⟩⟩

/-- Each number is one of 64 bits. -/
def PtWf (l : List Pt) : Prop := ∀ r ∈ l, W64 r.a ∧ W64 r.b

/-- A new row of its own, which reads as l. -/
def NewPt (l : List Pt) (w : World) (e : Ending) (w' : World) : Prop :=
  ∃ b, e = .returned (.slice (some ⟨b, 0, none⟩) l.length l.length) ∧ w.heap.size ≤ b ∧ b < w'.heap.size ∧ PtAt w' b 0 l ∧ Room w' b (l.length * 2) ∧ Below w.heap.size w w'

/-- A slice of the call's own, room and all. -/
def OwnPt (w : World) (ad : Option Addr) (l : List Pt) : Prop := l ≠ [] → ∃ b, ad = some ⟨b, 0, none⟩ ∧ b < w.heap.size ∧ PtAt w b 0 l ∧ Room w b (l.length * 2)

theorem OwnPt.touch {w w' : World} {ad : Option Addr} {l : List Pt} {S : Nat → Prop} (h : OwnPt w ad l) (ht : Touch S w w') (hS : ∀ j, inBlk ad j → ¬ S j) : OwnPt w' ad l := fun hne => by
  obtain ⟨b, rfl, hb, hi, hr⟩ := h hne
  have hk := ht.block b hb (hS b ⟨0, rfl⟩)
  have kc : ∀ j, w'.cell? ⟨b, j, none⟩ = w.cell? ⟨b, j, none⟩ := fun j => World.cell?_of_block (a := ⟨b, j, none⟩) hk
  refine ⟨b, rfl, Nat.lt_of_lt_of_le hb ht.size, hi.kept kc, fun j hj => ?_, fun o => ?_⟩
  · rw [kc]; exact hr.1 j hj
  · rw [World.frozen?_of_block (a := ⟨b, o, none⟩) hk]; exact hr.2 o

theorem OwnPt.below {w w' : World} {ad : Option Addr} {l : List Pt} (h : OwnPt w ad l) (hb : Below w.heap.size w w') : OwnPt w' ad l :=
  h.touch (Touch.of_below (S := fun _ => False) hb) (fun _ _ h => h)

theorem OwnPt.ins {w : World} {ad : Option Addr} {l : List Pt} {cap : Nat} (h : OwnPt w ad l) (hc : l.length ≤ cap) : PtIn w (.slice ad l.length cap) l :=
  ⟨ad, cap, rfl, hc, fun hne => by obtain ⟨b, rfl, hb, hi, _⟩ := h hne; exact ⟨b, 0, rfl, hb, hi⟩⟩

theorem OwnPt.nil {w : World} {ad : Option Addr} : OwnPt w ad [] := fun h => absurd rfl h

/-- What a function gives that makes such a slice, and a bool. -/
def PtOut (xs : List Pt) (ok : Bool) (w : World) (e : Ending) (w' : World) : Prop :=
  ∃ (ad : Option Addr) (cap : Nat), e = .returned (.tuple #[.slice ad xs.length cap, .bool ok]) ∧ xs.length ≤ cap ∧ OwnPt w' ad xs ∧ (∀ j, inBlk ad j → w.heap.size ≤ j ∧ j < w'.heap.size) ∧ Below w.heap.size w w'

def encPt (l : List Pt) : List Value := l.flatMap fun r => [.int .i64 r.a, .int .i64 r.b]

theorem encPt_len : ∀ (l : List Pt), (encPt l).length = l.length * 2
  | [] => rfl
  | r :: l => by
    have ih := encPt_len l
    have e : encPt (r :: l) = .int .i64 r.a :: .int .i64 r.b :: encPt l := rfl
    rw [e]; simp only [List.length_cons]; omega

theorem encPt_get : ∀ (l : List Pt) (i : Nat), i < l.length → (encPt l)[i * 2]? = some (.int .i64 (l.getD i pt0).a) ∧ (encPt l)[i * 2 + 1]? = some (.int .i64 (l.getD i pt0).b)
  | r :: l, 0, _ => ⟨rfl, rfl⟩
  | r :: l, i + 1, h => by
    have ih := encPt_get l i (by simpa using h)
    have e : encPt (r :: l) = .int .i64 r.a :: .int .i64 r.b :: encPt l := rfl
    rw [e]
    have e1 : (i + 1) * 2 = i * 2 + 1 + 1 := by omega
    rw [e1]
    simpa using ih

theorem encPt_snoc (l : List Pt) (r : Pt) : encPt (l ++ [r]) = encPt l ++ [.int .i64 r.a, .int .i64 r.b] := by simp [encPt]
theorem encPt_one (l : List Pt) : ∀ u ∈ encPt l, u.oneCell' = true := by
  intro u hu
  unfold encPt at hu
  rw [List.mem_flatMap] at hu
  obtain ⟨r, _, hr⟩ := hu
  simp at hr
  rcases hr with rfl | rfl <;> rfl
/-- The cells of a row that lies in memory, to be appended. -/
theorem PtAt.news {w : World} {b o f n : Nat} {l : List Pt} (h : PtAt w b o l) (hf : f + n ≤ l.length) : ∀ j u, (encPt ((l.drop f).take n))[j]? = some u → w.cell? ((⟨b, o + f * 2, none⟩ : Addr).add j) = some u := by
  intro j u hj
  have hlen : ((l.drop f).take n).length = n := by simp; omega
  have hjl : j < n * 2 := by
    have := (List.getElem?_eq_some_iff.1 hj).1
    rw [encPt_len, hlen] at this; exact this
  have e1 : j = (j / 2) * 2 + j % 2 := by omega
  have hq : j / 2 < n := by omega
  have hr : j % 2 < 2 := Nat.mod_lt _ (by omega)
  obtain ⟨c0, c1⟩ := h (f + j / 2) (by omega)
  obtain ⟨e10, e11⟩ := encPt_get ((l.drop f).take n) (j / 2) (by omega)
  have eg : ((l.drop f).take n).getD (j / 2) pt0 = l.getD (f + j / 2) pt0 := by simp [List.getD, hq]
  rw [eg] at e10 e11
  have ea : (⟨b, o + f * 2, none⟩ : Addr).add j = ⟨b, o + f * 2 + j, none⟩ := by
    unfold Addr.add
    split
    · rename_i h0; rw [h0]; rfl
    · rfl
  rw [ea]
  have key : ∀ i v, i < 2 → j % 2 = i → (encPt ((l.drop f).take n))[j / 2 * 2 + i]? = some v → w.cell? ⟨b, o + (f + j / 2) * 2 + i, none⟩ = some v → w.cell? ⟨b, o + f * 2 + j, none⟩ = some u := fun i v hi hm h1 h2 => by
    have e2 : j / 2 * 2 + i = j := by omega
    rw [e2, hj] at h1
    have e3 : o + (f + j / 2) * 2 + i = o + f * 2 + j := by omega
    rw [e3] at h2
    rw [h2, ← h1]
  rcases (by omega : j % 2 = 0 ∨ j % 2 = 1) with hm | hm
  · exact key 0 _ (by omega) hm e10 c0
  · exact key 1 _ (by omega) hm e11 c1
theorem encPt_append (l l' : List Pt) : encPt (l ++ l') = encPt l ++ encPt l' := by simp [encPt]

/-- The slice v is a row of the call's own, of blocks from B on; it reads as l. -/
def RowPt (w : World) (B : Nat) (v : Value) (l : List Pt) : Prop := w.ownsRow B 41 2 v l.length (encPt l)

theorem RowPt.row {w : World} {B : Nat} {v : Value} {l : List Pt} (h : RowPt w B v l) : ∃ (ad : Option Addr) (cap : Nat), v = .slice ad l.length cap ∧ l.length ≤ cap ∧ OwnPt w ad l ∧ (∀ j, inBlk ad j → B ≤ j ∧ j < w.heap.size) := by
  obtain ⟨hlen, h⟩ := h
  rcases h with ⟨rfl, h0⟩ | ⟨g, cap, cur, rfl, hB, hh, hcap, hmax, hs, htk⟩
  · have : l = [] := List.eq_nil_of_length_eq_zero h0
    subst this
    exact ⟨none, 0, rfl, Nat.le_refl _, fun h => absurd rfl h, fun j hj => by obtain ⟨o, ho⟩ := hj; cases ho⟩
  · have hg : g < w.heap.size := (Array.getElem?_eq_some_iff.1 hh).1
    refine ⟨some ⟨g, 0, none⟩, cap, rfl, hcap, fun _ => ⟨g, rfl, hg, fun i hi => ?_, ⟨fun j hj => ?_, fun o => ?_⟩⟩, fun j hj => by obtain ⟨o, ho⟩ := hj; cases ho; exact ⟨hB, hg⟩⟩
    · obtain ⟨c0, c1⟩ := encPt_get l i hi
      have key : ∀ j v, (encPt l)[j]? = some v → w.cell? ⟨g, j, none⟩ = some v := fun j v hj => by
        rw [cell_of_row w g j cur 41 (0, 0) hh]
        rw [← htk, List.getElem?_take] at hj
        split at hj
        · simpa using hj
        · cases hj
      simp only [Nat.zero_add]
      exact ⟨key _ _ c0, key _ _ c1⟩
    · rw [cell_of_row w g j cur 41 (0, 0) hh]
      have hle : l.length * 2 ≤ cap * 2 := Nat.mul_le_mul_right 2 hcap
      exact ⟨_, Array.getElem?_eq_getElem (by omega)⟩
    · simp [World.frozen?, hh]

theorem RowPt.made (w : World) (B : Nat) (hB : B ≤ w.heap.size) : RowPt (w.alloc (.cells #[] 41)) B (.slice (some ⟨w.heap.size, 0, none⟩) 0 0) [] :=
  ⟨rfl, .inr ⟨w.heap.size, 0, #[], rfl, hB, heap_alloc_new w _, Nat.le_refl _, by unfold maxLen; omega, rfl, rfl⟩⟩

theorem RowPt.below {w w' : World} {B : Nat} {v : Value} {l : List Pt} (h : RowPt w B v l) (hb : Below w.heap.size w w') : RowPt w' B v l := by
  obtain ⟨h1, h2⟩ := h
  refine ⟨h1, ?_⟩
  rcases h2 with h0 | ⟨g, cap, cur, rfl, hg, hh, r⟩
  · exact .inl h0
  · exact .inr ⟨g, cap, cur, rfl, hg, (hb.block g (Array.getElem?_eq_some_iff.1 hh).1).trans hh, r⟩

theorem RowPt.snoc {w : World} {B : Nat} {v : Value} {l : List Pt} {r : Pt} (h : w.ownsRow B 41 2 v (l.length + 1) (encPt l ++ [.int .i64 r.a, .int .i64 r.b])) : RowPt w B v (l ++ [r]) := by
  unfold RowPt
  rw [encPt_snoc, List.length_append]
  exact h

theorem RowPt.more {w : World} {B : Nat} {v : Value} {l l' : List Pt} (h : w.ownsRow B 41 2 v (l.length + l'.length) (encPt l ++ encPt l')) : RowPt w B v (l ++ l') := by
  unfold RowPt
  rw [encPt_append, List.length_append]
  exact h

theorem infoPt : (Try.prog.info? 41).map (fun i => (i.zero, i.size, i.bytes)) = some (some (.agg #[.int .i64 0, .int .i64 0]), 2, 16) := by kernel_rfl

end Go.Proofs.Ythdkjjfnockldaa
