/- Memory: rows of roads, room to write; small laws on worlds. -/
import Derived.Test.YtmdcpigobfhckaaProg
import Derived.Test.YtmdcpigobfhckaaG
import Derived.WalkKit
import Derived.WalkSpells
import Derived.Laws.MakeOwn
import Derived.OneCell
import Derived.Deep.QuietTactic
namespace Go.Proofs.Ytmdcpigobfhckaa
open Go.RowKit

theorem bcell {W w1 : World} (hb : Below W.heap.size W w1) : (∀ b o, b < W.heap.size → w1.cell? ⟨b, o, none⟩ = W.cell? ⟨b, o, none⟩) ∧ (∀ b o, b < W.heap.size → w1.frozen? ⟨b, o, none⟩ = W.frozen? ⟨b, o, none⟩) :=
  ⟨fun b o h => hb.cell (p := ⟨b, o, none⟩) h, fun b o h => hb.frozen (p := ⟨b, o, none⟩) h⟩

theorem ret_int {k : IntKind} {a b : Int} (h : a = b) : Ending.returned (.int k a) = .returned (.int k b) := by rw [h]
theorem ret_bool {a b : Bool} (h : a = b) : Ending.returned (.bool a) = .returned (.bool b) := by rw [h]

theorem _root_.Go.RowKit.Below.drewN {B : Nat} {a w : World} (h : Below B a w) (n : Nat) : Below B a (w.drewN n) := ⟨h.os, h.tape, h.output, h.size, h.block⟩

theorem keepCell {X w1 : World} (hb : Below X.heap.size X w1) {a : Addr} {v : Value} (h : X.cell? a = some v) : w1.cell? a = some v :=
  (hb.cell (World.block_lt_of_cell? _ _ h)).trans h

theorem run_make_rowN {P : Program} (t e : TypeId) (i : TypeInfo) (z : Value) (ht : P.underlying t = some (.slice e)) (hi : P.info? e = some i) (hz : i.zero = some z)
    (kl kc : IntKind) (n c : Nat) (hnc : n ≤ c) (hbytes : i.bytes * c ≤ 281474976710656) (h63 : c ≤ 9223372036854775807) (w : World) :
    (Instr.makeSlice t (.int kl (n : Int)) (.int kc (c : Int))).run P w = .ok (.slice (some ⟨w.heap.size, 0, none⟩) n c) (w.alloc (.cells (madeCells z.cells (c * i.size)) e)) := by
  have hb : (i.bytes : Int) * (c : Int) ≤ 281474976710656 := by
    have h : ((i.bytes * c : Nat) : Int) ≤ 281474976710656 := by omega
    rwa [Int.natCast_mul] at h
  have hr := run_make (P := P) w t e i z ht hi hz kl kc n c (by omega) (by omega) hb (by omega)
  simp only [Int.toNat_natCast] at hr
  exact hr

/-- n cells lie in w from ⟨b, 0⟩ on, and may be written. -/
def Room (w : World) (b n : Nat) : Prop := (∀ j, j < n → ∃ u, w.cell? ⟨b, j, none⟩ = some u) ∧ ∀ o, w.frozen? ⟨b, o, none⟩ = false

theorem Room.setCell {w : World} {b n : Nat} (h : Room w b n) (a : Addr) (v : Value) : Room (w.setCell a v) b n := by
  refine ⟨fun j hj => ?_, fun o => by rw [World.frozen?_setCell]; exact h.2 o⟩
  obtain ⟨u, hu⟩ := h.1 j hj
  by_cases e : a = ⟨b, j, none⟩
  · subst e; exact ⟨v, World.cell?_setCell_same _ _ _ hu⟩
  · exact ⟨u, by rw [World.cell?_setCell_other _ _ _ _ e]; exact hu⟩

theorem Room.below {w w' : World} {b n : Nat} (h : Room w b n) {B : Nat} (hb : Below B w w') (hlt : b < B) : Room w' b n :=
  ⟨fun j hj => by rw [hb.cell (p := ⟨b, j, none⟩) hlt]; exact h.1 j hj, fun o => by rw [hb.frozen (p := ⟨b, o, none⟩) hlt]; exact h.2 o⟩

theorem Room.made (w : World) (z : Array Value) (n : Nat) (t : TypeId) (_hz : 0 < z.size) : Room (w.alloc (.cells (madeCells z n) t)) w.heap.size n := by
  refine ⟨fun j hj => ?_, fun o => by simp⟩
  rw [World.cell?_alloc_new]
  have : j < (madeCells z n).size := by rw [size_madeCells]; exact hj
  exact ⟨_, Array.getElem?_eq_getElem this⟩

/-- The roads l lie in w from ⟨b, o⟩ on. -/
def RowAt (w : World) (b o : Nat) (l : List Rd) : Prop :=
  ∀ i, i < l.length → w.cell? ⟨b, o + i * 3, none⟩ = some (.int .i64 (l.getD i rd0).a) ∧ w.cell? ⟨b, o + i * 3 + 1, none⟩ = some (.int .i64 (l.getD i rd0).b) ∧ w.cell? ⟨b, o + i * 3 + 2, none⟩ = some (.int .i64 (l.getD i rd0).m)

theorem RowAt.below {w w' : World} {b o : Nat} {l : List Rd} (h : RowAt w b o l) {B : Nat} (hb : Below B w w') (hlt : b < B) : RowAt w' b o l := fun i hi => by
  obtain ⟨h0, h1, h2⟩ := h i hi
  exact ⟨by rw [hb.cell (p := ⟨b, o + i * 3, none⟩) hlt]; exact h0, by rw [hb.cell (p := ⟨b, o + i * 3 + 1, none⟩) hlt]; exact h1, by rw [hb.cell (p := ⟨b, o + i * 3 + 2, none⟩) hlt]; exact h2⟩

theorem RowAt.far {w : World} {b o : Nat} {l : List Rd} (h : RowAt w b o l) (a : Addr) (v : Value) (hne : a.block ≠ b) : RowAt (w.setCell a v) b o l := fun i hi => by
  obtain ⟨h0, h1, h2⟩ := h i hi
  refine ⟨?_, ?_, ?_⟩ <;> rw [World.cell?_setCell_other _ _ _ _ (by intro e; rw [e] at hne; exact hne rfl)] <;> assumption

theorem RowAt.alloc {w : World} {b o : Nat} {l : List Rd} (h : RowAt w b o l) (hlt : b < w.heap.size) (x : Obj) : RowAt (w.alloc x) b o l :=
  h.below ((Below.refl _ _).alloc (Nat.le_refl _) x) hlt

/-- One more road is stored behind those that lie there. -/
theorem RowAt.push {w : World} {b n : Nat} {l : List Rd} {k : Nat} (hk : k < l.length) (hn : l.length * 3 ≤ n) (h : RowAt w b 0 (l.take k)) (hr : Room w b n) {xa xb xm : Int}
    (ha : xa = (l.getD k rd0).a) (hb : xb = (l.getD k rd0).b) (hm : xm = (l.getD k rd0).m) :
    RowAt (((w.setCell ⟨b, k * 3, none⟩ (.int .i64 xa)).setCell ⟨b, k * 3 + 1, none⟩ (.int .i64 xb)).setCell ⟨b, k * 3 + 2, none⟩ (.int .i64 xm)) b 0 (l.take (k + 1)) := by
  subst ha hb hm
  have far : ∀ (w : World) (i j : Nat) (v : Value), i ≠ j → (w.setCell ⟨b, i, none⟩ v).cell? ⟨b, j, none⟩ = w.cell? ⟨b, j, none⟩ := fun w i j v hne =>
    World.cell?_setCell_other _ _ _ _ (by intro e; injection e; omega)
  have near : ∀ (w : World), Room w b n → ∀ (i : Nat) (v : Value), i < n → (w.setCell ⟨b, i, none⟩ v).cell? ⟨b, i, none⟩ = some v := fun w hr i v hi => by
    obtain ⟨u, hu⟩ := hr.1 i hi
    exact World.cell?_setCell_same _ _ _ hu
  intro i hi
  simp only [List.length_take] at hi
  by_cases hik : i = k
  · subst hik
    have e : (l.take (i + 1)).getD i rd0 = l.getD i rd0 := by simp [List.getD]
    rw [e]
    simp only [Nat.zero_add]
    refine ⟨?_, ?_, ?_⟩
    · rw [far _ _ _ _ (by omega), far _ _ _ _ (by omega), near _ hr _ _ (by omega)]
    · rw [far _ _ _ _ (by omega), near _ (hr.setCell _ _) _ _ (by omega)]
    · rw [near _ ((hr.setCell _ _).setCell _ _) _ _ (by omega)]
  · have hlt : i < k := by omega
    have e : (l.take (k + 1)).getD i rd0 = (l.take k).getD i rd0 := by simp [List.getD, show i < k by omega, show i < k + 1 by omega]
    rw [e]
    obtain ⟨h0, h1, h2⟩ := h i (by simp; omega)
    simp only [Nat.zero_add] at h0 h1 h2 ⊢
    refine ⟨?_, ?_, ?_⟩
    · rw [far _ _ _ _ (by omega), far _ _ _ _ (by omega), far _ _ _ _ (by omega)]; exact h0
    · rw [far _ _ _ _ (by omega), far _ _ _ _ (by omega), far _ _ _ _ (by omega)]; exact h1
    · rw [far _ _ _ _ (by omega), far _ _ _ _ (by omega), far _ _ _ _ (by omega)]; exact h2

/-- The slice value v reads in w as the roads l. -/
def RoadsIn (w : World) (v : Value) (l : List Rd) : Prop :=
  ∃ (a : Option Addr) (cap : Nat), v = .slice a l.length cap ∧ (l ≠ [] → ∃ b o, a = some ⟨b, o, none⟩ ∧ b < w.heap.size ∧ RowAt w b o l)

theorem RoadsIn.below {w w' : World} {v : Value} {l : List Rd} (h : RoadsIn w v l) (hb : Below w.heap.size w w') : RoadsIn w' v l := by
  obtain ⟨a, cap, rfl, ha⟩ := h
  refine ⟨a, cap, rfl, fun hl => ?_⟩
  obtain ⟨b, o, rfl, hlt, hr⟩ := ha hl
  exact ⟨b, o, rfl, Nat.lt_of_lt_of_le hlt hb.size, hr.below hb hlt⟩

theorem RoadsIn.row {w : World} {b cap : Nat} {l : List Rd} (hb : b < w.heap.size) (h : RowAt w b 0 l) : RoadsIn w (.slice (some ⟨b, 0, none⟩) l.length cap) l :=
  ⟨_, _, rfl, fun _ => ⟨b, 0, rfl, hb, h⟩⟩

/-- Each number is one of 64 bits. -/
def W64 (x : Int) : Prop := -9223372036854775808 ≤ x ∧ x ≤ 9223372036854775807
def RdWf (l : List Rd) : Prop := ∀ r ∈ l, W64 r.a ∧ W64 r.b ∧ W64 r.m

/-- A new row of its own, which reads as l. -/
def NewRoads (l : List Rd) (w : World) (e : Ending) (w' : World) : Prop :=
  ∃ b, e = .returned (.slice (some ⟨b, 0, none⟩) l.length l.length) ∧ w.heap.size ≤ b ∧ b < w'.heap.size ∧ RowAt w' b 0 l ∧ Room w' b (l.length * 3) ∧ Below w.heap.size w w'

/-- The call gives v and writes nothing that was there. -/
def Gives (v : Value) (w : World) (e : Ending) (w' : World) : Prop := e = .returned v ∧ Below w.heap.size w w'

theorem getD_take (l : List Rd) {i k : Nat} (h : i < k) : (l.take k).getD i rd0 = l.getD i rd0 := by
  simp [List.getD, h]

theorem getD_eq (l : List Rd) {i : Nat} (h : i < l.length) : l.getD i rd0 = l[i] := by simp [List.getD, h]

end Go.Proofs.Ytmdcpigobfhckaa
