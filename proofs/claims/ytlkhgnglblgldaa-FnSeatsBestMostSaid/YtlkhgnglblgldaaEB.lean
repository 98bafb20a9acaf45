/- Bookings with one more, without one, with one moved: plain facts; rows of bookings that a function gives. -/
import Derived.Test.YtlkhgnglblgldaaEP
namespace Go.Proofs.Ytlkhgnglblgldaa
open Go.RowKit

theorem takenB_snoc (l : List Bk) (r : Bk) (g : Int) (k : Bool) : takenB (l ++ [r]) g k = takenB l g k + if onB g k r then 1 else 0 := by
  rw [takenB_eq, takenB_eq, List.countP_append]; simp [List.countP_cons]
theorem validB_front {n : Int} {l : List Bk} {r : Bk} (h : validB n (l ++ [r]) = true) : validB n l = true := by
  obtain ⟨h1, h2, h3, h4⟩ := validB_iff.1 h
  rw [List.length_append] at h2
  refine validB_iff.2 ⟨h1, by omega, fun j hj => ?_, fun g hg => ?_⟩
  · have := h3 j (by simp; omega)
    rwa [Bk.getD_snoc_lt l r hj] at this
  · have := h4 g hg
    simp only [legOK, Bool.and_eq_true, decide_eq_true_eq, takenB_snoc] at this ⊢
    omega

def bookL (n : Int) (l : List Bk) (r : Bk) : List Bk := if validB n (l ++ [r]) then l ++ [r] else []
theorem bookL_yes {n : Int} {l : List Bk} {r : Bk} (h : validB n (l ++ [r]) = true) : bookL n l r = l ++ [r] := by simp [bookL, h]
theorem bookL_no {n : Int} {l : List Bk} {r : Bk} (h : validB n (l ++ [r]) = false) : bookL n l r = [] := by simp [bookL, h]
theorem bookL_short (n : Int) (l : List Bk) (r : Bk) : (bookL n l r).length ≤ 16 := by
  unfold bookL; split
  · rename_i h; exact (validB_iff.1 h).2.1
  · simp

/-- An index of the list, of bookings. -/
def atOk (n : Int) (l : List Bk) (k : Int) : Bool := validB n l && decide (0 ≤ k) && decide (k < l.length)
theorem atOk_iff {n : Int} {l : List Bk} {k : Int} : atOk n l k = true ↔ validB n l = true ∧ 0 ≤ k ∧ k < l.length := by simp [atOk, and_assoc]
def cutL (l : List Bk) (k : Nat) : List Bk := l.take k ++ l.drop (k + 1)
def cancelL (n : Int) (l : List Bk) (k : Int) : List Bk := if atOk n l k then cutL l k.toNat else []
theorem cancelL_yes {n : Int} {l : List Bk} {k : Int} (h : atOk n l k = true) : cancelL n l k = cutL l k.toNat := by simp [cancelL, h]
theorem cancelL_no {n : Int} {l : List Bk} {k : Int} (h : atOk n l k = false) : cancelL n l k = [] := by simp [cancelL, h]
theorem cancelL_short (n : Int) (l : List Bk) (k : Int) : (cancelL n l k).length ≤ 16 := by
  unfold cancelL; split
  · rename_i h
    have h1 := atOk_iff.1 h
    have h2 := (validB_iff.1 h1.1).2.1
    simp only [cutL, List.length_append, List.length_take, List.length_drop]; omega
  · simp

def flipB (r : Bk) : Bk := ⟨r.a, r.b, !r.m⟩
def movedL (l : List Bk) (k : Nat) : List Bk := l.set k (flipB (l.getD k bk0))
theorem movedL_len (l : List Bk) (k : Nat) : (movedL l k).length = l.length := by simp [movedL]
def moveOk (n : Int) (l : List Bk) (k : Int) : Bool := atOk n l k && validB n (movedL l k.toNat)
def moveL (n : Int) (l : List Bk) (k : Int) : List Bk := if moveOk n l k then movedL l k.toNat else []
theorem moveL_yes {n : Int} {l : List Bk} {k : Int} (h : moveOk n l k = true) : moveL n l k = movedL l k.toNat := by simp [moveL, h]
theorem moveL_no {n : Int} {l : List Bk} {k : Int} (h : moveOk n l k = false) : moveL n l k = [] := by simp [moveL, h]
theorem moveL_short (n : Int) (l : List Bk) (k : Int) : (moveL n l k).length ≤ 16 := by
  unfold moveL; split
  · rename_i h
    simp only [moveOk, Bool.and_eq_true] at h
    exact (validB_iff.1 h.2).2.1
  · simp

/-- A row of the call's own, and a bool. -/
def BkRow (xs : List Bk) (ok : Bool) (w : World) (e : Ending) (w' : World) : Prop :=
  ∃ v, e = .returned (.tuple #[v, .bool ok]) ∧ RowBk w' w.heap.size v xs ∧ Below w.heap.size w w'
theorem BkRow.out {xs : List Bk} {ok : Bool} {w : World} {e : Ending} {w' : World} (h : BkRow xs ok w e w') : BkOut xs ok w e w' := by
  obtain ⟨v, rfl, hr, hb⟩ := h
  obtain ⟨ad, cap, rfl, hc, ho, hblk⟩ := hr.row
  exact ⟨ad, cap, rfl, hc, ho, hblk, hb⟩
theorem BkRow.no {w w' : World} (hs : w.heap.size ≤ w'.heap.size) (hb : Below w.heap.size w w') : BkRow [] false w (.returned (.tuple #[.slice (some ⟨w'.heap.size, 0, none⟩) 0 0, .bool false])) (w'.alloc (.cells #[] 31)) :=
  ⟨_, rfl, RowBk.made w' _ hs, hb.alloc hs _⟩
theorem RowBk.mono {w : World} {B B' : Nat} {v : Value} {l : List Bk} (h : RowBk w B v l) (hB : B' ≤ B) : RowBk w B' v l := by
  obtain ⟨h1, h2⟩ := h
  refine ⟨h1, ?_⟩
  rcases h2 with h0 | ⟨g, cap, cur, hv, hg, r⟩
  · exact .inl h0
  · exact .inr ⟨g, cap, cur, hv, Nat.le_trans hB hg, r⟩
theorem RowBk.in_ {w : World} {B : Nat} {v : Value} {l : List Bk} (h : RowBk w B v l) : BkIn w v l := by
  obtain ⟨ad, cap, rfl, hc, ho, _⟩ := h.row
  exact ho.ins hc
theorem BkIn.news {w : World} {ad : Addr} {n cap : Nat} {l : List Bk} (hn : n = l.length) (h : BkIn w (.slice (some ad) n cap) l) : (l ≠ [] → ad.block < w.heap.size) ∧ ∀ j u, (encBk l)[j]? = some u → w.cell? (ad.add j) = some u := by
  subst hn
  obtain ⟨a, c, he, _, ha⟩ := h
  cases he
  by_cases hl : l = []
  · subst hl; exact ⟨fun h => absurd rfl h, fun j u hj => by simp [encBk] at hj⟩
  · obtain ⟨b, o, he, hb, hr⟩ := ha hl
    cases he
    refine ⟨fun _ => hb, fun j u hj => ?_⟩
    have h1 := hr.news (f := 0) (n := l.length) (by omega)
    rw [Nat.zero_mul, Nat.add_zero, List.drop_zero, List.take_length] at h1
    exact h1 j u hj

end Go.Proofs.Ytlkhgnglblgldaa
