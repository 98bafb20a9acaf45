/- slices.Clone of numbers; a number of a row of the call's own is set. -/
import Derived.Test.YthhllpnbmelidaaIKC
import Derived.Lib.SliceRun
namespace Go.Proofs.Ythhllpnbmelidaa
open Go.RowKit

/-- The cells of a part of a row, for an append. -/
theorem IntAt.news {w : World} {b o : Nat} {l : List Int} (h : IntAt w b o l) : ∀ j u, (l.map (Value.int .i64))[j]? = some u → w.cell? ((⟨b, o, none⟩ : Addr).add j) = some u := by
  intro j u hj
  have e : (⟨b, o, none⟩ : Addr).add j = ⟨b, o + j, none⟩ := by
    unfold Addr.add; split
    · rename_i h; rw [h]; simp
    · rfl
  rw [e]
  have hjl : j < l.length := by
    rw [List.getElem?_eq_some_iff] at hj
    obtain ⟨h1, _⟩ := hj
    simpa using h1
  rw [h j hjl]
  simp [List.getElem?_map, List.getElem?_eq_getElem hjl] at hj
  rw [← hj]; simp [List.getD, hjl]

def CpIOut (l : List Int) (w : World) (e : Ending) (w' : World) : Prop := ∃ v, e = .returned v ∧ RowI w' w.heap.size v l ∧ Below w.heap.size w w'

theorem RowI.setAt {w : World} {B g n cap : Nat} {l : List Int} (h : RowI w B (.slice (some ⟨g, 0, none⟩) n cap) l) (i : Nat) (v : Int) :
    RowI (w.setCell ⟨g, i, none⟩ (.int .i64 v)) B (.slice (some ⟨g, 0, none⟩) n cap) (l.set i v) := by
  obtain ⟨hlen, h⟩ := h
  rcases h with ⟨h1, h0⟩ | ⟨g', cap', cur, h1, hB, hh, hcap, hmax, hs, htk⟩
  · cases h1
  · injection h1 with h1 h2 h3
    injection h1 with h1
    injection h1 with h1
    subst h1 h2 h3
    unfold RowI
    rw [List.length_set]
    refine ⟨by simp, .inr ⟨g, cap, _, rfl, hB, Whole.set (show Whole w g _ cur from hh) i (.int .i64 v), hcap, hmax, by rw [Array.size_setIfInBounds]; exact hs, ?_⟩⟩
    rw [Array.toList_setIfInBounds, List.take_set, htk, List.map_set]
theorem RowI.open2 {w : World} {B : Nat} {v : Value} {l : List Int} (h : RowI w B v l) (h0 : 0 < l.length) : ∃ g cap, v = .slice (some ⟨g, 0, none⟩) l.length cap ∧ l.length ≤ cap ∧ IntAt w g 0 l ∧ Room w g l.length ∧ B ≤ g ∧ g < w.heap.size := by
  obtain ⟨ad, cap, rfl, hc, ho, hin⟩ := h.row
  obtain ⟨g, rfl, hlt, hat, hroom⟩ := ho (by rintro rfl; simp at h0)
  exact ⟨g, cap, rfl, hc, hat, hroom, (hin g ⟨0, rfl⟩).1, hlt⟩
theorem RowI.in_ {w : World} {B : Nat} {v : Value} {l : List Int} (h : RowI w B v l) : IntsIn w v l := by
  obtain ⟨ad, cap, rfl, hc, ho, _⟩ := h.row
  exact ho.ints hc

end Go.Proofs.Ythhllpnbmelidaa
