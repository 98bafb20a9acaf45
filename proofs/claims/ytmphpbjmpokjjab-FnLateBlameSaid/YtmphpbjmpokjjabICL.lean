/- slices.Clone of numbers; a number of a row of the call's own is set. -/
import Derived.Test.YtmphpbjmpokjjabIKC
import Derived.Lib.SliceRun
namespace Go.Proofs.Ytmphpbjmpokjjab
open Go.RowKit

/-- The cells of a part of a row, for an append. -/
theorem IntAt.news {w : World} {b o : Nat} {l : List Int} (h : IntAt w b o l) : ∀ j u, (l.map (Value.int .i64))[j]? = some u → w.cell? ((⟨b, o, none⟩ : Addr).add j) = some u := by
  intro j u hj
  have e : (⟨b, o, none⟩ : Addr).add j = ⟨b, o + j, none⟩ := by
    unfold Addr.add; split
    · rename_i h; rw [h]; simp
    · rfl
  rw [e]
  have hjl : j < l.length := by
    rw [List.getElem?_eq_some_iff] at hj
    obtain ⟨h1, _⟩ := hj
    simpa using h1
  rw [h j hjl]
  simp [List.getElem?_map, List.getElem?_eq_getElem hjl] at hj
  rw [← hj]; simp [List.getD, hjl]

def CpIOut (l : List Int) (w : World) (e : Ending) (w' : World) : Prop := ∃ v, e = .returned v ∧ RowI w' w.heap.size v l ∧ Below w.heap.size w w'

set_option maxHeartbeats 400000 in
theorem cloneI_any (b o cap : Nat) (l : List Int) (w : World) (hb : b < w.heap.size) (hr : IntAt w b o l) (hlr : l.length ≤ 1048576) :
    Calls Try.prog 61 #[.slice (some ⟨b, o, none⟩) l.length cap] w (CpIOut l w) := by
  obtain ⟨i0, hi0, hz0, hz1, hz2⟩ := info_parts Try.info3
  have hb1 : Below w.heap.size w (w.alloc (.cells #[] 3)) := (Below.refl _ _).alloc (Nat.le_refl _) _
  have hnews := (hr.below hb1 hb).news
  have hown := RowI.made w w.heap.size (Nat.le_refl _)
  unfold RowI at hown
  clear hr
  have hq := fun (w : World) (a : Option Addr) (n c : Nat) => Lib.run_eql_slice_nil (P := Try.prog) w 24 3 a n c 0 0 Try.underlying24
  go_enter Try.func61, Try.ntmps61
  go_wp2_with (at_builtin; refine wpList_append_own _ rfl _ _ 24 rfl w.heap.size 3 i0 _ 1 8 Try.underlying24 hi0 hz0 hz1 hz2 rfl (by omega) _ _ [] rfl hown ⟨b, o, none⟩ l.length cap (l.map (Value.int .i64)) rfl (encI_len l) hnews (encI_one l) (by unfold maxLen; simp; omega) (by simp; omega) (by simp) ?_; intro v' w1 hown1 hgrow _)
  have hrow : RowI w1 w.heap.size v' l := by unfold RowI; simpa using hown1
  have hbel : Below w.heap.size w w1 := hb1.grown hgrow (by simp) (fun j hj => (hown.lt j hj).1)
  have Hrow := Lib.hid hrow
  clear hrow hown1 hgrow hown hnews
  go_wp2
  go_ret
  exact ⟨_, rfl, Hrow.out, hbel⟩

theorem RowI.setAt {w : World} {B g n cap : Nat} {l : List Int} (h : RowI w B (.slice (some ⟨g, 0, none⟩) n cap) l) (i : Nat) (v : Int) :
    RowI (w.setCell ⟨g, i, none⟩ (.int .i64 v)) B (.slice (some ⟨g, 0, none⟩) n cap) (l.set i v) := by
  obtain ⟨hlen, h⟩ := h
  rcases h with ⟨h1, h0⟩ | ⟨g', cap', cur, h1, hB, hh, hcap, hmax, hs, htk⟩
  · cases h1
  · injection h1 with h1 h2 h3
    injection h1 with h1
    injection h1 with h1
    subst h1 h2 h3
    unfold RowI
    rw [List.length_set]
    refine ⟨by simp, .inr ⟨g, cap, _, rfl, hB, Whole.set (show Whole w g _ cur from hh) i (.int .i64 v), hcap, hmax, by rw [Array.size_setIfInBounds]; exact hs, ?_⟩⟩
    rw [Array.toList_setIfInBounds, List.take_set, htk, List.map_set]
theorem RowI.open2 {w : World} {B : Nat} {v : Value} {l : List Int} (h : RowI w B v l) (h0 : 0 < l.length) : ∃ g cap, v = .slice (some ⟨g, 0, none⟩) l.length cap ∧ l.length ≤ cap ∧ IntAt w g 0 l ∧ Room w g l.length ∧ B ≤ g ∧ g < w.heap.size := by
  obtain ⟨ad, cap, rfl, hc, ho, hin⟩ := h.row
  obtain ⟨g, rfl, hlt, hat, hroom⟩ := ho (by rintro rfl; simp at h0)
  exact ⟨g, cap, rfl, hc, hat, hroom, (hin g ⟨0, rfl⟩).1, hlt⟩
theorem RowI.in_ {w : World} {B : Nat} {v : Value} {l : List Int} (h : RowI w B v l) : IntsIn w v l := by
  obtain ⟨ad, cap, rfl, hc, ho, _⟩ := h.row
  exact ho.ints hc

end Go.Proofs.Ytmphpbjmpokjjab
