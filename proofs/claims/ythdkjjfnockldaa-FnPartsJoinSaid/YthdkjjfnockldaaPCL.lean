/- slices.Clone and slices.Reverse of parts of roads. -/
import Derived.Test.YthdkjjfnockldaaPA
import Derived.Test.YthdkjjfnockldaaHD
import Derived.Lib.SliceRun
import Derived.WalkKit
import Derived.WalkSpells
import Derived.WalkLawsBesides
import Derived.IntWalk
import Derived.BigRegion
import Derived.Outline
namespace Go.Proofs.Ythdkjjfnockldaa
open Go.RowKit

/-- A copy of the call's own. -/
def CpPOut (l : List Pt) (w : World) (e : Ending) (w' : World) : Prop := ∃ v, e = .returned v ∧ RowPt w' w.heap.size v l ∧ Below w.heap.size w w'

set_option maxHeartbeats 400000 in
theorem clonePt_any (b o cap : Nat) (l : List Pt) (w : World) (hb : b < w.heap.size) (hr : PtAt w b o l) (hlr : l.length ≤ 1048576) :
    Calls Try.prog 55 #[.slice (some ⟨b, o, none⟩) l.length cap] w (CpPOut l w) := by
  obtain ⟨i0, hi0, hz0, hz1, hz2⟩ := info_parts infoPt
  have hb1 : Below w.heap.size w (w.alloc (.cells #[] 41)) := (Below.refl _ _).alloc (Nat.le_refl _) _
  have hnews : ∀ j u, (encPt l)[j]? = some u → (w.alloc (.cells #[] 41)).cell? ((⟨b, o, none⟩ : Addr).add j) = some u := by
    have := PtAt.news (f := 0) (n := l.length) (hr.below hb1 hb) (by omega)
    simpa using this
  have hown := RowPt.made w w.heap.size (Nat.le_refl _)
  unfold RowPt at hown
  clear hr
  have hq := fun (w : World) (a : Option Addr) (n c : Nat) => Lib.run_eql_slice_nil (P := Try.prog) w 23 41 a n c 0 0 Try.underlying23
  go_enter Try.func55, Try.ntmps55
  go_wp2_with (at_builtin; refine wpList_append_own _ rfl _ _ 23 rfl w.heap.size 41 i0 _ 2 16 Try.underlying23 hi0 hz0 hz1 hz2 rfl (by omega) _ _ (encPt []) rfl hown ⟨b, o, none⟩ l.length cap (encPt l) rfl (encPt_len l) hnews (encPt_one l) (by unfold maxLen; simp; omega) (by simp; omega) (by simp) ?_; intro v' w1 hown1 hgrow _)
  have hrow : RowPt w1 w.heap.size v' l := by unfold RowPt; simpa [encPt] using hown1
  have hbel : Below w.heap.size w w1 := hb1.grown hgrow (by simp) (fun j hj => (hown.lt j hj).1)
  have Hrow := Lib.hid hrow
  clear hrow hown1 hgrow hown hnews
  go_wp2
  go_ret
  exact ⟨_, rfl, Hrow.out, hbel⟩


theorem Touch.drewQ {S : Nat → Prop} {w w' : World} (h : Touch S w w') : Touch S w w'.drew := ⟨h.os, h.tape, h.output, h.size, h.block⟩
/-- The list when i exchanges are over. -/
def revAt (l : List Pt) (i k : Nat) : Pt := if k < i ∨ l.length ≤ k + i then l.getD (l.length - 1 - k) pt0 else l.getD k pt0
/-- It lies in block g. -/
def RevIn (w : World) (g : Nat) (l : List Pt) (i : Nat) : Prop := ∀ k, k < l.length → w.cell? ⟨g, k * 2, none⟩ = some (.int .i64 (revAt l i k).a) ∧ w.cell? ⟨g, k * 2 + 1, none⟩ = some (.int .i64 (revAt l i k).b)
theorem RevIn.start {w : World} {g : Nat} {l : List Pt} (h : PtAt w g 0 l) : RevIn w g l 0 := fun k hk => by
  have := h k hk
  rw [Nat.zero_add] at this
  rw [show revAt l 0 k = l.getD k pt0 by unfold revAt; rw [if_neg (by omega)]]
  exact this
theorem RevIn.done {w : World} {g i : Nat} {l : List Pt} (h : RevIn w g l i) (hi : l.length ≤ 2 * i + 1) : PtAt w g 0 l.reverse := fun k hk => by
  rw [List.length_reverse] at hk
  have := h k hk
  rw [Nat.zero_add]
  rw [show l.reverse.getD k pt0 = revAt l i k by
    unfold revAt
    rw [show l.reverse.getD k pt0 = l.getD (l.length - 1 - k) pt0 by rw [List.getD_eq_getElem?_getD, List.getD_eq_getElem?_getD, List.getElem?_reverse hk]]
    by_cases q : k < i ∨ l.length ≤ k + i
    · rw [if_pos q]
    · rw [if_neg q, show l.length - 1 - k = k by omega]]
  exact this
theorem RevIn.swap {w : World} {g i j : Nat} {l : List Pt} (h : RevIn w g l i) (hj : i + j + 1 = l.length) (hij : i < j) :
    RevIn ((((w.setCell ⟨g, i * 2, none⟩ (.int .i64 (revAt l i j).a)).setCell ⟨g, i * 2 + 1, none⟩ (.int .i64 (revAt l i j).b)).setCell ⟨g, j * 2, none⟩ (.int .i64 (revAt l i i).a)).setCell ⟨g, j * 2 + 1, none⟩ (.int .i64 (revAt l i i).b)) g l (i + 1) := by
  have far : ∀ (w : World) (a b : Nat) (v : Value), a ≠ b → (w.setCell ⟨g, a, none⟩ v).cell? ⟨g, b, none⟩ = w.cell? ⟨g, b, none⟩ := fun w a b v hne =>
    World.cell?_setCell_other _ _ _ _ (by intro e; injection e; omega)
  have near : ∀ (w : World) (a : Nat) (u v : Value), w.cell? ⟨g, a, none⟩ = some u → (w.setCell ⟨g, a, none⟩ v).cell? ⟨g, a, none⟩ = some v := fun w a u v hu => World.cell?_setCell_same _ _ _ hu
  obtain ⟨i0, i1⟩ := h i (by omega)
  obtain ⟨j0, j1⟩ := h j (by omega)
  have ei : revAt l i i = l.getD i pt0 := by unfold revAt; rw [if_neg (by omega)]
  have ej : revAt l i j = l.getD j pt0 := by unfold revAt; rw [if_neg (by omega)]
  intro k hk
  by_cases e1 : k = i
  · subst e1
    rw [show revAt l (k + 1) k = revAt l k j by rw [ej]; unfold revAt; rw [if_pos (by omega), show l.length - 1 - k = j by omega]]
    constructor
    · rw [far _ _ _ _ (by omega), far _ _ _ _ (by omega), far _ _ _ _ (by omega), near _ _ _ _ i0]
    · rw [far _ _ _ _ (by omega), far _ _ _ _ (by omega), near _ _ _ _ ((far _ _ _ _ (by omega)).trans i1)]
  · by_cases e2 : k = j
    · subst e2
      rw [show revAt l (i + 1) k = revAt l i i by rw [ei]; unfold revAt; rw [if_pos (by omega), show l.length - 1 - k = i by omega]]
      constructor
      · rw [far _ _ _ _ (by omega), near _ _ _ _ ((far _ _ _ _ (by omega)).trans ((far _ _ _ _ (by omega)).trans j0))]
      · rw [near _ _ _ _ ((far _ _ _ _ (by omega)).trans ((far _ _ _ _ (by omega)).trans ((far _ _ _ _ (by omega)).trans j1)))]
    · rw [show revAt l (i + 1) k = revAt l i k by
        unfold revAt
        by_cases q : k < i ∨ l.length ≤ k + i
        · rw [if_pos q, if_pos (by omega)]
        · rw [if_neg q, if_neg (by omega)]]
      obtain ⟨k0, k1⟩ := h k hk
      constructor
      · rw [far _ _ _ _ (by omega), far _ _ _ _ (by omega), far _ _ _ _ (by omega), far _ _ _ _ (by omega)]; exact k0
      · rw [far _ _ _ _ (by omega), far _ _ _ _ (by omega), far _ _ _ _ (by omega), far _ _ _ _ (by omega)]; exact k1

def RvRel (l : List Pt) (g : Nat) (w : World) (iv jv : Value) (wr : World) : Prop :=
  ∃ i j : Nat, iv = .int .i64 i ∧ jv = .int .i64 ((j : Int) - 1) ∧ i + j = l.length ∧ i ≤ j ∧ RevIn wr g l i ∧ Room wr g (l.length * 2) ∧ Touch (fun k => k = g) w wr

set_option maxRecDepth 100000 in
set_option maxHeartbeats 2000000 in
theorem reversePt_any (g cap : Nat) (l : List Pt) (w : World) (hl : PtAt w g 0 l) (hr : Room w g (l.length * 2)) (hm : l.length ≤ 1048576) :
    Calls Try.prog 56 #[.slice (some ⟨g, 0, none⟩) l.length cap] w fun e w' => e = .returned (.tuple #[]) ∧ PtAt w' g 0 l.reverse ∧ Room w' g (l.length * 2) ∧ Touch (fun k => k = g) w w' := by
  have Hl := Lib.hid hl
  have Hr := Lib.hid hr
  clear hl hr
  go_enter Try.func56, Try.ntmps56
  go_wp2
  go_loopw [2, 3] (fun iv jv wr => RvRel l g w iv jv wr) (fun _ jv _ => (intOf jv + 1).toNat)
  case atStart => exact ⟨0, l.length, rfl, rfl, by omega, Nat.zero_le _, RevIn.start Hl.out, Hr.out, Touch.refl _ _⟩
  case round =>
    obtain ⟨i, j, rfl, rfl, hij, hle, hrv, hrm, ht⟩ := hrel
    by_cases hlt : i + 1 < j
    · obtain ⟨j2, rfl⟩ : ∃ j2, j = j2 + 1 := ⟨j - 1, by omega⟩
      obtain ⟨i0, i1⟩ := hrv i (by omega)
      obtain ⟨j0, j1⟩ := hrv j2 (by omega)
      have f0 := hrm.2 (i * 2)
      have f1 := hrm.2 (i * 2 + 1)
      have f2 := hrm.2 (j2 * 2)
      have f3 := hrm.2 (j2 * 2 + 1)
      have hsw := hrv.swap (by omega) (show i < j2 by omega)
      have Hsw := Lib.hid hsw
      have Hrm := Lib.hid hrm
      have Ht := Lib.hid ht
      generalize (revAt l i i).a = x0 at *
      generalize (revAt l i i).b = x1 at *
      generalize (revAt l i j2).a = y0 at *
      generalize (revAt l i j2).b = y1 at *
      have hjj : ((j2 + 1 : Nat) : Int) - 1 = (j2 : Int) := by omega
      rw [hjj]
      have hi0 : (0 : Int) ≤ (i : Int) := Int.natCast_nonneg _
      have hi1 : (i : Int) < (l.length : Int) := by omega
      have hj0 : (0 : Int) ≤ (j2 : Int) := Int.natCast_nonneg _
      have hj1 : (j2 : Int) < (l.length : Int) := by omega
      have hin : i < l.length := by omega
      have hjn : j2 < l.length := by omega
      have hlt2 : (i : Int) < (j2 : Int) := by omega
      have n1 : i * 2 ≠ j2 * 2 := by omega
      have n2 : i * 2 + 1 ≠ j2 * 2 := by omega
      have n3 : i * 2 ≠ j2 * 2 + 1 := by omega
      have n4 : i * 2 + 1 ≠ j2 * 2 + 1 := by omega
      clear hsw hrm ht hrv
      go_wp2
      go_region
      all_goals
        go_wp2
        refine ⟨⟨i + 1, j2, by go_num, by go_num, by omega, by omega, Hsw.out, (((Hrm.out.setCell _ _).setCell _ _).setCell _ _).setCell _ _, Ht.out.trans (((((Touch.refl (fun k => k = g) wr).setCell rfl _).setCell rfl _).setCell rfl _).setCell rfl _).drewQ⟩, ?_⟩
        simp [intOf]
    · have hn : ¬ ((i : Int) < (j : Int) - 1) := by omega
      have hd := hrv.done (by omega)
      have Hd := Lib.hid hd
      have Hrm := Lib.hid hrm
      have Ht := Lib.hid ht
      clear hrv hrm ht hd
      go_wp2
      go_end0
      exact ⟨rfl, Hd.out, Hrm.out, Ht.out⟩

end Go.Proofs.Ythdkjjfnockldaa
