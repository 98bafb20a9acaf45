/- SeatsMove: of the model and of the program. -/
import Derived.Test.YtmadfbncoibapaaEBI
import Derived.Test.YtmadfbncoibapaaEM
import Derived.Lib.SliceRun
namespace Go.Proofs.Ytmadfbncoibapaa
open Go.RowKit

/-- One's kind is turned. -/
theorem BkAt.flip {w : World} {b : Nat} {l : List Bk} (h : BkAt w b 0 l) {k : Nat} (hk : k < l.length) : BkAt (w.setCell ⟨b, k * 3 + 2, none⟩ (.bool !(l.getD k bk0).m)) b 0 (movedL l k) := by
  have far : ∀ (j : Nat) (v : Value), k * 3 + 2 ≠ j → (w.setCell ⟨b, k * 3 + 2, none⟩ v).cell? ⟨b, j, none⟩ = w.cell? ⟨b, j, none⟩ := fun j v hne =>
    World.cell?_setCell_other _ _ _ _ (by intro e; injection e; omega)
  intro i hi
  rw [movedL_len] at hi
  obtain ⟨h0, h1, h2⟩ := h i hi
  simp only [Nat.zero_add] at h0 h1 h2 ⊢
  by_cases e : k = i
  · subst e
    have g : (movedL l k).getD k bk0 = flipB (l.getD k bk0) := by simp [movedL, List.getD, hk]
    rw [g]
    exact ⟨(far _ _ (by omega)).trans h0, (far _ _ (by omega)).trans h1, World.cell?_setCell_same _ _ _ h2⟩
  · have g : (movedL l k).getD i bk0 = l.getD i bk0 := by simp [movedL, List.getD, List.getElem?_set, e]
    rw [g]
    exact ⟨(far _ _ (by omega)).trans h0, (far _ _ (by omega)).trans h1, (far _ _ (by omega)).trans h2⟩

/-- A copy of the call's own. -/
def CpOut (l : List Bk) (w : World) (e : Ending) (w' : World) : Prop := ∃ v, e = .returned v ∧ RowBk w' w.heap.size v l ∧ Below w.heap.size w w'

set_option maxHeartbeats 400000 in
theorem clone_any (ad : Addr) (cap : Nat) (l : List Bk) (w : World) (hr : BkIn w (.slice (some ad) l.length cap) l) (hlr : l.length ≤ 1048576) :
    Calls Try.prog 72 #[.slice (some ad) l.length cap] w (CpOut l w) := by
  obtain ⟨i0, hi0, hz0, hz1, hz2⟩ := info_parts infoBk
  have hb1 : Below w.heap.size w (w.alloc (.cells #[] 35)) := (Below.refl _ _).alloc (Nat.le_refl _) _
  have hnews := ((hr.below hb1).news rfl).2
  have hown := RowBk.made w w.heap.size (Nat.le_refl _)
  unfold RowBk at hown
  clear hr
  have hq := fun (w : World) (a : Option Addr) (n c : Nat) => Lib.run_eql_slice_nil (P := Try.prog) w 25 35 a n c 0 0 Try.underlying25
  go_enter Try.func72, Try.ntmps72
  go_wp2_with (at_builtin; refine wpList_append_own _ rfl _ _ 25 rfl w.heap.size 35 i0 _ 3 24 Try.underlying25 hi0 hz0 hz1 hz2 rfl (by omega) _ _ (encBk []) rfl hown ad l.length cap (encBk l) rfl (encBk_len l) hnews (encBk_one l) (by unfold maxLen; simp; omega) (by simp; omega) (by simp) ?_; intro v' w1 hown1 hgrow _)
  have hrow : RowBk w1 w.heap.size v' l := by unfold RowBk; simpa [encBk] using hown1
  have hbel : Below w.heap.size w w1 := hb1.grown hgrow (by simp) (fun j hj => (hown.lt j hj).1)
  have Hrow := Lib.hid hrow
  clear hrow hown1 hgrow hown hnews
  go_wp2
  go_ret
  exact ⟨_, rfl, Hrow.out, hbel⟩

theorem BkOut.no {w w' : World} (hs : w.heap.size ≤ w'.heap.size) (hb : Below w.heap.size w w') : BkOut [] false w (.returned (.tuple #[.slice (some ⟨w'.heap.size, 0, none⟩) 0 0, .bool false])) (w'.alloc (.cells #[] 35)) := (BkRow.no hs hb).out

set_option maxRecDepth 100000 in
set_option maxHeartbeats 2000000 in
theorem move2_any (n : Int) (ad : Addr) (cap : Nat) (l : List Bk) (x : Int) (w : World) (hv : BkIn w (.slice (some ad) l.length cap) l) (hm : l.length ≤ 1048576) :
    Calls Try.prog 46 #[.int .i64 n, .slice (some ad) l.length cap, .int .i64 x] w (BkOut (moveL n l x) (moveOk n l x) w) := by
  have HV := Lib.hid (books2_any n _ l w hv hm)
  have HC := Lib.hid (fun w' (h : Below w.heap.size w w') => clone_any ad cap l w' (hv.below h) hm)
  clear hv
  have hno : atOk n l x = false → moveOk n l x = false := fun h => by unfold moveOk; rw [h]; rfl
  cases hz : validB n l with
  | false =>
    have HOK := Lib.hid (hno (show atOk n l x = false by unfold atOk; rw [hz]; rfl))
    rw [hz] at HV
    clear hno
    go_enter Try.func46, Try.ntmps46
    go_wp2_with fail
    refine HV.out.mono ?_; rintro e w1 ⟨rfl, hb1⟩
    have HB := Lib.hid hb1; clear hb1
    go_wp2
    go_ret2
    rw [moveL_no HOK.out, HOK.out]
    exact BkOut.no HB.out.size HB.out
  | true =>
    rw [hz] at HV
    by_cases h0 : x < 0
    · have HOK := Lib.hid (hno (show atOk n l x = false from Bool.eq_false_iff.2 fun h => by have := atOk_iff.1 h; omega))
      clear hno
      go_enter Try.func46, Try.ntmps46
      go_wp2_with fail
      refine HV.out.mono ?_; rintro e w1 ⟨rfl, hb1⟩
      have HB := Lib.hid hb1; clear hb1
      go_wp2
      go_ret2
      rw [moveL_no HOK.out, HOK.out]
      exact BkOut.no HB.out.size HB.out
    · by_cases h1 : (l.length : Int) ≤ x
      · have HOK := Lib.hid (hno (show atOk n l x = false from Bool.eq_false_iff.2 fun h => by have := atOk_iff.1 h; omega))
        clear hno
        go_enter Try.func46, Try.ntmps46
        go_wp2_with fail
        refine HV.out.mono ?_; rintro e w1 ⟨rfl, hb1⟩
        have HB := Lib.hid hb1; clear hb1
        go_wp2
        go_ret2
        rw [moveL_no HOK.out, HOK.out]
        exact BkOut.no HB.out.size HB.out
      · obtain ⟨k, rfl⟩ : ∃ k : Nat, x = k := ⟨x.toNat, by omega⟩
        have hk : k < l.length := by omega
        have Hok := Lib.hid (show moveOk n l (k : Int) = validB n (movedL l k) by
          unfold moveOk; rw [atOk_iff.2 ⟨hz, by omega, by omega⟩]; rfl)
        clear hz h0 h1 hno
        have hx0 : (0 : Int) ≤ (k : Int) := by omega
        have hx1 : (k : Int) < (l.length : Int) := by omega
        go_enter Try.func46, Try.ntmps46
        go_wp2_with fail
        refine HV.out.mono ?_; rintro e w1 ⟨rfl, hb1⟩
        have HB := Lib.hid hb1; clear hb1
        go_wp2_with fail
        refine (HC.out _ HB.out).mono ?_; rintro e w2 ⟨v, rfl, hrow, hb2⟩
        have hsw := HB.out.size
        obtain ⟨ad2, cap2, rfl, hc2, ho, hin⟩ := hrow.row
        obtain ⟨g, rfl, hgl, hat, hro⟩ := ho (by rintro rfl; simp at hk)
        have hgw := (hin g ⟨0, rfl⟩).1
        obtain ⟨_, _, c2⟩ := hat k hk
        rw [Nat.zero_add] at c2
        have f2 := hro.2 (k * 3 + 2)
        have HB2 := Lib.hid (HB.out.trans (hb2.mono hsw))
        have HF := Lib.hid (hat.flip hk)
        have HR := Lib.hid (hro.setCell ⟨g, k * 3 + 2, none⟩ (.bool !(l.getD k bk0).m))
        have Hml := Lib.hid (movedL_len l k)
        have HB3 := Lib.hid (HB2.out.setCell (p := ⟨g, k * 3 + 2, none⟩) (show w.heap.size ≤ g by omega) (.bool !(l.getD k bk0).m))
        have hgl3 : g < (w2.setCell ⟨g, k * 3 + 2, none⟩ (.bool !(l.getD k bk0).m)).heap.size := by simpa using hgl
        clear hrow hb2 hin hat hro ho
        generalize (l.getD k bk0).m = m at *
        go_wp2_with fail
        have hI : BkIn (w2.setCell ⟨g, k * 3 + 2, none⟩ (.bool !m)) (.slice (some ⟨g, 0, none⟩) l.length cap2) (movedL l k) := by
          have h := BkIn.row (cap := cap2) hgl3 (by rw [Hml.out]; exact hc2) HF.out
          rwa [Hml.out] at h
        refine (ifB_any n _ (movedL l k) _ hI (by rw [Hml.out]; omega)).mono ?_; rintro e w3 ⟨v3, rfl, h3, hb3⟩
        have H3 := Lib.hid h3
        have HBf := Lib.hid hb3
        clear h3 hb3 hI
        go_wp2
        go_ret2
        cases hy : validB n (movedL l k) with
        | true =>
          have e1 := Hok.out.trans hy
          have e2 : moveL n l (k : Int) = movedL l k := moveL_yes e1
          rw [e1, e2]
          refine ⟨some ⟨g, 0, none⟩, cap2, by rw [Hml.out, H3.out.1 hy]; rfl, by rw [Hml.out]; exact hc2, fun _ => ⟨g, rfl, Nat.lt_of_lt_of_le hgl3 HBf.out.size, HF.out.below HBf.out hgl3, by rw [Hml.out]; exact HR.out.below HBf.out hgl3⟩, fun j hj => ?_, HB3.out.trans (HBf.out.mono HB3.out.size)⟩
          obtain ⟨o, ho⟩ := hj; cases ho
          exact ⟨by omega, Nat.lt_of_lt_of_le hgl3 HBf.out.size⟩
        | false =>
          have e1 := Hok.out.trans hy
          rw [e1, moveL_no e1]
          exact BkRow.out ⟨_, rfl, (H3.out.2 hy).mono HB3.out.size, HB3.out.trans (HBf.out.mono HB3.out.size)⟩

end Go.Proofs.Ytmadfbncoibapaa
