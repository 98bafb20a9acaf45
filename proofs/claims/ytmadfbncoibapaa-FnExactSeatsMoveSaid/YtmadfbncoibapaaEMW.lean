/- SeatsMove of the model. -/
import Derived.Test.YtmadfbncoibapaaEMV
namespace Go.Proofs.Ytmadfbncoibapaa
open Go.RowKit

set_option maxRecDepth 100000 in
set_option maxHeartbeats 2000000 in
theorem move1_any (n : Int) (ad : Addr) (cap : Nat) (l : List Bk) (x : Int) (w : World) (wn : W64 n) (hv : BkIn w (.slice (some ad) l.length cap) l) (hm : l.length ≤ 1048576) :
    Calls Try.prog 45 #[.int .i64 n, .slice (some ad) l.length cap, .int .i64 x] w (BkOut (moveL n l x) (moveOk n l x) w) := by
  obtain ⟨i0, hi0, hz0, hz1, hz2⟩ := info_parts infoBk
  have HV := Lib.hid (books1_any n _ l w wn hv hm)
  have Hv := Lib.hid hv
  clear hv
  have hwl : IntKind.i64.wrap ((l.length : Int) - 1) = (l.length : Int) - 1 := IntWalk.i64_in _ (by omega)
  have hno : atOk n l x = false → moveOk n l x = false := fun h => by unfold moveOk; rw [h]; rfl
  cases hz : validB n l with
  | false =>
    have HOK := Lib.hid (hno (show atOk n l x = false by unfold atOk; rw [hz]; rfl))
    rw [hz] at HV
    clear hno
    go_enter Try.func45, Try.ntmps45
    go_wp2_with fail
    refine HV.out.mono ?_; rintro e w1 ⟨rfl, m1, rfl⟩
    go_wp2
    go_ret2
    rw [moveL_no HOK.out, HOK.out]
    exact BkOut.no (w' := w.drewN m1) (Nat.le_refl _) ((Below.refl _ _).drewN m1)
  | true =>
    rw [hz] at HV
    by_cases hx : 0 ≤ x ∧ x ≤ (l.length : Int) - 1
    · have P1 := Lib.hid (show inB x 0 ((l.length : Int) - 1) = true from (inB_iff _ _ _).2 hx)
      obtain ⟨k, rfl⟩ : ∃ k : Nat, x = k := ⟨x.toNat, by omega⟩
      have hk : k < l.length := by omega
      have Hok := Lib.hid (show moveOk n l (k : Int) = validB n (movedL l k) by
        unfold moveOk; rw [atOk_iff.2 ⟨hz, by omega, by omega⟩]; rfl)
      clear hz hx hno
      have hx0 : (0 : Int) ≤ (k : Int) := by omega
      have hx1 : (k : Int) < (l.length : Int) := by omega
      go_enter Try.func45, Try.ntmps45
      go_wp2_with fail
      refine HV.out.mono ?_; rintro e w1 ⟨rfl, m1, rfl⟩
      go_wp2_with fail
      refine (l6In_any _ _ _ _).mono ?_; rintro e w2 ⟨rfl, rfl⟩
      rw [P1.out]
      have hb0 : Below w.heap.size w (w.drewN m1) := (Below.refl _ _).drewN m1
      have hb1 : Below w.heap.size w ((w.drewN m1).alloc (.cells #[] 35)) := hb0.alloc (Nat.le_refl _) _
      have hnews := ((Hv.out.below hb1).news rfl).2
      have hown := RowBk.made (w.drewN m1) w.heap.size (Nat.le_refl _)
      unfold RowBk at hown
      go_wp2_with (at_builtin; refine wpList_append_own _ rfl _ _ 25 rfl w.heap.size 35 i0 _ 3 24 Try.underlying25 hi0 hz0 hz1 hz2 rfl (by omega) _ _ (encBk []) rfl hown ad l.length cap (encBk l) rfl (encBk_len l) hnews (encBk_one l) (by unfold maxLen; simp; omega) (by simp; omega) (by simp) ?_; intro v' w2 hown1 hgrow _; have hrow : RowBk w2 w.heap.size v' l := (by unfold RowBk; simpa [encBk] using hown1); have hb2 : Below w.heap.size w w2 := hb1.grown hgrow (by simp) (fun j hj => (hown.lt j hj).1); obtain ⟨ad2, cap2, rfl, hc2, ho, hin⟩ := hrow.row; obtain ⟨g, rfl, hgl, hat, hro⟩ := ho (by rintro rfl; simp at hk); obtain ⟨_, _, c2⟩ := hat k hk; rw [Nat.zero_add] at c2; have f2 := hro.2 (k * 3 + 2); have HF := Lib.hid (hat.flip hk); have HR := Lib.hid (hro.setCell ⟨g, k * 3 + 2, none⟩ (.bool !(l.getD k bk0).m)); have hgw := (hin g ⟨0, rfl⟩).1; have HB3 := Lib.hid (hb2.setCell (p := ⟨g, k * 3 + 2, none⟩) (show w.heap.size ≤ g from hgw) (.bool !(l.getD k bk0).m)); have hgl3 : g < (w2.setCell ⟨g, k * 3 + 2, none⟩ (.bool !(l.getD k bk0).m)).heap.size := (by simpa using hgl); clear hrow ho hin hat hro hown1 hgrow hb2; generalize (l.getD k bk0).m = mm at *)
      have Hml := Lib.hid (movedL_len l k)
      have hI : BkIn (w2.setCell ⟨g, k * 3 + 2, none⟩ (.bool !mm)) (.slice (some ⟨g, 0, none⟩) l.length cap2) (movedL l k) := by
        have h := BkIn.row (cap := cap2) hgl3 (by rw [Hml.out]; exact hc2) HF.out
        rwa [Hml.out] at h
      have HVm := Lib.hid (books1_any n _ _ _ wn hI (by rw [Hml.out]; exact hm))
      have hB := HB3.out.size
      generalize w2.setCell ⟨g, k * 3 + 2, none⟩ (.bool !mm) = w3 at *
      cases hy : validB n (movedL l k) with
      | true =>
        rw [hy] at HVm
        have HOK := Lib.hid (Hok.out.trans hy)
        refine HVm.out.mono ?_; rintro e w4 ⟨rfl, m4, rfl⟩
        go_wp2
        go_ret2
        rw [HOK.out, moveL_yes HOK.out]
        refine ⟨some ⟨g, 0, none⟩, cap2, by rw [show (k : Int).toNat = k from rfl, Hml.out]; rfl, by rw [show (k : Int).toNat = k from rfl, Hml.out]; exact hc2, fun _ => ⟨g, rfl, hgl3, HF.out.below ((Below.refl _ _).drewN m4) hgl3, by rw [show (k : Int).toNat = k from rfl, Hml.out]; exact HR.out.below ((Below.refl _ _).drewN m4) hgl3⟩, fun j hj => ?_, HB3.out.drewN m4⟩
        obtain ⟨o, ho⟩ := hj; cases ho
        exact ⟨hgw, hgl3⟩
      | false =>
        rw [hy] at HVm
        have HOK := Lib.hid (Hok.out.trans hy)
        refine HVm.out.mono ?_; rintro e w4 ⟨rfl, m4, rfl⟩
        go_wp2
        go_ret2
        rw [HOK.out, moveL_no HOK.out]
        exact BkOut.no (w' := w3.drewN m4) HB3.out.size (HB3.out.drewN m4)
    · have P1 := Lib.hid (show inB x 0 ((l.length : Int) - 1) = false from Bool.eq_false_iff.2 fun h => hx ((inB_iff _ _ _).1 h))
      have HOK := Lib.hid (hno (show atOk n l x = false from Bool.eq_false_iff.2 fun h => by have := atOk_iff.1 h; omega))
      clear hno
      go_enter Try.func45, Try.ntmps45
      go_wp2_with fail
      refine HV.out.mono ?_; rintro e w1 ⟨rfl, m1, rfl⟩
      go_wp2_with fail
      refine (l6In_any _ _ _ _).mono ?_; rintro e w2 ⟨rfl, rfl⟩
      rw [P1.out]
      go_wp2
      go_ret2
      rw [moveL_no HOK.out, HOK.out]
      exact BkOut.no (w' := w.drewN m1) (Nat.le_refl _) ((Below.refl _ _).drewN m1)

theorem move1_out (n : Int) (wn : W64 n) (ad : Addr) (cap : Nat) (l : List Bk) (x : Int) (w : World) (hv : BkIn w (.slice (some ad) l.length cap) l) (hm : l.length ≤ 1048576) :
    Calls Try.prog 45 #[.int .i64 n, .slice (some ad) l.length cap, .int .i64 x] w (BkOut (moveL n l x) (moveOk n l x) w) := move1_any n ad cap l x w wn hv hm

end Go.Proofs.Ytmadfbncoibapaa
