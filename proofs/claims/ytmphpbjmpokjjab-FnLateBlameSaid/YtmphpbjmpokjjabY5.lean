/- The model's LateBlame. -/
import Derived.Test.YtmphpbjmpokjjabY4
import Derived.Test.YtmphpbjmpokjjabICL
namespace Go.Proofs.Ytmphpbjmpokjjab
open Go.RowKit

set_option maxRecDepth 100000 in
set_option maxHeartbeats 2000000 in
theorem blame1_any (n : Int) (v : Value) (l : List Rd) (least start : Int) (v' : Value) (ds : List Int) (k : Int) (w : World) (hv : RoadsIn w v l) (hl : l.length ≤ 1048576) (hv' : IntsIn w v' ds) (hd : ds.length ≤ 1048576) :
    Calls Try.prog 33 #[.int .i64 n, v, .int .i64 least, .int .i64 start, v', .int .i64 k] w (Gives (.int .i64 (blameX n l least start ds k)) w) := by
  obtain ⟨i0, hi, hz0, hz1, hz2⟩ := info_parts Try.info3
  have HE := Lib.hid (end1_any n v l least start v' ds w hv hl hv' hd)
  have HE2 := Lib.hid (fun (w' : World) (h : Below w.heap.size w w') (v2 : Value) (ds2 : List Int) (h2 : IntsIn w' v2 ds2) (h3 : ds2.length ≤ 1048576) => end1_any n v l least start v2 ds2 w' (hv.below h) hl h2 h3)
  obtain ⟨x0, x1⟩ := endX_bd n l least start ds
  obtain ⟨a', cap', rfl, hc', ha'⟩ := hv'
  have Ha' := Lib.hid ha'
  clear ha' hc' hv
  have hlw : wrap64 ((ds.length : Int) - 1) = (ds.length : Int) - 1 := by unfold wrap64; omega
  by_cases hE : endX n l least start ds < 0
  · have Hr := Lib.hid (blame_no (n := n) (l := l) (least := least) (start := start) (ds := ds) (k := k) (by omega))
    clear HE2
    generalize endX n l least start ds = E at *
    go_enter Try.func33, Try.ntmps33
    go_wp2_with fail
    refine HE.out.mono ?_; rintro e w1 ⟨rfl, hb1⟩
    have HB1 := Lib.hid hb1
    clear hb1 HE
    go_wp2
    go_ret
    rw [Hr.out]
    exact ⟨rfl, HB1.out⟩
  · by_cases hk : 0 ≤ k ∧ k < ds.length
    · obtain ⟨j, rfl⟩ : ∃ j : Nat, k = (j : Int) := ⟨k.toNat, by omega⟩
      have hj : j < ds.length := by omega
      have Hr := Lib.hid (blame_yes (n := n) (l := l) (least := least) (start := start) (ds := ds) (by omega) hj)
      have hin : inB (j : Int) 0 ((ds.length : Int) - 1) = true := (inB_iff _ _ _).2 (by omega)
      obtain ⟨y0, y1⟩ := endX_bd n l least start (ds.set j 0)
      obtain ⟨b, o, rfl, hb0, hat⟩ := Ha'.out (by rintro rfl; simp at hj)
      have Hat := Lib.hid hat
      have Hlen := Lib.hid (show (ds.set j 0).length = ds.length by simp)
      have HE2' := Lib.hid (fun (w' : World) (h : Below w.heap.size w w') (v2 : Value) (h2 : IntsIn w' v2 (ds.set j 0)) => HE2.out w' h v2 (ds.set j 0) h2 (by rw [Hlen.out]; exact hd))
      clear hk hat HE2
      generalize endX n l least start ds = E at *
      generalize endX n l least start (ds.set j 0) = E2 at *
      go_enter Try.func33, Try.ntmps33
      go_wp2_with fail
      refine HE.out.mono ?_; rintro e w1 ⟨rfl, hb1⟩
      have HB1 := Lib.hid hb1
      clear hb1 HE
      go_wp2_with fail
      refine (l6In_any _ _ _ _).mono ?_; rintro e w' ⟨rfl, rfl⟩
      rw [hin]
      have hb2 : Below w1.heap.size w1 (w1.alloc (.cells #[] 3)) := (Below.refl _ _).alloc (Nat.le_refl _) _
      have hnews := ((Hat.out.below HB1.out hb0).below hb2 (Nat.lt_of_lt_of_le hb0 HB1.out.size)).news
      have hown := RowI.made w1 w1.heap.size (Nat.le_refl _)
      unfold RowI at hown
      have Hown := Lib.hid hown
      have Hnews := Lib.hid hnews
      have Hb2 := Lib.hid hb2
      clear hnews hown hb2 hin
      go_wp2_with (at_builtin; refine wpList_append_own _ rfl _ _ 24 rfl w1.heap.size 3 i0 (.int .i64 0) 1 8 Try.underlying24 hi hz0 hz1 hz2 rfl (by omega) _ _ [] rfl Hown.out ⟨b, o, none⟩ ds.length cap' (ds.map (Value.int .i64)) rfl (encI_len ds) Hnews.out (encI_one ds) (by unfold maxLen; simp; omega) (by simp; omega) (by simp) ?_; intro v2 w2 hown2 hgrow _; have hrow : RowI w2 w1.heap.size v2 ds := (by unfold RowI; simpa using hown2); have hb3 := Hb2.out.grown hgrow (by simp) (fun q hq => (Hown.out.lt q hq).1); obtain ⟨g, cp, rfl, hcp, hat2, hroom, hgB, hgl⟩ := hrow.open2 (by omega); have c1 := hat2 j hj; rw [Nat.zero_add] at c1; have hfz := hroom.2 j; have HW := Lib.hid (And.intro (hrow.setAt j 0).in_ ((HB1.out.trans (hb3.mono HB1.out.size)).setCell (p := ⟨g, j, none⟩) (show w.heap.size ≤ g from Nat.le_trans HB1.out.size hgB) (.int .i64 0))); clear hrow hb3 hown2 hgrow hat2 hroom)
      generalize w2.setCell ⟨g, j, none⟩ (.int .i64 0) = w3 at *
      refine (HE2'.out w3 HW.out.2 _ HW.out.1).mono ?_; rintro e w4 ⟨rfl, hb4⟩
      have HB4 := Lib.hid (HW.out.2.trans (hb4.mono HW.out.2.size))
      have hw4 : wrap64 (E - E2) = E - E2 := by unfold wrap64; omega
      clear hb4 HW HE2' c1 hfz
      go_wp2
      go_ret
      rw [Hr.out]
      exact ⟨rfl, HB4.out⟩
    · have Hr := Lib.hid (blame_no (n := n) (l := l) (least := least) (start := start) (ds := ds) (k := k) (fun q => hk q.2))
      have hin : inB k 0 ((ds.length : Int) - 1) = false := by rw [Bool.eq_false_iff]; intro q; have := (inB_iff _ _ _).1 q; omega
      clear HE2 hk
      generalize endX n l least start ds = E at *
      go_enter Try.func33, Try.ntmps33
      go_wp2_with fail
      refine HE.out.mono ?_; rintro e w1 ⟨rfl, hb1⟩
      have HB1 := Lib.hid hb1
      clear hb1 HE
      go_wp2_with fail
      refine (l6In_any _ _ _ _).mono ?_; rintro e w' ⟨rfl, rfl⟩
      rw [hin]
      clear hin
      go_wp2
      go_ret
      rw [Hr.out]
      exact ⟨rfl, HB1.out⟩

end Go.Proofs.Ytmphpbjmpokjjab
