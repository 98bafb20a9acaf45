/- BillJoin of the model and of the program. -/
import Derived.Test.YtmdcpigobfhckaaFBI
import Derived.Test.YtmdcpigobfhckaaFM
namespace Go.Proofs.Ytmdcpigobfhckaa
open Go.RowKit

def joinX (n : Int) (l l' : List Fr) : List Fr := if validF n (l ++ l') = true then l ++ l' else []
theorem joinX_no {n : Int} {l l' : List Fr} (h : validF n (l ++ l') = false) : joinX n l l' = [] := by simp [joinX, h]
theorem joinX_yes {n : Int} {l l' : List Fr} (h : validF n (l ++ l') = true) : joinX n l l' = l ++ l' := by simp [joinX, h]
theorem joinX_short (n : Int) (l l' : List Fr) : (joinX n l l').length ≤ 1048576 := by
  unfold joinX
  split
  · rename_i h; have := (headF_iff.1 (valid_head h)).2; omega
  · simp
theorem FrRow.yes {w w' : World} {n : Int} {l l' : List Fr} {v : Value} (hz : validF n (l ++ l') = true) (hr : RowFr w' w.heap.size v (l ++ l')) (hb : Below w.heap.size w w') : FrRow (joinX n l l') (validF n (l ++ l')) w (.returned (.tuple #[v, .bool true])) w' := by
  rw [joinX_yes hz, hz]; exact ⟨_, rfl, hr, hb⟩
theorem FrRow.nojoin {w w' : World} {n : Int} {l l' : List Fr} (hz : validF n (l ++ l') = false) (hb : Below w.heap.size w w') : FrRow (joinX n l l') (validF n (l ++ l')) w (.returned (.tuple #[.slice (some ⟨w'.heap.size, 0, none⟩) 0 0, .bool false])) (w'.alloc (.cells #[] 41)) := by
  rw [joinX_no hz, hz]; exact FrRow.no hb.size hb

theorem valid_app1_no {n : Int} {a b : List Fr} (h : validF n a = false) : validF n (a ++ b) = false := by
  rw [Bool.eq_false_iff]; intro h'; rw [valid_app1 h'] at h; cases h
theorem valid_app2_no {n : Int} {a b : List Fr} (h : validF n b = false) : validF n (a ++ b) = false := by
  rw [Bool.eq_false_iff]; intro h'; rw [valid_app2 h'] at h; cases h

set_option maxRecDepth 100000 in
set_option maxHeartbeats 2000000 in
theorem join1_any (n : Int) (ad ad' : Addr) (cap cap' : Nat) (l l' : List Fr) (w : World) (wn : W64 n) (hv : FrIn w (.slice (some ad) l.length cap) l) (hv' : FrIn w (.slice (some ad') l'.length cap') l') (hm : l.length + l'.length ≤ 1048576) :
    Calls Try.prog 52 #[.int .i64 n, .slice (some ad) l.length cap, .slice (some ad') l'.length cap'] w (FrRow (joinX n l l') (validF n (l ++ l')) w) := by
  obtain ⟨i0, hi, hz0, hz1, hz2⟩ := info_parts infoFr
  have Hval := Lib.hid (fun w' (h : Below w.heap.size w w') => bill1_any n _ l w' wn (hv.below h) (by omega))
  have Hval' := Lib.hid (fun w' (h : Below w.heap.size w w') => bill1_any n _ l' w' wn (hv'.below h) (by omega))
  have hb0 : Below w.heap.size w (w.alloc (.cells #[] 41)) := (Below.refl _ _).alloc (Nat.le_refl _) _
  have hnews := ((hv.below hb0).news rfl).2
  have Hnews' := Lib.hid (fun w' (h : Below w.heap.size w w') => ((hv'.below h).news rfl).2)
  have hown := RowFr.made w w.heap.size (Nat.le_refl _)
  have HB0 := Lib.hid hb0
  have hlen2 : (l ++ l').length ≤ 1048577 := by rw [List.length_append]; omega
  have Hn1 := Lib.hid (valid_app1_no (n := n) (a := l) (b := l'))
  have Hn2 := Lib.hid (valid_app2_no (n := n) (a := l) (b := l'))
  unfold RowFr at hown
  clear hv hv' hb0
  go_enter Try.func52, Try.ntmps52
  go_wp2_with (first | (at_builtin; refine wpList_append_own _ rfl _ _ 25 rfl w.heap.size 41 i0 _ 3 24 Try.underlying25 hi hz0 hz1 hz2 rfl (by omega) _ _ (encFr []) rfl hown ad l.length cap (encFr l) rfl (encFr_len l) hnews (encFr_one l) (by simp only [maxLen, List.length_nil]; omega) (by simp only [List.length_nil]; omega) (by simp) ?_; intro v1 w1 hown1 hgrow1 _; have hb1 := HB0.out.grown hgrow1 (by simp) (fun j hj => (hown.lt j hj).1); have hnews2 := Hnews'.out w1 hb1; have hs1 := hb1.size) | (at_builtin; refine wpList_append_own _ rfl _ _ 25 rfl w.heap.size 41 i0 _ 3 24 Try.underlying25 hi hz0 hz1 hz2 rfl (by omega) _ _ _ rfl hown1 ad' l'.length cap' (encFr l') rfl (encFr_len l') hnews2 (encFr_one l') (by simp only [maxLen, List.length_nil]; omega) (by simp only [List.length_nil]; omega) hs1 ?_; intro v2 w2 hown2 hgrow2 _; have hb2 := hb1.grown hgrow2 hs1 (fun j hj => (hown1.lt j hj).1)))
  have HB2 := Lib.hid hb2
  have hrow : RowFr w2 w.heap.size v2 (l ++ l') := by
    unfold RowFr
    rw [List.length_append, encFr_append]
    simpa [encFr] using hown2
  have HR := Lib.hid hrow
  have HV := Lib.hid (Hval.out w2 hb2)
  obtain ⟨xs, hxs⟩ : ∃ xs, l ++ l' = xs := ⟨_, rfl⟩
  have Hxs := Lib.hid hxs
  clear hrow hown1 hown2 hgrow1 hgrow2 hnews hnews2 hb1 hb2 hown Hnews' Hval hxs
  refine HV.out.mono ?_; rintro e w3 ⟨rfl, hb3⟩
  have HB3 := Lib.hid (HB2.out.trans (hb3.mono HB2.out.size))
  have HR3 := Lib.hid (HR.out.below hb3)
  clear hb3
  cases hz : validF n l with
  | false =>
    have HF := Lib.hid (FrRow.nojoin (Hn1.out hz) HB3.out)
    go_wp2
    go_ret2
    exact HF.out
  | true =>
    go_wp2_with fail
    refine (Hval'.out _ HB3.out).mono ?_; rintro e w4 ⟨rfl, hb4⟩
    have HB4 := Lib.hid (HB3.out.trans (hb4.mono HB3.out.size))
    have HR4 := Lib.hid (HR3.out.below hb4)
    clear hb4
    cases hz' : validF n l' with
    | false =>
      have HF := Lib.hid (FrRow.nojoin (Hn2.out hz') HB4.out)
      go_wp2
      go_ret2
      exact HF.out
    | true =>
      go_wp2_with fail
      refine (bill1_any n v2 (l ++ l') _ wn HR4.out.in_ hlen2).mono ?_; rintro e w5 ⟨rfl, hb5⟩
      have HB5 := Lib.hid (HB4.out.trans (hb5.mono HB4.out.size))
      have HR5 := Lib.hid (HR4.out.below hb5)
      clear hb5
      cases hzz : validF n (l ++ l') with
      | false =>
        have HF := Lib.hid (FrRow.nojoin hzz HB5.out)
        go_wp2
        go_ret2
        exact HF.out
      | true =>
        have HF := Lib.hid (FrRow.yes hzz HR5.out HB5.out)
        go_wp2
        go_ret2
        exact HF.out

theorem join_parts {w : World} {ad ad' : Addr} {cap cap' : Nat} {l l' : List Fr} (hv : FrIn w (.slice (some ad) l.length cap) l) (hv' : FrIn w (.slice (some ad') l'.length cap') l') :
    Parts (w.alloc (.cells #[.slice (some ad) l.length cap, .slice (some ad') l'.length cap'] 25)) w.heap.size (paF ad ad') (pcF cap cap') (plF l l') := by
  have hb2 : Below w.heap.size w (w.alloc (.cells #[.slice (some ad) l.length cap, .slice (some ad') l'.length cap'] 25)) := (Below.refl _ _).alloc (Nat.le_refl _) _
  obtain ⟨hlt, hnw⟩ := (hv.below hb2).news rfl
  obtain ⟨hlt', hnw'⟩ := (hv'.below hb2).news rfl
  have hnew := heap_alloc_new w (.cells #[.slice (some ad) l.length cap, .slice (some ad') l'.length cap'] 25)
  refine ⟨by simp, fun i hi => ?_, fun i hi hn => ?_, fun i hi => ?_⟩
  · rw [cell_of_row _ _ i _ _ _ hnew]
    rcases (by omega : i = 0 ∨ i = 1) with rfl | rfl
    · simp [paF, pcF, plF]
    · simp [paF, pcF, plF]
  · rcases (by omega : i = 0 ∨ i = 1) with rfl | rfl
    · exact hlt (fun e => hn (by rw [e]; rfl))
    · exact hlt' (fun e => hn (by rw [e]; rfl))
  · rcases (by omega : i = 0 ∨ i = 1) with rfl | rfl
    · exact hnw
    · exact hnw'

set_option maxRecDepth 100000 in
set_option maxHeartbeats 1000000 in
theorem join2_any (n : Int) (ad ad' : Addr) (cap cap' : Nat) (l l' : List Fr) (w : World) (hv : FrIn w (.slice (some ad) l.length cap) l) (hv' : FrIn w (.slice (some ad') l'.length cap') l') (hm : l.length + l'.length ≤ 1048576) :
    Calls Try.prog 53 #[.int .i64 n, .slice (some ad) l.length cap, .slice (some ad') l'.length cap'] w (FrRow (joinX n l l') (validF n (l ++ l')) w) := by
  have Hpt := Lib.hid (join_parts hv hv')
  have Hcat := Lib.hid (plF_cat l l')
  have HB0 := Lib.hid (show Below w.heap.size w (w.alloc (.cells #[.slice (some ad) l.length cap, .slice (some ad') l'.length cap'] 25)) from (Below.refl _ _).alloc (Nat.le_refl _) _)
  have Hlen := Lib.hid (show (l ++ l').length ≤ 1048577 by rw [List.length_append]; omega)
  clear hv hv'
  go_enter Try.func53, Try.ntmps53
  go_wp2_with fail
  refine (concat_any _ _ _ _ _ Hpt.out (by rw [Hcat.out]; exact Hlen.out)).mono ?_; rintro e w2 ⟨v, rfl, hrow, hb2⟩
  rw [Hcat.out] at hrow
  have HR := Lib.hid hrow
  have HB2 := Lib.hid (HB0.out.trans (hb2.mono (by simp)))
  clear hrow hb2
  go_wp2_with fail
  refine (ifB_any n v _ _ HR.out.in_ Hlen.out).mono ?_; rintro e w3 ⟨v3, rfl, hrow3, hb3⟩
  have HR3 := Lib.hid hrow3
  have HB3 := Lib.hid (HB2.out.trans (hb3.mono HB2.out.size))
  have HRb := Lib.hid (HR.out.below hb3)
  have hsz := HB2.out.size
  clear hrow3 hb3
  go_wp2
  go_ret2
  refine ⟨_, rfl, ?_, HB3.out⟩
  have h3 := HR3.out
  cases hz : validF n (l ++ l') with
  | true => rw [joinX_yes hz, h3.1 hz]; exact HRb.out.mono (by simp)
  | false => rw [joinX_no hz]; exact (h3.2 hz).mono (by omega)

theorem join1_out (n : Int) (wn : W64 n) (ad ad' : Addr) (cap cap' : Nat) (l l' : List Fr) (w : World) (hv : FrIn w (.slice (some ad) l.length cap) l) (hv' : FrIn w (.slice (some ad') l'.length cap') l') (hm : l.length + l'.length ≤ 1048576) :
    Calls Try.prog 52 #[.int .i64 n, .slice (some ad) l.length cap, .slice (some ad') l'.length cap'] w (FrOut (joinX n l l') (validF n (l ++ l')) w) :=
  (join1_any n ad ad' cap cap' l l' w wn hv hv' hm).mono fun _ _ h => h.out
theorem join2_out (n : Int) (ad ad' : Addr) (cap cap' : Nat) (l l' : List Fr) (w : World) (hv : FrIn w (.slice (some ad) l.length cap) l) (hv' : FrIn w (.slice (some ad') l'.length cap') l') (hm : l.length + l'.length ≤ 1048576) :
    Calls Try.prog 53 #[.int .i64 n, .slice (some ad) l.length cap, .slice (some ad') l'.length cap'] w (FrOut (joinX n l l') (validF n (l ++ l')) w) :=
  (join2_any n ad ad' cap cap' l l' w hv hv' hm).mono fun _ _ h => h.out

end Go.Proofs.Ytmdcpigobfhckaa
