/- The model's RoadsMany. -/
import Derived.Test.YtlkhgnglblgldaaX
namespace Go.Proofs.Ytlkhgnglblgldaa
open Go.RowKit Go.Maps

theorem far_neg {n : Int} {l : List Rd} {a b : Int} (h : validR n l = false ∨ reachB n (edge l) a b = false) : farOf n l a b = -1 := by
  unfold farOf
  split
  · rename_i hz
    rcases h with h | h
    · rw [hz] at h; cases h
    · unfold reachB at h
      cases hd : distN n (edge l) a b with
      | none => rfl
      | some d => rw [hd] at h; cases h
  · rfl

theorem far_pos {n : Int} {l : List Rd} {a b : Int} (hz : validR n l = true) (h : reachB n (edge l) a b = true) : 0 ≤ farOf n l a b := by
  unfold farOf
  rw [if_pos hz]
  unfold reachB at h
  cases hd : distN n (edge l) a b with
  | none => rw [hd] at h; cases h
  | some d => have := (distN_get hz a b).1; rw [hd] at this; simpa using this

set_option maxHeartbeats 400000 in
theorem specMany_any (n : Int) (v : Value) (l : List Rd) (a b : Int) (w : World) (hv : RoadsIn w v l) (hl : l.length ≤ 1048576) :
    Calls Try.prog 25 #[.int .i64 n, v, .int .i64 a, .int .i64 b] w (Gives (.int .i64 (manyV n l a b)) w) := by
  have hf := specFar_any n v l a b w hv hl
  have Hf := Lib.hid hf; clear hf
  by_cases hzr : validR n l = true ∧ reachB n (edge l) a b = true
  · obtain ⟨hz, hr⟩ := hzr
    have hd : manyV n l a b = manyN n (edge l) (distN n (edge l) b) 1001 a := by unfold manyV; rw [hz, hr]; rfl
    have Hd := Lib.hid hd; clear hd
    have hp := far_pos hz hr
    obtain ⟨_, hb, d, hD⟩ := reach_in hz hr
    obtain ⟨hb0, hb1⟩ := hb
    have hdb := (edges_ok hz).dist hD
    have HD := Lib.hid hD; clear hD
    have Hz := Lib.hid hz; clear hz hr
    have Hv := Lib.hid hv; clear hv
    generalize farOf n l a b = fv at *
    have hnp : ¬ fv < 0 := by omega
    go_enter Try.func25, Try.ntmps25
    go_wp2_with fail
    refine (Hf.out).mono ?_
    rintro e w1 ⟨rfl, hbel⟩
    go_wp2_with fail
    refine (l1Far_any n v l b _ (Hv.out.below hbel) Hz.out hb0 hb1).mono ?_
    rintro e w2 ⟨g, cap, o, rfl, holen, hoc, _, hgl, hint, hfo, hbel2⟩
    have hbel3 := hbel.trans (hbel2.mono hbel.size)
    have Hint := Lib.hid hint; clear hint
    have Hfo := Lib.hid hfo; clear hfo
    go_wp2_with fail
    refine (l1Many_any n l b o g cap v Hz.out hb0 hb1 holen Hfo.out hl 1000 a d w2 (Hv.out.below hbel3) Hint.out hgl HD.out (by omega)).mono ?_
    rintro e w3 ⟨rfl, hbel4⟩
    go_wp2
    go_ret
    exact ⟨ret_int Hd.out.symm, hbel3.trans (hbel4.mono hbel3.size)⟩
  · have hor : validR n l = false ∨ reachB n (edge l) a b = false := by
      cases hz : validR n l with
      | false => exact .inl rfl
      | true =>
        cases hr : reachB n (edge l) a b with
        | false => exact .inr rfl
        | true => exact absurd ⟨hz, hr⟩ hzr
    have hd : manyV n l a b = -1 := by
      unfold manyV
      rcases hor with h | h
      · rw [h]; rfl
      · rw [h]; split <;> rfl
    have Hd := Lib.hid hd; clear hd
    have hfn := far_neg hor
    rw [hfn] at Hf
    clear hzr hor hfn hv
    go_enter Try.func25, Try.ntmps25
    go_wp2_with fail
    refine (Hf.out).mono ?_
    rintro e w1 ⟨rfl, hbel⟩
    go_wp2
    go_ret
    exact ⟨ret_int Hd.out.symm, hbel⟩

end Go.Proofs.Ytlkhgnglblgldaa
