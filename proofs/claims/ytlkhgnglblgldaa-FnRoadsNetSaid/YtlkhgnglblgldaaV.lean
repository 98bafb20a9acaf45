/- RoadsMany of model and program. -/
import Derived.Test.YtlkhgnglblgldaaU
import Derived.Test.YtlkhgnglblgldaaWF
namespace Go.Proofs.Ytlkhgnglblgldaa
open Go.RowKit Go.Maps

theorem distN_get {n : Int} {l : List Rd} (hz : validR n l = true) (s x : Int) : 0 ≤ (distN n (edge l) s x).getD 0 ∧ (distN n (edge l) s x).getD 0 ≤ 1000 := by
  cases h : distN n (edge l) s x with
  | none => simp
  | some d =>
    unfold distN at h
    split at h
    · have := (edges_ok hz).dist (distO_some.1 h)
      simp only [Option.getD_some]; omega
    · cases h

/-- What RoadsMany is. -/
noncomputable def manyV (n : Int) (l : List Rd) (a b : Int) : Int :=
  if validR n l = true then (if reachB n (edge l) a b = true then manyN n (edge l) (distN n (edge l) b) 1001 a else -1) else -1

theorem reach_in {n : Int} {l : List Rd} (hz : validR n l = true) {a b : Int} (h : reachB n (edge l) a b = true) : (0 ≤ a ∧ a < n) ∧ (0 ≤ b ∧ b < n) ∧ ∃ d, Dist (edge l) b a d := by
  unfold reachB distN at h
  split at h
  · rename_i ha
    obtain ⟨d, hd⟩ := Option.isSome_iff_exists.1 h
    have hD := distO_some.1 hd
    exact ⟨ha, (edges_ok hz).town hD ha, d, hD.symm (fun x y => edge_symm l x y)⟩
  · cases h

set_option maxHeartbeats 400000 in
theorem many2_any (n : Int) (v : Value) (l : List Rd) (a b : Int) (w : World) (hv : RoadsIn w v l) (hl : l.length ≤ 1048576) (hw : RdWf l) (wa : W64 a) (wb : W64 b) :
    Calls Try.prog 24 #[.int .i64 n, v, .int .i64 a, .int .i64 b] w (Gives (.int .i64 (manyV n l a b)) w) := by
  have hc := networkOf_any n v l w hv hl hw
  have Hc := Lib.hid hc; clear hc hv
  cases hz : validR n l with
  | true =>
    cases hr : reachB n (edge l) a b with
    | false =>
      have hd : manyV n l a b = -1 := by unfold manyV; rw [hz, hr]; rfl
      have Hd := Lib.hid hd; clear hd
      have Hz := Lib.hid hz; clear hz
      have Hr := Lib.hid hr; clear hr
      go_enter Try.func24, Try.ntmps24
      go_wp2_with fail
      refine (Hc.out).mono ?_
      rintro e w1 ⟨h1, _⟩
      obtain ⟨nb, bs, cnt, rfl, hnet, hcn, _, _, hb⟩ := h1 Hz.out
      clear h1
      go_wp2_with fail
      refine (reaches_any n _ a b nb bs cnt _ hnet (edges_ok Hz.out) wa wb hcn).mono ?_
      rintro e w2 ⟨rfl, hb2⟩
      rw [Hr.out]
      go_wp2
      go_ret
      exact ⟨ret_int Hd.out.symm, hb.trans (hb2.mono hb.size)⟩
    | true =>
      have hd : manyV n l a b = manyN n (edge l) (distN n (edge l) b) 1001 a := by unfold manyV; rw [hz, hr]; rfl
      obtain ⟨ha, hb', _, _⟩ := reach_in hz hr
      obtain ⟨ha0, ha1⟩ := ha
      have Hd := Lib.hid hd; clear hd
      have Hz := Lib.hid hz; clear hz
      have Hr := Lib.hid hr; clear hr
      go_enter Try.func24, Try.ntmps24
      go_wp2_with fail
      refine (Hc.out).mono ?_
      rintro e w1 ⟨h1, _⟩
      obtain ⟨nb, bs, cnt, rfl, hnet, hcn, _, _, hb⟩ := h1 Hz.out
      clear h1
      go_wp2_with fail
      refine (reaches_any n _ a b nb bs cnt _ hnet (edges_ok Hz.out) wa wb hcn).mono ?_
      rintro e w2 ⟨rfl, hb2⟩
      rw [Hr.out]
      have hnet2 := hnet.below hb2
      have hbel2 := hb.trans (hb2.mono hb.size)
      go_wp2_with fail
      refine (distances_any n _ b nb bs cnt _ hnet2 (edges_ok Hz.out) wb hcn).mono ?_
      rintro e w3 ⟨F, c, rfl, _, _, hF, hb3⟩
      have hnet3 := hnet2.below hb3
      have hbel3 := hbel2.trans (hb3.mono hbel2.size)
      have hk := (distN_get Hz.out b a).2
      go_wp2_with fail
      refine (ways_any n _ _ nb bs cnt F c (edges_ok Hz.out) hcn (fun x => distN_get Hz.out b x) 1000 a w3 hnet3 hF ha0 ha1 hk).mono ?_
      rintro e w4 ⟨rfl, hb4⟩
      go_wp2
      go_ret
      exact ⟨ret_int Hd.out.symm, hbel3.trans (hb4.mono hbel3.size)⟩
  | false =>
    have hd : manyV n l a b = -1 := by unfold manyV; rw [hz]; rfl
    have Hd := Lib.hid hd; clear hd
    have Hz := Lib.hid hz; clear hz
    go_enter Try.func24, Try.ntmps24
    go_wp2_with fail
    refine (Hc.out).mono ?_
    rintro e w1 ⟨_, h1⟩
    obtain ⟨rfl, hb⟩ := h1 Hz.out
    clear h1
    go_wp2
    go_ret
    exact ⟨ret_int Hd.out.symm, hb⟩

end Go.Proofs.Ytlkhgnglblgldaa
