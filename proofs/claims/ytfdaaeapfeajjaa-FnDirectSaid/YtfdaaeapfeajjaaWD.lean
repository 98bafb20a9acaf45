/- The program's distances at any town; reaches, RoadsFar. -/
import Derived.Test.YtfdaaeapfeajjaaWC
import Derived.Test.YtfdaaeapfeajjaaW5
namespace Go.Proofs.Ytfdaaeapfeajjaa
open Go.RowKit Go.Maps

set_option maxHeartbeats 400000 in
theorem distances_no (n : Int) (g : Int → Int → Option Int) (s : Int) (nb : Nat) (bs : Int → Nat) (cnt : Nat) (w : World) (h : NetAt w nb n bs cnt g) (hs : ¬ (0 ≤ s ∧ s < n)) (ws : W64 s) :
    Calls Try.prog 60 #[.map (some nb), .int .i64 s] w (DistOut n g s w) := by
  have hht : hasTown n s = false := by
    rw [Bool.eq_false_iff]; intro h; exact hs ((hasTown_iff n s).1 h)
  have hmm := @run_makeMap Try.prog
  have h1 := h.below ((Below.refl _ w).alloc (Nat.le_refl _) (.map #[] 0))
  have hmade := MapIs.made w intElem
  have Hmade := Lib.hid hmade; clear hmade
  have H1 := Lib.hid h1; clear h1 h
  have Hs := Lib.hid hs; clear hs
  go_enter Try.func60, Try.ntmps60
  go_wp2_with fail
  refine (has_any nb n bs cnt g s _ H1.out ws).mono ?_
  rintro e w1 ⟨rfl, rfl⟩
  rw [hht]
  go_wp2
  go_ret
  refine ⟨w.heap.size, 0, rfl, Nat.le_refl _, by omega, Hmade.out.congr fun t _ => ?_, (Below.refl _ _).alloc (Nat.le_refl _) _⟩
  unfold distN
  rw [if_neg Hs.out]; rfl

theorem distances_any (n : Int) (g : Int → Int → Option Int) (s : Int) (nb : Nat) (bs : Int → Nat) (cnt : Nat) (w : World) (h : NetAt w nb n bs cnt g) (he : EdgesOk n g) (ws : W64 s) (hc : cnt ≤ 32) :
    Calls Try.prog 60 #[.map (some nb), .int .i64 s] w (DistOut n g s w) := by
  by_cases hs : 0 ≤ s ∧ s < n
  · exact distances_yes n g s nb bs cnt w h he hs.1 hs.2 hc
  · exact distances_no n g s nb bs cnt w h hs ws

theorem edges_ok {n : Int} {l : List Rd} (h : validR n l = true) : EdgesOk n (edge l) := by
  obtain ⟨h1, h8, _, _⟩ := valid_bounds h
  exact ⟨h1, h8, fun x y m he => by have := edge_miles h he; omega⟩

/-- Whether there is a way. -/
noncomputable def reachB (n : Int) (g : Int → Int → Option Int) (a b : Int) : Bool := (distN n g a b).isSome

theorem distances_big_any (n : Int) (g : Int → Int → Option Int) (s : Int) (nb : Nat) (bs : Int → Nat) (cnt : Nat) (w : World) (h : NetAt w nb n bs cnt g) (he : EdgesOk n g) (ws : W64 s) (hc : cnt ≤ 80) :
    Calls Try.prog 60 #[.map (some nb), .int .i64 s] w (DistOut n g s w) := by
  by_cases hs : 0 ≤ s ∧ s < n
  · exact distances_big n g s nb bs cnt w h he hs.1 hs.2 hc
  · exact distances_no n g s nb bs cnt w h hs ws

/-- What RoadsFar is. -/
noncomputable def farOf (n : Int) (l : List Rd) (a b : Int) : Int := if validR n l = true then (distN n (edge l) a b).getD (-1) else -1

set_option maxHeartbeats 400000 in
theorem far2_any (n : Int) (v : Value) (l : List Rd) (a b : Int) (w : World) (hv : RoadsIn w v l) (hl : l.length ≤ 1048576) (hw : RdWf l) (wa : W64 a) (wb : W64 b) :
    Calls Try.prog 30 #[.int .i64 n, v, .int .i64 a, .int .i64 b] w (Gives (.int .i64 (farOf n l a b)) w) := by
  have hc := networkOf_any n v l w hv hl hw
  have Hc := Lib.hid hc; clear hc hv
  cases hz : validR n l with
  | true =>
    have hd : farOf n l a b = (distN n (edge l) a b).getD (-1) := by unfold farOf; rw [hz]; rfl
    have Hd := Lib.hid hd; clear hd
    have Hz := Lib.hid hz; clear hz
    cases hq : distN n (edge l) a b with
    | none =>
      have Hq := Lib.hid hq; clear hq
      go_enter Try.func30, Try.ntmps30
      go_wp2_with fail
      refine (Hc.out).mono ?_
      rintro e w1 ⟨h1, _⟩
      obtain ⟨nb, bs, cnt, rfl, hnet, hcn, _, _, hb⟩ := h1 Hz.out
      clear h1
      go_wp2_with fail
      refine (distances_any n _ a nb bs cnt _ hnet (edges_ok Hz.out) wa hcn).mono ?_
      rintro e w2 ⟨F, c, rfl, _, _, hF, hb2⟩
      go_wp2_with (at_lookup; refine wp_look_ok _ rfl _ _ rfl F c _ rfl hF b wb rfl ?_; rw [Hq.out])
      go_ret
      exact ⟨ret_int (by rw [Hd.out, Hq.out]; rfl), hb.trans (hb2.mono hb.size)⟩
    | some d =>
      have Hq := Lib.hid hq; clear hq
      go_enter Try.func30, Try.ntmps30
      go_wp2_with fail
      refine (Hc.out).mono ?_
      rintro e w1 ⟨h1, _⟩
      obtain ⟨nb, bs, cnt, rfl, hnet, hcn, _, _, hb⟩ := h1 Hz.out
      clear h1
      go_wp2_with fail
      refine (distances_any n _ a nb bs cnt _ hnet (edges_ok Hz.out) wa hcn).mono ?_
      rintro e w2 ⟨F, c, rfl, _, _, hF, hb2⟩
      go_wp2_with (at_lookup; refine wp_look_ok _ rfl _ _ rfl F c _ rfl hF b wb rfl ?_; rw [Hq.out])
      go_ret
      exact ⟨ret_int (by rw [Hd.out, Hq.out]; rfl), hb.trans (hb2.mono hb.size)⟩
  | false =>
    have hd : farOf n l a b = -1 := by unfold farOf; rw [hz]; rfl
    have Hd := Lib.hid hd; clear hd
    have Hz := Lib.hid hz; clear hz
    go_enter Try.func30, Try.ntmps30
    go_wp2_with fail
    refine (Hc.out).mono ?_
    rintro e w1 ⟨_, h1⟩
    obtain ⟨rfl, hb⟩ := h1 Hz.out
    clear h1
    go_wp2
    go_ret
    exact ⟨ret_int Hd.out.symm, hb⟩

end Go.Proofs.Ytfdaaeapfeajjaa
