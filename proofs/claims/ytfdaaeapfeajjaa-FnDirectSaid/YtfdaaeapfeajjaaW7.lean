/- WayLength, of the model and of the program. -/
import Derived.Test.YtfdaaeapfeajjaaW5
import Derived.Test.YtfdaaeapfeajjaaI
import Derived.Deep.RegionHeld3
namespace Go.Proofs.Ytfdaaeapfeajjaa
open Go.RowKit

/-- The length of the first k towns of a way. -/
def wayTo (n : Int) (l : List Rd) (way : List Int) : Nat → Option Int
  | 0 => some 0
  | k + 1 => match wayTo n l way k with
    | none => none
    | some s => if 0 ≤ way.getD k 0 ∧ way.getD k 0 ≤ n - 1 then (if k = 0 then some s else (edge l (way.getD (k - 1) 0) (way.getD k 0)).map (s + ·)) else none

theorem wayTo_bd {n : Int} {l : List Rd} (h : validR n l = true) {way : List Int} : ∀ {k : Nat} {s : Int}, wayTo n l way k = some s → 0 ≤ s ∧ s ≤ 99 * (k : Int)
  | 0, s, hs => by simp [wayTo] at hs; omega
  | k + 1, s, hs => by
    unfold wayTo at hs
    cases hk : wayTo n l way k with
    | none => rw [hk] at hs; cases hs
    | some s0 =>
      have ih := wayTo_bd h hk
      rw [hk] at hs
      simp only at hs
      split at hs
      · split at hs
        · injection hs with hs; omega
        · rw [Option.map_eq_some_iff] at hs
          obtain ⟨m, hm, rfl⟩ := hs
          have := edge_miles h hm
          omega
      · cases hs

theorem wayTo_none {n : Int} {l : List Rd} {way : List Int} {k : Nat} (h : wayTo n l way k = none) : ∀ {j : Nat}, k ≤ j → wayTo n l way j = none
  | 0, hj => by obtain rfl : k = 0 := by omega
                exact h
  | j + 1, hj => by
    by_cases e : k = j + 1
    · subst e; exact h
    · unfold wayTo
      rw [wayTo_none h (show k ≤ j by omega)]

/-- What WayLength is. -/
def wayLenOf (n : Int) (l : List Rd) (way : List Int) : Int := if validR n l = true ∧ way ≠ [] then (wayTo n l way way.length).getD (-1) else -1

def WayRel (n : Int) (l : List Rd) (way : List Int) (w : World) (s i : Value) (wr : World) : Prop :=
  ∃ (k : Nat) (x : Int), k ≤ way.length ∧ i = .int .i64 k ∧ s = .int .i64 x ∧ wayTo n l way k = some x ∧ Below w.heap.size w wr

def WayRel2 (n : Int) (l : List Rd) (way : List Int) (nb : Nat) (bs : Int → Nat) (cnt : Nat) (w : World) (s i : Value) (wr : World) : Prop :=
  ∃ (k : Nat) (x : Int), k + 1 ≤ way.length ∧ i = .int .i64 k ∧ s = .int .i64 x ∧ wayTo n l way (k + 1) = some x ∧ Below w.heap.size w wr ∧ NetAt wr nb n bs cnt (edge l)

theorem wayTo_step {n : Int} {l : List Rd} {way : List Int} {k : Nat} {x : Int} (h : validR n l = true) (hx : wayTo n l way (k + 1) = some x) : wayTo n l way (k + 2) = (edge l (way.getD k 0) (way.getD (k + 1) 0)).map (x + ·) := by
  have e : wayTo n l way (k + 2) = (match wayTo n l way (k + 1) with | none => none | some s => if 0 ≤ way.getD (k + 1) 0 ∧ way.getD (k + 1) 0 ≤ n - 1 then (if k + 1 = 0 then some s else (edge l (way.getD (k + 1 - 1) 0) (way.getD (k + 1) 0)).map (s + ·)) else none) := rfl
  rw [e, hx]
  simp only [Nat.add_sub_cancel, Nat.succ_ne_zero, if_false]
  split
  · rfl
  · rename_i hr
    cases he : edge l (way.getD k 0) (way.getD (k + 1) 0) with
    | none => rfl
    | some m => have := edge_miles h he; omega

set_option maxHeartbeats 400000 in
theorem wlen2_any (n : Int) (v : Value) (l : List Rd) (u : Value) (way : List Int) (w : World) (hv : RoadsIn w v l) (hl : l.length ≤ 1048576) (hw : RdWf l) (hu : IntsIn w u way) (hul : way.length ≤ 1048576) (huw : IntWf way) :
    Calls Try.prog 31 #[.int .i64 n, v, u] w (Gives (.int .i64 (wayLenOf n l way)) w) := by
  have hc := networkOf_any n v l w hv hl hw
  have Hc := Lib.hid hc; clear hc hv
  obtain ⟨a, cap, rfl, hcap, ha⟩ := hu
  have Ha := Lib.hid ha; clear ha
  cases hz : validR n l with
  | false =>
    have hd : wayLenOf n l way = -1 := by unfold wayLenOf; rw [hz]; rfl
    have Hd := Lib.hid hd; clear hd
    have Hz := Lib.hid hz; clear hz
    go_enter Try.func31, Try.ntmps31
    go_wp2_with fail
    refine (Hc.out).mono ?_
    rintro e w1 ⟨_, h1⟩
    obtain ⟨rfl, hb⟩ := h1 Hz.out
    clear h1
    go_wp2
    go_ret
    exact ⟨ret_int Hd.out.symm, hb⟩
  | true =>
    obtain ⟨hn1, hn8, _, _⟩ := valid_bounds hz
    by_cases hne : way.length = 0
    · have hd : wayLenOf n l way = -1 := by unfold wayLenOf; rw [if_neg (by rintro ⟨_, h⟩; exact h (List.length_eq_zero_iff.1 hne))]
      have Hd := Lib.hid hd; clear hd
      have Hz := Lib.hid hz; clear hz
      have hq : ((way.length : Int) == 0) = true := by simp [hne]
      clear hne
      go_enter Try.func31, Try.ntmps31
      go_wp2_with fail
      refine (Hc.out).mono ?_
      rintro e w1 ⟨h1, _⟩
      obtain ⟨nb, bs, cnt, rfl, hnet, _, _, _, hb⟩ := h1 Hz.out
      clear h1
      go_wp2
      go_ret
      exact ⟨ret_int Hd.out.symm, hb⟩
    · have hd : wayLenOf n l way = (wayTo n l way way.length).getD (-1) := by unfold wayLenOf; rw [if_pos ⟨hz, fun h => hne (by rw [h]; rfl)⟩]
      have Hd := Lib.hid hd; clear hd
      have Hz := Lib.hid hz; clear hz
      have hq : ((way.length : Int) == 0) = false := by simp; exact fun h => hne (by rw [h]; rfl)
      obtain ⟨bb, o, rfl, hb0, hrw⟩ := Ha.out (by intro h; simp [h] at hne)
      have hpos : 1 ≤ way.length := by omega
      clear hne
      have Hrw := Lib.hid hrw; clear hrw
      have wt : W64 (way.getD 0 0) := huw _ (by rw [getI way (by omega)]; exact List.getElem_mem _)
      have h1to : wayTo n l way 1 = (if 0 ≤ way.getD 0 0 ∧ way.getD 0 0 ≤ n - 1 then some 0 else none) := rfl
      cases hht : hasTown n (way.getD 0 0) with
      | false =>
        rw [if_neg (by intro h; rw [(hasTown_iff n _).2 (by omega)] at hht; cases hht)] at h1to
        have Hend := Lib.hid (wayTo_none h1to hpos); clear h1to
        have Hht := Lib.hid hht; clear hht
        go_enter Try.func31, Try.ntmps31
        go_wp2_with fail
        refine (Hc.out).mono ?_
        rintro e w1 ⟨h1, _⟩
        obtain ⟨nb, bs, cnt, rfl, hnet, _, _, _, hb⟩ := h1 Hz.out
        clear h1
        have c0 := (Hrw.out.below hb hb0) 0 (by omega)
        simp only [Nat.add_zero] at c0
        generalize way.getD 0 0 = t at *
        go_wp2_with fail
        refine (has_any nb n bs cnt _ t _ hnet wt).mono ?_
        rintro e w2 ⟨rfl, rfl⟩
        rw [Hht.out]
        go_wp2
        go_ret
        exact ⟨ret_int (by rw [Hd.out, Hend.out]; rfl), hb⟩
      | true =>
        rw [if_pos (by have := (hasTown_iff n _).1 hht; omega)] at h1to
        have H1to := Lib.hid h1to; clear h1to
        have Hht := Lib.hid hht; clear hht
        have Huw := Lib.hid huw; clear huw
        by_cases hc1 : cap = 1
        · subst hc1
          have hlen1 : way.length = 1 := by omega
          have hfin : wayLenOf n l way = 0 := by rw [Hd.out, hlen1, H1to.out]; rfl
          have Hfin := Lib.hid hfin; clear hfin
          have hlen2 : way.length - 1 = 0 := by omega
          have Hlen1 := Lib.hid hlen1; clear hlen1
          have Hlen2 := Lib.hid hlen2; clear hlen2
          go_enter Try.func31, Try.ntmps31
          go_wp2_with fail
          refine (Hc.out).mono ?_
          rintro e w1 ⟨h1, _⟩
          obtain ⟨nb, bs, cnt, rfl, hnet, _, _, _, hb⟩ := h1 Hz.out
          clear h1
          have c0 := (Hrw.out.below hb hb0) 0 (by omega)
          simp only [Nat.add_zero] at c0
          generalize hgt : way.getD 0 0 = t at *
          have Hgt := Lib.hid hgt; clear hgt
          go_wp2_with fail
          refine (has_any nb n bs cnt _ t _ hnet wt).mono ?_
          rintro e w2 ⟨rfl, rfl⟩
          rw [Hht.out]
          go_wp2
          clear hq
          have hle1 : way.length ≤ 1 := by rw [Hlen1.out]; omega
          go_loopw [9, 37] (fun s i wr => s = .int .i64 0 ∧ i = .int .i64 0 ∧ Below w.heap.size w wr) (fun _ _ _ => 0)
          case atStart => exact ⟨rfl, rfl, hb⟩
          case round =>
            obtain ⟨rfl, rfl, hbel⟩ := hrel
            go_wp2
            go_ret
            exact ⟨ret_int Hfin.out.symm, hbel⟩
        · have hcap2 : 1 < cap := by omega
          clear hc1
          go_enter Try.func31, Try.ntmps31
          go_wp2_with fail
          refine (Hc.out).mono ?_
          rintro e w1 ⟨h1, _⟩
          obtain ⟨nb, bs, cnt, rfl, hnet, _, _, _, hb⟩ := h1 Hz.out
          clear h1
          have c0 := (Hrw.out.below hb hb0) 0 (by omega)
          simp only [Nat.add_zero] at c0
          generalize hgt : way.getD 0 0 = t at *
          have Hgt := Lib.hid hgt; clear hgt
          go_wp2_with fail
          refine (has_any nb n bs cnt _ t _ hnet wt).mono ?_
          rintro e w2 ⟨rfl, rfl⟩
          rw [Hht.out]
          go_wp2
          clear hq
          go_loopw [9, 37] (fun s i wr => WayRel2 n l way nb bs cnt w s i wr) (fun _ i _ => way.length - (intOf i).toNat)
          case atStart => exact ⟨0, 0, hpos, rfl, rfl, H1to.out, hb, hnet⟩
          case round =>
            obtain ⟨k, x, hk, rfl, rfl, hs, hbel, hnet2⟩ := hrel
            have hbd := wayTo_bd Hz.out hs
            by_cases hlt : k + 1 < way.length
            · have hstep := wayTo_step Hz.out hs
              have Hs := Lib.hid hs; clear hs
              have hrw1 := Hrw.out.below hbel hb0
              have c1 := hrw1 k (by omega)
              have c2 := hrw1 (k + 1) hlt
              have Hrw1 := Lib.hid hrw1; clear hrw1
              rw [show o + (k + 1) = o + 1 + k from by omega] at c2
              have hdo := dirOf_edge Hz.out (way.getD k 0) (way.getD (k + 1) 0)
              have wq : W64 (way.getD k 0) := Huw.out _ (by rw [getI way (by omega)]; exact List.getElem_mem _)
              have wt2 : W64 (way.getD (k + 1) 0) := Huw.out _ (by rw [getI way (by omega)]; exact List.getElem_mem _)
              have Hstep := Lib.hid hstep; clear hstep
              have Hdo := Lib.hid hdo; clear hdo
              generalize way.getD (k + 1) 0 = t2 at *
              generalize way.getD k 0 = q at *
              cases he : edge l q t2 with
              | none =>
                have hst := Hstep.out
                rw [he] at hst
                have Hend := Lib.hid (wayTo_none hst (show k + 2 ≤ way.length from hlt)); clear hst
                have He := Lib.hid he; clear he
                go_wp2_with fail
                refine (direct_any nb n bs cnt _ q t2 _ hnet2 wq wt2).mono ?_
                rintro e w2 ⟨rfl, rfl⟩
                rw [Hdo.out, He.out, Option.getD_none]
                go_wp2
                go_ret
                exact ⟨ret_int (by rw [Hd.out, Hend.out]; rfl), hbel⟩
              | some m =>
                have hst := Hstep.out
                rw [he] at hst
                have Hst := Lib.hid hst; clear hst
                have hmb := edge_miles Hz.out he
                have He := Lib.hid he; clear he
                have hmq : (m == -1) = false := by simp; omega
                go_wp2_with fail
                refine (direct_any nb n bs cnt _ q t2 _ hnet2 wq wt2).mono ?_
                rintro e w2 ⟨rfl, rfl⟩
                rw [Hdo.out, He.out, Option.getD_some]
                go_wp2
                refine ⟨⟨k + 1, x + m, hlt, by go_num, rfl, Hst.out, hbel, hnet2⟩, by simp [intOf]; omega⟩
            · obtain hkl : way.length = k + 1 := by omega
              have Hkl := Lib.hid hkl; clear hkl
              have Hs := Lib.hid hs; clear hs
              go_wp2
              go_ret
              exact ⟨ret_int (by rw [Hd.out, Hkl.out, Hs.out]; rfl), hbel⟩

end Go.Proofs.Ytfdaaeapfeajjaa
