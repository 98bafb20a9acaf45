/- The model's l6lOk, l6lSlack. -/
import Derived.Test.YtmphpbjmpokjjabSD
import Derived.Test.YtmphpbjmpokjjabIZ
import Derived.Test.YtmphpbjmpokjjabYA
import Derived.Test.YtmphpbjmpokjjabCB
namespace Go.Proofs.Ytmphpbjmpokjjab
open Go.RowKit

theorem okDl_in (x : Int) : inB x 0 300 = okDl x := rfl
theorem ret_eq {a b : Value} (h : a = b) : Ending.returned a = .returned b := by rw [h]

set_option maxHeartbeats 800000 in
theorem slack1_any (a b m least : Int) (w : World) (hb : -100000 ≤ b ∧ b ≤ 100000) (hm : -100000 ≤ m ∧ m ≤ 100000) (hl : -100000 ≤ least ∧ least ≤ 100000) :
    Calls Try.prog 57 #[.agg #[.int .i64 a, .int .i64 b, .int .i64 m], .int .i64 least] w (Gives (.int .i64 (slackOf least ⟨a, b, m⟩)) w) := by
  obtain ⟨b0, b1⟩ := hb
  obtain ⟨m0, m1⟩ := hm
  obtain ⟨l0, l1⟩ := hl
  by_cases h : least < m - b
  · have Hs := Lib.hid (show slackOf least ⟨a, b, m⟩ = m - b - least by unfold slackOf; simp only; omega)
    go_enter Try.func57, Try.ntmps57
    go_wp2
    go_ret
    rw [Hs.out]
    exact ⟨rfl, (Below.refl _ _).alloc (Nat.le_refl _) _⟩
  · have Hs := Lib.hid (show slackOf least ⟨a, b, m⟩ = 0 by unfold slackOf; simp only; omega)
    have h' : m - b ≤ least := by omega
    go_enter Try.func57, Try.ntmps57
    go_wp2
    go_ret
    rw [Hs.out]
    exact ⟨rfl, (Below.refl _ _).alloc (Nat.le_refl _) _⟩

def LokRel (ds : List Int) (w : World) (iv : Value) (wr : World) : Prop := ∃ k : Nat, k ≤ ds.length ∧ iv = .int .i64 k ∧ (∀ j, j < k → okDl (ds.getD j 0) = true) ∧ w = wr

theorem okLate_no1 {n : Int} {l : List Rd} {least start : Int} {ds : List Int} {k : Nat} (hk : k < ds.length) (h : okDl (ds.getD k 0) = false) : okLate n l least start ds = false := by
  rw [Bool.eq_false_iff]; intro q
  have := (okLate_iff.1 q).1
  have h2 := allDl_iff.1 this (ds.getD k 0) (by rw [List.getD_eq_getElem?_getD, List.getElem?_eq_getElem hk]; exact List.getElem_mem hk)
  rw [h] at h2; cases h2

set_option maxRecDepth 100000 in
set_option maxHeartbeats 1600000 in
theorem lateOk1_any (n : Int) (v : Value) (l : List Rd) (least start : Int) (v' : Value) (ds : List Int) (w : World) (hv : RoadsIn w v l) (hl : l.length ≤ 1048576) (hv' : IntsIn w v' ds) (hd : ds.length ≤ 1048576) :
    Calls Try.prog 48 #[.int .i64 n, v, .int .i64 least, .int .i64 start, v'] w (Gives (.bool (okLate n l least start ds)) w) := by
  have HV := Lib.hid (valid1_any n v l w hv hl)
  obtain ⟨a, cap, rfl, _⟩ := hv
  obtain ⟨a', cap', rfl, hc', ha'⟩ := hv'
  have Ha' := Lib.hid ha'
  clear hc' ha'
  go_enter Try.func48, Try.ntmps48
  go_wp2
  go_loopw [11] (fun iv wr => LokRel ds w iv wr) (fun iv _ => ds.length - (intOf iv).toNat)
  case atStart => exact ⟨0, Nat.zero_le _, rfl, fun j hj => by omega, rfl⟩
  case round =>
    obtain ⟨k, hk, rfl, hall, hw⟩ := hrel
    obtain rfl : w = wr := hw
    by_cases hlt : k < ds.length
    · obtain ⟨b, o, rfl, hb0, hrw⟩ := Ha'.out (by intro h; simp [h] at hlt)
      have c0 := hrw k hlt
      have Hno := Lib.hid (fun h => okLate_no1 (n := n) (l := l) (least := least) (start := start) hlt h)
      have Hall := Lib.hid (fun (h : okDl (ds.getD k 0) = true) (j : Nat) (hj : j < k + 1) => (show okDl (ds.getD j 0) = true from by
        by_cases e : j = k
        · rw [e]; exact h
        · exact hall j (by omega)))
      generalize ds.getD k 0 = d at *
      clear hall hrw
      go_wp2_with fail
      refine (l6In_any _ _ _ _).mono ?_; rintro e w' ⟨rfl, rfl⟩
      rw [okDl_in]
      cases hd0 : okDl d with
      | false =>
        have hn := Lib.hid (Hno.out hd0)
        go_wp2
        go_ret
        rw [hn.out]
        exact ⟨rfl, Below.refl _ _⟩
      | true =>
        have ha := Lib.hid (Hall.out hd0)
        clear Hno Hall
        go_wp2
        exact ⟨⟨k + 1, hlt, by go_num, ha.out, rfl⟩, by simp [intOf]; omega⟩
    · obtain rfl : k = ds.length := by omega
      have Hd := Lib.hid (show allDl ds = true from allDl_iff.2 (fun x hx => by
        obtain ⟨i, hi, rfl⟩ := List.mem_iff_getElem.1 hx
        have := hall i hi
        rwa [List.getD_eq_getElem?_getD, List.getElem?_eq_getElem hi] at this))
      have Hf := Lib.hid (show okLate n l least start ds = (validS n l && (okDl least && (okDl start && decide (ds.length + 1 = l.length)))) by unfold okLate; rw [Hd.out]; rfl)
      clear hall hlt hk
      go_wp2_with fail
      refine HV.out.mono ?_; rintro e w1 ⟨rfl, hb1⟩
      have HB := Lib.hid hb1
      clear hb1
      cases hq : validS n l with
      | false =>
        rw [hq] at Hf
        go_wp2
        go_ret
        rw [Hf.out]
        exact ⟨rfl, HB.out⟩
      | true =>
        rw [hq] at Hf
        clear hq
        go_wp2_with fail
        refine (l6In_any _ _ _ _).mono ?_; rintro e w' ⟨rfl, rfl⟩
        rw [okDl_in]
        cases hq : okDl least with
        | false =>
          rw [hq] at Hf
          go_wp2
          go_ret
          rw [Hf.out]
          exact ⟨rfl, HB.out⟩
        | true =>
          rw [hq] at Hf
          clear hq
          go_wp2_with fail
          refine (l6In_any _ _ _ _).mono ?_; rintro e w' ⟨rfl, rfl⟩
          rw [okDl_in]
          cases hq : okDl start with
          | false =>
            rw [hq] at Hf
            go_wp2
            go_ret
            rw [Hf.out]
            exact ⟨rfl, HB.out⟩
          | true =>
            rw [hq] at Hf
            clear hq
            have hw : wrap64 ((l.length : Int) - 1) = (l.length : Int) - 1 := by unfold wrap64; omega
            by_cases he : ds.length + 1 = l.length
            · have h1 : ((ds.length : Int) == (l.length : Int) - 1) = true := by simp; omega
              rw [decide_eq_true he] at Hf
              clear he
              go_wp2
              go_ret
              rw [Hf.out]
              exact ⟨by first | rfl | exact ret_bool h1 | (simp; omega), HB.out⟩
            · have h1 : ((ds.length : Int) == (l.length : Int) - 1) = false := by simp; omega
              rw [decide_eq_false he] at Hf
              clear he
              go_wp2
              go_ret
              rw [Hf.out]
              exact ⟨by first | rfl | exact ret_bool h1 | (simp; omega), HB.out⟩

end Go.Proofs.Ytmphpbjmpokjjab
