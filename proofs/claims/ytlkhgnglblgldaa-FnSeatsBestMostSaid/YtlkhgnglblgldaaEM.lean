/- The model's l4Seats, l4Taken, BookingsValid. -/
import Derived.Test.YtlkhgnglblgldaaEP
import Derived.Test.YtlkhgnglblgldaaQW
namespace Go.Proofs.Ytlkhgnglblgldaa
open Go.RowKit


def TaRel (l : List Bk) (g : Int) (k : Bool) (w : World) (nv i : Value) (wr : World) : Prop := ∃ j : Nat, j ≤ l.length ∧ nv = .int .i64 (takenTo l g k j : Nat) ∧ i = .int .i64 j ∧ Drewn w wr

set_option maxRecDepth 100000 in
set_option maxHeartbeats 1000000 in
theorem taken1_big (v : Value) (l : List Bk) (g : Int) (k : Bool) (w : World) (hv : BkIn w v l) (hl : l.length ≤ 2097152) :
    Calls Try.prog 79 #[v, .int .i64 g, .bool k] w (Quiet (.int .i64 (takenB l g k : Nat)) w) := by
  obtain ⟨a, cap, rfl, hcap, ha⟩ := hv
  clear hcap
  have Ha := Lib.hid ha; clear ha
  go_enter Try.func79, Try.ntmps79
  go_wp2
  go_loopw [7, 8] (fun nv i wr => TaRel l g k w nv i wr) (fun _ i _ => l.length - (intOf i).toNat)
  case atStart => exact ⟨0, Nat.zero_le _, rfl, rfl, Drewn.refl w⟩
  case round =>
    obtain ⟨j, hk, rfl, rfl, hw⟩ := hrel
    have HW := Lib.hid hw; clear hw
    by_cases hlt : j < l.length
    · obtain ⟨b, o, rfl, hb0, hrw⟩ := Ha.out (by intro h; simp [h] at hlt)
      obtain ⟨c0, c1, c2⟩ := (hrw.below HW.out.below hb0) j hlt
      have hs := takenTo_succ (g := g) (k := k) hlt
      have hbn := takenTo_le l g k j
      have hon : onB g k (l.getD j bk0) = ((l.getD j bk0).m == k && decide ((l.getD j bk0).a ≤ g) && decide (g < (l.getD j bk0).b)) := rfl
      clear hrw
      generalize onB g k (l.getD j bk0) = on at hs hon
      generalize (l.getD j bk0).a = xa at *
      generalize (l.getD j bk0).b = xb at *
      generalize (l.getD j bk0).m = xm at *
      generalize takenTo l g k j = n at *
      have Hon := Lib.hid hon; clear hon
      cases hq0 : (xm == k) with
      | false =>
        rw [show on = false by rw [Hon.out, hq0]; rfl] at hs
        have Hs := Lib.hid hs; clear hs
        go_wp2
        exact ⟨⟨j + 1, hlt, by rw [Hs.out]; go_num, by go_num, HW.out⟩, by simp [intOf]; omega⟩
      | true =>
        by_cases q1 : xa ≤ g
        · by_cases q2 : g < xb
          · rw [show on = true by rw [Hon.out, hq0, decide_eq_true q1, decide_eq_true q2]; rfl] at hs
            have Hs := Lib.hid hs; clear hs
            go_wp2
            exact ⟨⟨j + 1, hlt, by rw [Hs.out]; go_num, by go_num, HW.out⟩, by simp [intOf]; omega⟩
          · have hd : decide (g < xb) = false := by simp only [decide_eq_false_iff_not]; omega
            rw [show on = false by rw [Hon.out, hq0, hd, Bool.and_false]] at hs
            have Hs := Lib.hid hs; clear hs
            clear q2
            go_wp2
            exact ⟨⟨j + 1, hlt, by rw [Hs.out]; go_num, by go_num, HW.out⟩, by simp [intOf]; omega⟩
        · have hd : decide (xa ≤ g) = false := by simp only [decide_eq_false_iff_not]; omega
          rw [show on = false by rw [Hon.out, hq0, hd]; rfl] at hs
          have Hs := Lib.hid hs; clear hs
          clear q1
          go_wp2
          exact ⟨⟨j + 1, hlt, by rw [Hs.out]; go_num, by go_num, HW.out⟩, by simp [intOf]; omega⟩
    · obtain rfl : j = l.length := by omega
      go_wp2
      go_ret
      exact ⟨rfl, HW.out⟩

theorem taken1_any (v : Value) (l : List Bk) (g : Int) (k : Bool) (w : World) (hv : BkIn w v l) (hl : l.length ≤ 1048576) :
    Calls Try.prog 79 #[v, .int .i64 g, .bool k] w (Quiet (.int .i64 (takenB l g k : Nat)) w) := taken1_big v l g k w hv (by omega)

def Bv1Rel (n : Int) (l : List Bk) (w : World) (i : Value) (wr : World) : Prop := ∃ k : Nat, k ≤ l.length ∧ i = .int .i64 k ∧ fitTo n l k = true ∧ Drewn w wr
def Bv2Rel (n : Int) (l : List Bk) (w : World) (i : Value) (wr : World) : Prop := ∃ k : Nat, k ≤ n.toNat ∧ i = .int .i64 k ∧ legsTo l k = true ∧ Drewn w wr

theorem okB_no {n : Int} {l : List Bk} (h : ¬ (legB n = true ∧ l.length ≤ 16)) : validB n l = false := by
  rw [Bool.eq_false_iff]; intro h'
  have := validB_iff.1 h'
  exact h ⟨legB_iff.2 this.1, this.2.1⟩
theorem validB_nofit {n : Int} {l : List Bk} {i : Nat} (hi : i < l.length) (h : fitsB n (l.getD i bk0) = false) : validB n l = false := by
  rw [Bool.eq_false_iff]; intro h'
  have := (validB_iff.1 h').2.2.1 i hi
  rw [h] at this; cases this
theorem validB_noleg {n : Int} {l : List Bk} {g : Nat} (hg : g < n.toNat) (h : legOK l g = false) : validB n l = false := by
  rw [Bool.eq_false_iff]; intro h'
  have := (validB_iff.1 h').2.2.2 g hg
  rw [h] at this; cases this
theorem validB_yes {n : Int} {l : List Bk} (h1 : legB n = true) (h2 : l.length ≤ 16) (h3 : fitTo n l l.length = true) (h4 : legsTo l n.toNat = true) : validB n l = true := by
  simp [validB, okB, h1, h2, h3, h4]

set_option maxRecDepth 100000 in
set_option maxHeartbeats 8000000 in
theorem books1_big (n : Int) (v : Value) (l : List Bk) (w : World) (hn : W64 n) (hv : BkIn w v l) (hl : l.length ≤ 2097152) :
    Calls Try.prog 48 #[.int .i64 n, v] w (Quiet (.bool (validB n l)) w) := by
  have Hv := Lib.hid hv
  obtain ⟨a, cap, rfl, hcap, ha⟩ := hv
  clear hcap
  have Ha := Lib.hid ha; clear ha
  cases hn1 : legB n with
  | false =>
    have hz : validB n l = false := okB_no (fun h => by rw [hn1] at h; cases h.1)
    have Hz := Lib.hid hz; clear hz
    have p1 : inB n 1 7 = false := hn1
    clear hn1
    go_enter Try.func48, Try.ntmps48
    go_wp2_with (go_at_call 72; refine (l6In_any _ _ _ _).mono ?_; rintro e w' ⟨rfl, rfl⟩; simp only [p1])
    go_ret
    exact ⟨ret_bool Hz.out.symm, 0, rfl⟩
  | true =>
    have hn2 := legB_iff.1 hn1
    have p1 : inB n 1 7 = true := hn1
    have Hn1 := Lib.hid hn1; clear hn1
    by_cases h16 : l.length ≤ 16
    · go_enter Try.func48, Try.ntmps48
      go_wp2_with (go_at_call 72; refine (l6In_any _ _ _ _).mono ?_; rintro e w' ⟨rfl, rfl⟩; simp only [p1])
      go_loopw [5] (fun i wr => Bv1Rel n l w i wr) (fun i _ => l.length - (intOf i).toNat)
      case atStart => exact ⟨0, Nat.zero_le _, rfl, fitTo_zero n l, Drewn.refl w⟩
      case round =>
        obtain ⟨k, hk, rfl, hok, hw⟩ := hrel
        have HW := Lib.hid hw; clear hw
        have Hok := Lib.hid hok; clear hok
        by_cases hlt : k < l.length
        · obtain ⟨b, o, rfl, hb0, hrw⟩ := Ha.out (by intro h; simp [h] at hlt)
          obtain ⟨c0, c1, c2⟩ := (hrw.below HW.out.below hb0) k hlt
          clear hrw
          have hsucc := fitTo_succ n l k hlt
          have hfit := fitsB_iff (n := n) (r := l.getD k bk0)
          have hno := Lib.hid (validB_nofit (n := n) hlt)
          generalize fitsB n (l.getD k bk0) = ft at hsucc hfit hno
          have hk0 : (0 : Int) ≤ (k : Int) := Int.natCast_nonneg _
          have hk1 : (k : Int) < (l.length : Int) := by omega
          generalize (l.getD k bk0).a = xa at *
          generalize (l.getD k bk0).b = xb at *
          generalize (l.getD k bk0).m = xm at *
          have Hsucc := Lib.hid hsucc; clear hsucc
          have Hfit := Lib.hid hfit; clear hfit
          have hn3 : IntKind.i64.wrap (n - 1) = n - 1 := IntWalk.i64_in _ (by omega)
          by_cases q1 : 0 ≤ xa ∧ xa ≤ n - 1
          · obtain ⟨q1a, q1b⟩ := q1
            have hs : IntKind.i64.wrap (xa + 1) = xa + 1 := IntWalk.i64_in _ (by omega)
            have p2 : inB xa 0 (n - 1) = true := (inB_iff _ _ _).2 ⟨q1a, q1b⟩
            by_cases q2 : xa + 1 ≤ xb ∧ xb ≤ n
            · have p3 : inB xb (xa + 1) n = true := (inB_iff _ _ _).2 q2
              have hok1 : fitTo n l (k + 1) = true := by
                rw [Hsucc.out, Hok.out, Hfit.out.2 (by omega)]; rfl
              have Hok1 := Lib.hid hok1; clear hok1 q2
              go_wp2
              go_quiet ((go_at_call 72; exact Calls.hush (l6In_q _ _ _ _)))
              go_wp2
              exact ⟨⟨k + 1, hlt, by go_num, Hok1.out, HW.out.drewN _⟩, by simp [intOf]; omega⟩
            · have p3 : inB xb (xa + 1) n = false := by rw [Bool.eq_false_iff]; intro h; exact q2 ((inB_iff _ _ _).1 h)
              have hz : validB n l = false := hno.out (by rw [Bool.eq_false_iff]; intro h; have := Hfit.out.1 h; omega)
              have Hz := Lib.hid hz; clear hz q2
              go_wp2
              go_quiet ((go_at_call 72; exact Calls.hush (l6In_q _ _ _ _)))
              go_wp2
              go_ret
              exact ⟨ret_bool Hz.out.symm, HW.out.drewN _⟩
          · have p2 : inB xa 0 (n - 1) = false := by rw [Bool.eq_false_iff]; intro h; exact q1 ((inB_iff _ _ _).1 h)
            have hz : validB n l = false := hno.out (by rw [Bool.eq_false_iff]; intro h; have := Hfit.out.1 h; omega)
            have Hz := Lib.hid hz; clear hz q1
            go_wp2
            go_quiet ((go_at_call 72; exact Calls.hush (l6In_q _ _ _ _)))
            go_wp2
            go_ret
            exact ⟨ret_bool Hz.out.symm, HW.out.drewN _⟩
        · obtain rfl : k = l.length := by omega
          have hBv : ∀ w', Drewn w w' → BkIn w' (.slice a l.length cap) l := fun w' h => Hv.out.below h.below
          have HBv := Lib.hid hBv; clear hBv
          go_wp2
          go_loopw [6] (fun i wr => Bv2Rel n l w i wr) (fun i _ => n.toNat - (intOf i).toNat)
          case atStart => exact ⟨0, Nat.zero_le _, rfl, legsTo_zero l, HW.out⟩
          case round =>
            obtain ⟨k, hk2, rfl, hok, hw⟩ := hrel
            have HW2 := Lib.hid hw; clear hw
            have Hok2 := Lib.hid hok; clear hok
            by_cases hlt : k < n.toNat
            · have hlt' : (k : Int) < n := by omega
              have Hno := Lib.hid (validB_noleg (n := n) (l := l) hlt)
              have Hlg := Lib.hid (show legOK l k = (decide (takenB l k true ≤ 4) && decide (takenB l k false ≤ 6)) from rfl)
              have t1 := takenB_le l k true
              have t2 := takenB_le l k false
              have Hc1 := Lib.hid (fun w' (h : Drewn w w') => taken1_big (.slice a l.length cap) l k true w' (HBv.out w' h) hl)
              have Hc2 := Lib.hid (fun w' (h : Drewn w w') => taken1_big (.slice a l.length cap) l k false w' (HBv.out w' h) hl)
              have HW3 := HW2
              generalize takenB l k true = n1 at *
              generalize takenB l k false = n2 at *
              by_cases q1 : n1 ≤ 4
              · have q1i : (n1 : Int) ≤ 4 := by omega
                by_cases q2 : n2 ≤ 6
                · have q2i : (n2 : Int) ≤ 6 := by omega
                  have hok1 : legsTo l (k + 1) = true := by
                    rw [legsTo_succ, Hok2.out, Hlg.out, decide_eq_true q1, decide_eq_true q2]; rfl
                  have Hok1 := Lib.hid hok1; clear hok1 q1 q2
                  go_wp2_with fail
                  refine (Hc1.out _ HW3.out).mono ?_; rintro e w1 ⟨rfl, m1, rfl⟩
                  have HW4 := Lib.hid (HW3.out.drewN m1)
                  go_wp2_with fail
                  refine (Hc2.out _ HW4.out).mono ?_; rintro e w2 ⟨rfl, m2, rfl⟩
                  have HW5 := Lib.hid (HW4.out.drewN m2)
                  go_wp2
                  exact ⟨⟨k + 1, hlt, by go_num, Hok1.out, HW3.out.drewN _⟩, by simp [intOf]; omega⟩
                · have hz := Hno.out (by rw [Hlg.out, decide_eq_false q2, Bool.and_false])
                  have q2i : (6 : Int) < (n2 : Int) := by omega
                  have Hz := Lib.hid hz; clear hz q1 q2
                  go_wp2_with fail
                  refine (Hc1.out _ HW3.out).mono ?_; rintro e w1 ⟨rfl, m1, rfl⟩
                  have HW4 := Lib.hid (HW3.out.drewN m1)
                  go_wp2_with fail
                  refine (Hc2.out _ HW4.out).mono ?_; rintro e w2 ⟨rfl, m2, rfl⟩
                  have HW5 := Lib.hid (HW4.out.drewN m2)
                  go_wp2
                  go_ret
                  exact ⟨ret_bool Hz.out.symm, HW3.out.drewN _⟩
              · have hz := Hno.out (by rw [Hlg.out, decide_eq_false q1]; rfl)
                have q1i : (4 : Int) < (n1 : Int) := by omega
                have Hz := Lib.hid hz; clear hz q1
                go_wp2_with fail
                refine (Hc1.out _ HW3.out).mono ?_; rintro e w1 ⟨rfl, m1, rfl⟩
                have HW4 := Lib.hid (HW3.out.drewN m1)
                go_wp2
                go_ret
                exact ⟨ret_bool Hz.out.symm, HW4.out⟩
            · obtain rfl : k = n.toNat := by omega
              have hz := validB_yes Hn1.out h16 Hok.out Hok2.out
              have Hz := Lib.hid hz; clear hz
              have hnn : ¬ ((n.toNat : Nat) : Int) < n := by omega
              go_wp2
              go_ret
              exact ⟨ret_bool Hz.out.symm, HW2.out⟩
    · have hz : validB n l = false := okB_no (fun h => h16 h.2)
      have Hz := Lib.hid hz; clear hz
      have h17 : (16 : Int) < (l.length : Int) := by omega
      go_enter Try.func48, Try.ntmps48
      go_wp2_with (go_at_call 72; refine (l6In_any _ _ _ _).mono ?_; rintro e w' ⟨rfl, rfl⟩; simp only [p1])
      go_ret
      exact ⟨ret_bool Hz.out.symm, 0, rfl⟩

theorem books1_any (n : Int) (v : Value) (l : List Bk) (w : World) (hn : W64 n) (hv : BkIn w v l) (hl : l.length ≤ 1048576) :
    Calls Try.prog 48 #[.int .i64 n, v] w (Quiet (.bool (validB n l)) w) := books1_big n v l w hn hv (by omega)

end Go.Proofs.Ytlkhgnglblgldaa
