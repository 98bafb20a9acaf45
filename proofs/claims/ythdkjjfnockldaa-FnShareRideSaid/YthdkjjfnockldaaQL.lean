/- The program's PartsLength, stretchFits, ifParts, PartsPlain, PartsSell. -/
import Derived.Test.YthdkjjfnockldaaQK
namespace Go.Proofs.Ythdkjjfnockldaa
open Go.RowKit

def LnRel (l : List Pt) (w : World) (s i : Value) (wr : World) : Prop := ∃ k : Nat, k ≤ l.length ∧ i = .int .i64 k ∧ s = .int .i64 ((ownP (l.take k)).length : Nat) ∧ Below w.heap.size w wr

set_option maxRecDepth 100000 in
set_option maxHeartbeats 1000000 in
theorem len2_any (v : Value) (l : List Pt) (w : World) (hv : PtIn w v l) (hm : l.length ≤ 1048576) :
    Calls Try.prog 18 #[v] w (Gives (.int .i64 (lenX l)) w) := by
  have Hval := Lib.hid (valid2_any v l w hv hm)
  cases hz : validP l with
  | false =>
    have hx : lenX l = -1 := by unfold lenX; rw [hz]; rfl
    have Hx := Lib.hid hx; clear hx
    rw [hz] at Hval
    clear hv
    go_enter Try.func18, Try.ntmps18
    go_wp2_with fail
    refine Hval.out.mono ?_; rintro e w1 ⟨rfl, hb1⟩
    go_wp2
    go_ret
    rw [Hx.out]
    exact ⟨rfl, hb1⟩
  | true =>
    have hx : lenX l = ((ownP l).length : Nat) := by unfold lenX; rw [hz]; rfl
    have Hx := Lib.hid hx; clear hx
    rw [hz] at Hval
    obtain ⟨b, o, cap, rfl, _, hb, hl⟩ := hv.full hz
    have hl12 := (validP_iff.1 hz).2.1
    have Hz := Lib.hid hz; clear hz
    go_enter Try.func18, Try.ntmps18
    go_wp2_with fail
    refine Hval.out.mono ?_; rintro e w1 ⟨rfl, hb1⟩
    have HB1 := Lib.hid hb1
    have Hl := Lib.hid hl
    clear hb1 hl
    go_wp2
    go_loopw [3, 11] (fun s i wr => LnRel l w s i wr) (fun _ i _ => l.length - (intOf i).toNat)
    case atStart => exact ⟨0, Nat.zero_le _, rfl, rfl, HB1.out⟩
    case round =>
      obtain ⟨k, hk, rfl, rfl, hbel⟩ := hrel
      by_cases hlt : k < l.length
      · obtain ⟨c0, c1⟩ := (Hl.out.below hbel hb) k hlt
        obtain ⟨_, _, p1, p9⟩ := validP_at Hz.out hlt
        have hup := ownP_up hlt
        have hle := ownP_take_le hlt
        have hln := ownP_len Hz.out
        generalize (l.getD k pt0).a = xa at *
        generalize (l.getD k pt0).b = xb at *
        obtain ⟨c, rfl⟩ : ∃ c : Nat, xb = c := ⟨xb.toNat, by omega⟩
        rw [Int.toNat_natCast] at hup hle
        have Hup := Lib.hid hup
        have hbs : (ownP (l.take k)).length ≤ 1188 := by omega
        generalize (ownP (l.take k)).length = base at *
        have HB := Lib.hid hbel
        have hsz := hbel.size
        clear hup hle hln hbel
        go_wp2
        refine ⟨⟨k + 1, hlt, by go_num, by rw [Hup.out]; go_num, HB.out.alloc hsz _⟩, by simp [intOf]; omega⟩
      · obtain rfl : k = l.length := by omega
        rw [List.take_length] at *
        have HB := Lib.hid hbel
        clear hbel
        go_wp2
        go_ret
        rw [Hx.out]
        exact ⟨rfl, HB.out⟩

set_option maxRecDepth 100000 in
set_option maxHeartbeats 1000000 in
theorem stretch2_any (v : Value) (l : List Pt) (x y : Int) (w : World) (hv : PtIn w v l) (hm : l.length ≤ 1048576) :
    Calls Try.prog 62 #[v, .int .i64 x, .int .i64 y] w (Gives (.bool (strOk l x y)) w) := by
  have Hval := Lib.hid (valid2_any v l w hv hm)
  cases hz : validP l with
  | false =>
    have Hx := Lib.hid (bnot_of strOk_iff (fun h => by rw [hz] at h; cases h.1) : strOk l x y = false)
    rw [hz] at Hval
    obtain ⟨a, cap, rfl, _, _⟩ := hv
    go_enter Try.func62, Try.ntmps62
    go_wp2_with fail
    refine Hval.out.mono ?_; rintro e w1 ⟨rfl, hb1⟩
    go_wp2
    go_ret
    rw [Hx.out]
    exact ⟨rfl, hb1⟩
  | true =>
    rw [hz] at Hval
    obtain ⟨a, cap, rfl, hc, hl⟩ := hv
    have Hv := Lib.hid (⟨a, cap, rfl, hc, hl⟩ : PtIn w (.slice a l.length cap) l)
    clear hc hl
    have Hz := Lib.hid hz; clear hz
    by_cases hx0 : (0 : Int) ≤ x
    · by_cases hxy : x < y
      · have hlx : lenX l = ((ownP l).length : Nat) := by unfold lenX; rw [Hz.out]; rfl
        by_cases hyl : y ≤ ((ownP l).length : Int)
        · have Hx := Lib.hid (strOk_iff.2 ⟨Hz.out, hx0, hxy, hyl⟩)
          have Hlx := Lib.hid hlx; clear hlx
          generalize (ownP l).length = n at *
          go_enter Try.func62, Try.ntmps62
          go_wp2_with fail
          refine Hval.out.mono ?_; rintro e w1 ⟨rfl, hb1⟩
          have HL := Lib.hid (len2_any _ l w1 (PtIn.below (v := .slice a l.length cap) Hv.out hb1) hm)
          rw [Hlx.out] at HL
          have HB := Lib.hid hb1; clear hb1
          go_wp2_with fail
          refine HL.out.mono ?_; rintro e w2 ⟨rfl, hb2⟩
          have HB2 := Lib.hid (HB.out.trans (hb2.mono HB.out.size)); clear hb2
          go_wp2
          go_ret
          rw [Hx.out]
          exact ⟨by first | rfl | exact ret_bool (by simpa using hyl), HB2.out⟩
        · have Hx := Lib.hid (bnot_of strOk_iff (fun h => hyl h.2.2.2) : strOk l x y = false)
          have Hlx := Lib.hid hlx; clear hlx
          generalize (ownP l).length = n at *
          go_enter Try.func62, Try.ntmps62
          go_wp2_with fail
          refine Hval.out.mono ?_; rintro e w1 ⟨rfl, hb1⟩
          have HL := Lib.hid (len2_any _ l w1 (PtIn.below (v := .slice a l.length cap) Hv.out hb1) hm)
          rw [Hlx.out] at HL
          have HB := Lib.hid hb1; clear hb1
          go_wp2_with fail
          refine HL.out.mono ?_; rintro e w2 ⟨rfl, hb2⟩
          have HB2 := Lib.hid (HB.out.trans (hb2.mono HB.out.size)); clear hb2
          go_wp2
          go_ret
          rw [Hx.out]
          exact ⟨by first | rfl | exact ret_bool (by simpa using hyl), HB2.out⟩
      · have Hx := Lib.hid (bnot_of strOk_iff (fun h => hxy h.2.2.1) : strOk l x y = false)
        go_enter Try.func62, Try.ntmps62
        go_wp2_with fail
        refine Hval.out.mono ?_; rintro e w1 ⟨rfl, hb1⟩
        go_wp2
        go_ret
        rw [Hx.out]
        exact ⟨rfl, hb1⟩
    · have Hx := Lib.hid (bnot_of strOk_iff (fun h => hx0 h.2.1) : strOk l x y = false)
      go_enter Try.func62, Try.ntmps62
      go_wp2_with fail
      refine Hval.out.mono ?_; rintro e w1 ⟨rfl, hb1⟩
      go_wp2
      go_ret
      rw [Hx.out]
      exact ⟨rfl, hb1⟩

set_option maxHeartbeats 400000 in
theorem ifParts_yes (ad : Option Addr) (cap : Nat) (q : List Pt) (w : World) (hv : PtIn w (.slice ad q.length cap) q) (hz : validP q = true) :
    Calls Try.prog 57 #[.slice ad q.length cap] w fun e w' => e = .returned (.tuple #[.slice ad q.length cap, .bool true]) ∧ Below w.heap.size w w' := by
  have Hval := Lib.hid (valid2_any _ q w hv (by have := (validP_iff.1 hz).2.1; omega))
  rw [hz] at Hval
  clear hz hv
  go_enter Try.func57, Try.ntmps57
  go_wp2_with fail
  refine Hval.out.mono ?_; rintro e w1 ⟨rfl, hb1⟩
  go_wp2
  go_ret2
  exact ⟨rfl, hb1⟩

set_option maxHeartbeats 400000 in
theorem ifParts_no (ad : Option Addr) (cap : Nat) (q : List Pt) (w : World) (hv : PtIn w (.slice ad q.length cap) q) (hq : q.length ≤ 1048576) (hz : validP q = false) :
    Calls Try.prog 57 #[.slice ad q.length cap] w (PtOut [] false w) := by
  have Hval := Lib.hid (valid2_any _ q w hv hq)
  rw [hz] at Hval
  clear hz hv
  go_enter Try.func57, Try.ntmps57
  go_wp2_with fail
  refine Hval.out.mono ?_; rintro e w1 ⟨rfl, hb1⟩
  have HB := Lib.hid hb1; clear hb1
  go_wp2
  go_ret2
  refine ⟨some ⟨w1.heap.size, 0, none⟩, 0, rfl, Nat.le_refl _, OwnPt.nil, fun j hj => ?_, HB.out.alloc HB.out.size _⟩
  obtain ⟨o, ho⟩ := hj
  cases ho
  exact ⟨HB.out.size, by simp⟩

/-- ifParts at a row of the call's own. -/
theorem ifParts_any (ad : Option Addr) (cap B : Nat) (q : List Pt) (w0 w : World) (hr : RowPt w B (.slice ad q.length cap) q) (hB : w0.heap.size ≤ B) (hb : Below w0.heap.size w0 w) (hq : q.length ≤ 1048576) :
    Calls Try.prog 57 #[.slice ad q.length cap] w (PtOut (ifP q) (validP q) w0) := by
  obtain ⟨ad', cap', e, hc, hown, hblk⟩ := hr.row
  injection e with e1 e2 e3
  subst e1 e3
  cases hz : validP q with
  | true =>
    rw [ifP_yes hz]
    refine (ifParts_yes _ _ q w (hown.ins hc) hz).mono ?_
    rintro e w' ⟨rfl, hb'⟩
    exact ⟨ad, cap, rfl, hc, hown.below hb', fun j hj => ⟨by have := (hblk j hj).1; omega, Nat.lt_of_lt_of_le (hblk j hj).2 hb'.size⟩, hb.trans (hb'.mono hb.size)⟩
  | false =>
    rw [ifP_no hz]
    refine (ifParts_no _ _ q w (hown.ins hc) hq hz).mono ?_
    rintro e w' ⟨ad2, cap2, rfl, hc2, _, hblk2, hb'⟩
    exact ⟨ad2, cap2, rfl, hc2, OwnPt.nil, fun j hj => ⟨by have := (hblk2 j hj).1; have := hb.size; omega, (hblk2 j hj).2⟩, hb.trans (hb'.mono hb.size)⟩

end Go.Proofs.Ythdkjjfnockldaa
