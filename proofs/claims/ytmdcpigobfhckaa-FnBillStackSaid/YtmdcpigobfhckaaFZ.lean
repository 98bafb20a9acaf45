/- The model's BillStack, BillMoves, BillNested. -/
import Derived.Test.YtmdcpigobfhckaaFY
import Derived.Test.YtmdcpigobfhckaaFX
import Derived.Test.YtmdcpigobfhckaaFM
namespace Go.Proofs.Ytmdcpigobfhckaa
open Go.RowKit

set_option maxHeartbeats 1000000 in
theorem stack1_any (n : Int) (v : Value) (l : List Fr) (s : Int) (w : World) (wn : W64 n) (hv : FrIn w v l) (hl : l.length ≤ 1048576) :
    Calls Try.prog 40 #[.int .i64 n, v, .int .i64 s] w (IntsOk (stackX n l s) (stackOk n l s) w) := by
  have HV := Lib.hid (bill1_any n v l w wn hv (by omega))
  have HVl := Lib.hid (fun w' (h : Below w.heap.size w w') => hv.below h)
  have HNO := Lib.hid (show ∀ w1, Below w.heap.size w w1 → stackOk n l s = false → IntsOk (stackX n l s) (stackOk n l s) w (.returned (.tuple #[.slice (some ⟨w1.heap.size, 0, none⟩) 0 0, .bool false])) (w1.alloc (.cells #[] 3)) from fun w1 hb h => by
    rw [stackX_no h, h]
    exact IntsOk.no hb.size (by simp) (hb.alloc hb.size _))
  clear hv
  cases hz : validF n l with
  | false =>
    rw [hz] at HV
    have HF := Lib.hid (fun w1 h => HNO.out w1 h (by unfold stackOk; rw [hz]; rfl))
    clear hz
    go_enter Try.func40, Try.ntmps40
    go_wp2_with fail
    refine HV.out.mono ?_; rintro e w1 ⟨rfl, hb1⟩
    have HB := Lib.hid hb1
    clear hb1
    go_wp2
    go_ret2
    exact HF.out _ HB.out
  | true =>
    rw [hz] at HV
    obtain ⟨⟨hn1, hn7⟩, hl12⟩ := headF_iff.1 (valid_head hz)
    have Ho := Lib.hid (valid_ok hz)
    cases p2 : inB s 0 n with
    | false =>
      have HF := Lib.hid (fun w1 h => HNO.out w1 h (by
        have e : stackOk n l s = (validF n l && inB s 0 n) := rfl
        rw [e, p2, Bool.and_false]))
      have P2 := Lib.hid p2
      clear hz p2
      go_enter Try.func40, Try.ntmps40
      go_wp2_with fail
      refine HV.out.mono ?_; rintro e w1 ⟨rfl, hb1⟩
      have HB := Lib.hid hb1
      clear hb1
      go_wp2_with fail
      refine (l6In_any _ _ _ _).mono ?_; rintro e w' ⟨rfl, rfl⟩
      rw [P2.out]
      go_wp2
      go_ret2
      exact HF.out _ HB.out
    | true =>
      obtain ⟨q0, q1⟩ := (inB_iff _ _ _).1 p2
      obtain ⟨S, rfl⟩ : ∃ S : Nat, s = S := ⟨s.toNat, by omega⟩
      have hok : stackOk n l (S : Int) = true := by
        have e : stackOk n l (S : Int) = (validF n l && inB (S : Int) 0 n) := rfl
        rw [e, hz, p2]; rfl
      have hx : stackX n l (S : Int) = castS (runF l (S + 1)).1 := by unfold stackX; rw [if_pos hok, Int.toNat_natCast]; rfl
      have Hx := Lib.hid hx
      have Hok := Lib.hid hok
      have P2 := Lib.hid p2
      clear hz p2 hx hok HNO
      go_enter Try.func40, Try.ntmps40
      go_wp2_with fail
      refine HV.out.mono ?_; rintro e w1 ⟨rfl, hb1⟩
      have HB := Lib.hid hb1
      clear hb1
      go_wp2_with fail
      refine (l6In_any _ _ _ _).mono ?_; rintro e w' ⟨rfl, rfl⟩
      rw [P2.out]
      have HR := Lib.hid (run1_any n v l S w1 (HVl.out _ HB.out) Ho.out hl12 (by omega))
      go_wp2_with fail
      refine HR.out.mono ?_; rintro e w2 ⟨u, rfl, hrow, hb2⟩
      have HF := Lib.hid (IntsOk.row (w := w) true hrow HB.out.size (HB.out.trans (hb2.mono HB.out.size)))
      clear hrow hb2
      go_wp2
      go_ret2
      rw [Hx.out, Hok.out]
      exact HF.out

set_option maxHeartbeats 1000000 in
theorem moves1_any (n : Int) (v : Value) (l : List Fr) (w : World) (wn : W64 n) (hv : FrIn w v l) (hl : l.length ≤ 1048576) :
    Calls Try.prog 42 #[.int .i64 n, v] w (Gives (.int .i64 (movesX n l)) w) := by
  have HV := Lib.hid (bill1_any n v l w wn hv (by omega))
  have HVl := Lib.hid (fun w' (h : Below w.heap.size w w') => hv.below h)
  clear hv
  cases hz : validF n l with
  | false =>
    have Hx := Lib.hid (show movesX n l = -1 by unfold movesX; rw [hz]; rfl)
    rw [hz] at HV
    clear hz
    go_enter Try.func42, Try.ntmps42
    go_wp2_with fail
    refine HV.out.mono ?_; rintro e w1 ⟨rfl, hb1⟩
    have HB := Lib.hid hb1
    clear hb1
    go_wp2
    go_ret
    exact ⟨ret_int Hx.out.symm, HB.out⟩
  | true =>
    have Hx := Lib.hid (show movesX n l = ((runF l (n.toNat + 1)).2 : Nat) by unfold movesX; rw [hz]; rfl)
    rw [hz] at HV
    obtain ⟨⟨hn1, hn7⟩, hl12⟩ := headF_iff.1 (valid_head hz)
    have Ho := Lib.hid (valid_ok hz)
    clear hz
    obtain ⟨N, rfl⟩ : ∃ N : Nat, n = N := ⟨n.toNat, by omega⟩
    rw [Int.toNat_natCast] at Hx
    go_enter Try.func42, Try.ntmps42
    go_wp2_with fail
    refine HV.out.mono ?_; rintro e w1 ⟨rfl, hb1⟩
    have HB := Lib.hid hb1
    clear hb1
    have HR := Lib.hid (run1_any N v l N w1 (HVl.out _ HB.out) Ho.out hl12 (by omega))
    go_wp2_with fail
    refine HR.out.mono ?_; rintro e w2 ⟨u, rfl, hrow, hb2⟩
    have HB2 := Lib.hid (HB.out.trans (hb2.mono HB.out.size))
    clear hrow hb2
    go_wp2
    go_ret
    exact ⟨ret_int Hx.out.symm, HB2.out⟩

set_option maxHeartbeats 1000000 in
theorem nested1_any (n : Int) (v : Value) (l : List Fr) (w : World) (wn : W64 n) (hv : FrIn w v l) (hl : l.length ≤ 1048576) :
    Calls Try.prog 44 #[.int .i64 n, v] w (Gives (.bool (movesX n l == 0)) w) := by
  have Hc := Lib.hid (moves1_any n v l w wn hv hl)
  clear hv
  generalize movesX n l = x at *
  go_enter Try.func44, Try.ntmps44
  go_wp2_with fail
  refine Hc.out.mono ?_; rintro e w1 ⟨rfl, hb⟩
  have Hb := Lib.hid hb
  clear hb
  go_wp2
  go_ret
  exact ⟨rfl, Hb.out⟩

end Go.Proofs.Ytmdcpigobfhckaa
