/- The program's wayBillOf, BillValid. -/
import Derived.Test.YtmdcpigobfhckaaFV
import Derived.Test.YtmdcpigobfhckaaI
namespace Go.Proofs.Ytmdcpigobfhckaa
open Go.RowKit

def BofOut (n : Int) (l : List Fr) (w : World) (e : Ending) (w' : World) : Prop :=
  Below w.heap.size w w' ∧ (validF n l = false → e = .returned (.tuple #[.pointer none, .bool false])) ∧
    (validF n l = true → ∃ (W L : Nat) (pv : Value), e = .returned (.tuple #[.pointer (some ⟨W, 0, none⟩), .bool true]) ∧ WayK w' W w.heap.size L n.toNat pv l l.length)
theorem BofOut.no {n : Int} {l : List Fr} {w w' : World} (hz : validF n l = false) (hb : Below w.heap.size w w') : BofOut n l w (.returned (.tuple #[.pointer none, .bool false])) w' :=
  ⟨hb, fun _ => rfl, fun h => by rw [hz] at h; cases h⟩
theorem valid_nohead {n : Int} {l : List Fr} (h : ¬ (1 ≤ n ∧ n ≤ 7 ∧ l.length ≤ 12)) : validF n l = false := by
  rw [Bool.eq_false_iff]; intro h'
  have := headF_iff.1 (valid_head h')
  exact h ⟨this.1.1, this.1.2, this.2⟩

theorem made_loads (l : List Fr) (n : Nat) : madeCells #[.int .i64 0] n = ((loadsL l n 0).map (Value.int .i64)).toArray := by
  apply Array.toList_inj.1
  rw [toList_madeCells_one, loadsL_zero]
  simp

def BofRel (n : Int) (l : List Fr) (W L : Nat) (w : World) (i : Value) (wr : World) : Prop :=
  ∃ (k : Nat) (pv : Value), i = .int .i64 k ∧ k ≤ l.length ∧ goodTo n l k = true ∧ WayK wr W w.heap.size L n.toNat pv l k ∧ Below w.heap.size w wr

set_option maxRecDepth 100000 in
set_option maxHeartbeats 4000000 in
theorem billOf_any (n : Int) (v : Value) (l : List Fr) (w : World) (hv : FrIn w v l) (hl : l.length ≤ 1048577) :
    Calls Try.prog 73 #[.int .i64 n, v] w (BofOut n l w) := by
  have Hv := Lib.hid hv
  obtain ⟨a, cap, rfl, hcap, ha⟩ := hv
  clear hcap
  have Ha := Lib.hid ha; clear ha
  by_cases q1 : n < 1
  · have HF := Lib.hid (BofOut.no (w := w) (w' := w) (valid_nohead (n := n) (l := l) (by omega)) (Below.refl _ _))
    go_enter Try.func73, Try.ntmps73
    go_wp2
    go_ret2
    exact HF.out
  · by_cases q2 : 7 < n
    · have HF := Lib.hid (BofOut.no (w := w) (w' := w) (valid_nohead (n := n) (l := l) (by omega)) (Below.refl _ _))
      go_enter Try.func73, Try.ntmps73
      go_wp2
      go_ret2
      exact HF.out
    · by_cases q3 : 12 < l.length
      · have HF := Lib.hid (BofOut.no (w := w) (w' := w) (valid_nohead (n := n) (l := l) (by omega)) (Below.refl _ _))
        have q3i : (12 : Int) < (l.length : Int) := by omega
        go_enter Try.func73, Try.ntmps73
        go_wp2
        go_ret2
        exact HF.out
      · have d1 : ¬ n < 1 := q1
        have d2 : ¬ 7 < n := q2
        have d3 : ¬ (12 : Int) < (l.length : Int) := by omega
        obtain ⟨N, rfl⟩ : ∃ N : Nat, n = N := ⟨n.toNat, by omega⟩
        obtain ⟨i0, hi, hz0, hz1, hz2⟩ := info_parts Try.info3
        have hmk := fun W => run_make_rowN (P := Try.prog) 29 3 i0 _ Try.underlying29 hi hz0 .i64 .i64 N N (Nat.le_refl _) (by rw [hz2]; omega) (by omega) W
        rw [hz1] at hmk
        simp only [Nat.mul_one] at hmk
        have hN0 : (0 : Int) ≤ (N : Int) := Int.natCast_nonneg _
        go_enter Try.func73, Try.ntmps73
        go_wp2
        have hst : BofRel N l (w.heap.size + 1) w.heap.size w (.int .i64 0) ((w.alloc (.cells (madeCells #[.int .i64 0] N) 3)).alloc (.cells #[.slice none 0 0, .slice (some ⟨w.heap.size, 0, none⟩) N N] 80)) := by
          have hL := (Whole.made w 3 (madeCells #[.int .i64 0] N)).below (w' := (w.alloc (.cells (madeCells #[.int .i64 0] N) 3)).alloc (.cells #[.slice none 0 0, .slice (some ⟨w.heap.size, 0, none⟩) N N] 80)) ((Below.refl _ _).alloc (Nat.le_refl _) _) (by simp)
          have hW := Whole.made (w.alloc (.cells (madeCells #[.int .i64 0] N) 3)) 80 #[.slice none 0 0, .slice (some ⟨w.heap.size, 0, none⟩) N N]
          rw [World.size_alloc] at hW
          rw [made_loads l N] at hL
          exact ⟨0, .slice none 0 0, rfl, Nat.zero_le _, rfl, ⟨hW, OwnK.nil, by rw [made_loads l N]; exact hL, ⟨by omega, Nat.le_refl _, by omega⟩, ⟨(fun h => by cases h), (fun h => by cases h)⟩⟩, ((Below.refl _ _).alloc (Nat.le_refl _) _).alloc (by simp) _⟩
        have Hst := Lib.hid hst
        clear hst hmk
        generalize ((w.alloc (.cells (madeCells #[.int .i64 0] N) 3)).alloc (.cells #[.slice none 0 0, .slice (some ⟨w.heap.size, 0, none⟩) N N] 80)) = w0 at *
        go_loopw [26] (fun i wr => BofRel N l (w.heap.size + 1) w.heap.size w i wr) (fun i _ => l.length - (intOf i).toNat)
        case atStart => exact Hst.out
        case round =>
          clear Hst
          obtain ⟨k, pv, rfl, hk, hg, hwk, hb⟩ := hrel
          have Hg := Lib.hid hg
          have Hwk := Lib.hid hwk
          have Hb := Lib.hid hb
          clear hg hwk hb
          by_cases hlt : k < l.length
          · obtain ⟨b, o, rfl, hb0, hrw⟩ := Ha.out (by intro h; simp [h] at hlt)
            obtain ⟨c0, c1, c2⟩ := (hrw.below Hb.out hb0) k hlt
            clear hrw
            obtain ⟨⟨xa, xb, xm⟩, hr⟩ : ∃ r, l.getD k fr0 = r := ⟨_, rfl⟩
            rw [hr] at c0 c1 c2
            simp only at c0 c1 c2
            have hsz := Hb.out.size
            have hbn : Below wr.heap.size wr (wr.alloc (.cells #[.int .i64 xa, .int .i64 xb, .int .i64 xm] 41)) := (Below.refl _ _).alloc (Nat.le_refl _) _
            have Hwk2 := Lib.hid (Hwk.out.below hbn)
            have Hb2 := Lib.hid (Hb.out.trans (hbn.mono hsz))
            have Hadd := Lib.hid (add9_any (w.heap.size + 1) w.heap.size w.heap.size N pv l k xa xb xm _ Hwk2.out hr (by omega) (by omega) (goodTo_ok Hg.out) (by simp; omega))
            have hk0 : (0 : Int) ≤ (k : Int) := Int.natCast_nonneg _
            have hk1 : (k : Int) < (l.length : Int) := by omega
            have Hgs := Lib.hid (show goodTo N l (k + 1) = (goodTo N l k && stepF N l k) from rfl)
            have hgno := fun h => goodTo_no (n := N) (l := l) hlt h
            have Hgno := Lib.hid hgno
            clear hbn hr hgno
            go_wp2_with fail
            refine Hadd.out.mono ?_; rintro e w2 ⟨rfl, hy, hb2⟩
            cases hq : stepF N l k with
            | false =>
              have HF := Lib.hid (BofOut.no (w := w) (w' := w2) (n := N) (l := l) (by rw [valid_eq (headF_iff.2 ⟨⟨by omega, by omega⟩, by omega⟩)]; exact Hgno.out hq) (Hb2.out.trans hb2))
              clear hy hb2 hq
              go_wp2
              go_ret2
              exact HF.out
            | true =>
              obtain ⟨pv2, hwk2⟩ := hy hq
              have Hwk3 := Lib.hid hwk2
              have Hg3 := Lib.hid (show goodTo N l (k + 1) = true by rw [Hgs.out, Hg.out, hq]; rfl)
              have Hb3 := Lib.hid (Hb2.out.trans hb2)
              clear hy hb2 hq hwk2
              go_wp2
              exact ⟨⟨k + 1, pv2, by go_num, hlt, Hg3.out, Hwk3.out, Hb3.out⟩, by simp [intOf]; omega⟩
          · obtain rfl : k = l.length := by omega
            have HF := Lib.hid (show BofOut N l w (.returned (.tuple #[.pointer (some ⟨w.heap.size + 1, 0, none⟩), .bool true])) wr from ⟨Hb.out, (fun h => by
              rw [valid_eq (headF_iff.2 ⟨⟨by omega, by omega⟩, by omega⟩), Hg.out] at h; cases h), fun _ => ⟨_, _, pv, rfl, Hwk.out⟩⟩)
            go_wp2
            go_ret2
            exact HF.out

set_option maxHeartbeats 400000 in
theorem bill2_any (n : Int) (v : Value) (l : List Fr) (w : World) (hv : FrIn w v l) (hl : l.length ≤ 1048577) :
    Calls Try.prog 24 #[.int .i64 n, v] w (Gives (.bool (validF n l)) w) := by
  have Hc := Lib.hid (billOf_any n v l w hv hl)
  clear hv
  go_enter Try.func24, Try.ntmps24
  go_wp2_with fail
  refine Hc.out.mono ?_; rintro e w1 ⟨hb, hno, hyes⟩
  cases hz : validF n l with
  | false =>
    obtain rfl := hno hz
    have Hb := Lib.hid hb
    clear hno hyes hb
    go_wp2
    go_ret
    exact ⟨by rw [hz]; rfl, Hb.out⟩
  | true =>
    obtain ⟨W, L, pv, rfl, _⟩ := hyes hz
    have Hb := Lib.hid hb
    clear hno hyes hb
    go_wp2
    go_ret
    exact ⟨by rw [hz]; rfl, Hb.out⟩

end Go.Proofs.Ytmdcpigobfhckaa
