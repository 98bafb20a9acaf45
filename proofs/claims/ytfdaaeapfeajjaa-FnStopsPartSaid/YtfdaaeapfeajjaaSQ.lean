/- StopsPart: plainly; the program's. -/
import Derived.Test.YtfdaaeapfeajjaaSK
namespace Go.Proofs.Ytfdaaeapfeajjaa
open Go.RowKit

/-- Of the first i stops, those from f to t. -/
def partTo (l : List Rd) (f t i : Nat) : List Rd := (l.take (min i (t + 1))).drop f
def partOk (n : Int) (l : List Rd) (f t : Int) : Bool := validS n l && inB f 0 ((l.length : Int) - 1) && inB t (f + 1) ((l.length : Int) - 1)
def partL (n : Int) (l : List Rd) (f t : Int) : List Rd := if partOk n l f t = true then partTo l f.toNat t.toNat l.length else []

theorem partTo_zero (l : List Rd) (f t : Nat) : partTo l f t 0 = [] := by simp [partTo]

theorem partTo_in (l : List Rd) {f t i : Nat} (hi : i < l.length) (h1 : f ≤ i) (h2 : i ≤ t) : partTo l f t (i + 1) = partTo l f t i ++ [l.getD i rd0] := by
  unfold partTo
  rw [Nat.min_eq_left (by omega), Nat.min_eq_left (by omega), take_snocD l i hi, List.drop_append_of_le_length (by simp; omega)]

theorem partTo_out (l : List Rd) {f t i : Nat} (h : ¬ (f ≤ i ∧ i ≤ t)) : partTo l f t (i + 1) = partTo l f t i := by
  unfold partTo
  by_cases h2 : i ≤ t
  · have h1 : i < f := by omega
    rw [Nat.min_eq_left (by omega), Nat.min_eq_left (by omega), List.drop_eq_nil_of_le (by simp; omega), List.drop_eq_nil_of_le (by simp; omega)]
  · rw [Nat.min_eq_right (by omega), Nat.min_eq_right (by omega)]

theorem partTo_len (l : List Rd) {f t : Nat} (h : t < l.length) : (partTo l f t l.length).length = t + 1 - f := by
  unfold partTo
  rw [Nat.min_eq_right (by omega)]
  simp; omega

theorem partTo_le (l : List Rd) (f t i : Nat) : (partTo l f t i).length ≤ l.length := by
  unfold partTo; simp; omega

theorem partTo_get (l : List Rd) {f t i : Nat} (h : t < l.length) (hi : i < t + 1 - f) : (partTo l f t l.length).getD i rd0 = l.getD (f + i) rd0 := by
  have h1 := partTo_len l (f := f) h
  rw [getD_eq _ (by omega), getD_eq l (by omega)]
  simp [partTo]

/-- A part of a timetable is one, if it has two stops. -/
theorem part_valid {n : Int} {l : List Rd} {f t : Nat} (hz : validS n l = true) (h : t < l.length) (hf : f + 1 ≤ t) : validS n (partTo l f t l.length) = true := by
  obtain ⟨⟨h1, h2, h3, h4⟩, hall⟩ := validS_iff.1 hz
  have hlen := partTo_len l (f := f) h
  refine validS_iff.2 ⟨⟨h1, h2, by omega, by omega⟩, fun i hi => ?_⟩
  obtain ⟨g1, g2, g3⟩ := (okS_iff _ _ _).1 (hall (f + i) (by omega))
  have hb := validS_at hz (show f + i < l.length by omega)
  rw [okS_iff, partTo_get l h (by omega)]
  refine ⟨g1, ?_, ?_⟩
  · cases i with
    | zero => show (-1 : Int) < _; omega
    | succ j =>
      show ((partTo l f t l.length).getD j rd0).m < _
      rw [partTo_get l h (by omega)]
      exact validS_next hz (i := f + j) (by omega)
  · rw [newS_iff]
    intro j hj
    rw [partTo_get l h (by omega)]
    exact validS_ne hz (j := f + j) (i := f + i) (by omega) (by omega)

theorem part_short {n : Int} {l : List Rd} {f t : Nat} (h : t < l.length) (hf : ¬ f + 1 ≤ t) : validS n (partTo l f t l.length) = false :=
  validS_small (by rw [partTo_len l h]; omega)

set_option maxHeartbeats 400000 in
theorem has_any (tb : Nat) (hs : List Nat) (l : List Rd) (i : Int) (w : World) (h : TT w tb hs l) (hl : l.length ≤ 8) (h0 : 0 < l.length) :
    Calls Try.prog 47 #[.pointer (some ⟨tb, 0, none⟩), .int .i64 i] w fun e w' => e = .returned (.bool (inB i 0 ((l.length : Int) - 1))) ∧ w = w' := by
  obtain ⟨k, hk⟩ : ∃ k, l.length = k + 1 := ⟨l.length - 1, by omega⟩
  have c1 := h.last_some hk
  have c3 := h.index (i := k) (by omega)
  have hq : inB i 0 ((l.length : Int) - 1) = (decide (0 ≤ i) && decide (i ≤ (k : Int))) := by
    rw [hk]; unfold inB; congr 1
    rw [Bool.eq_iff_iff]; simp only [decide_eq_true_eq]; omega
  rw [hq]
  clear h hk hq
  generalize hs.getD k 0 = gk at *
  by_cases hi : 0 ≤ i
  · go_enter Try.func47, Try.ntmps47
    go_wp2
    go_ret
    exact ⟨ret_bool (by simp [hi]), rfl⟩
  · have hi' : decide (0 ≤ i) = false := by simpa using hi
    go_enter Try.func47, Try.ntmps47
    go_wp2
    go_ret
    exact ⟨ret_bool (by first | rfl | simp), rfl⟩

def PtRel (l : List Rd) (f t : Nat) (hs : List Nat) (w : World) (gk : Nat) (v hv : Value) (wr : World) : Prop :=
  ∃ i : Nat, i + gk = l.length ∧ hv = ptB hs[i]? ∧ OwnS wr w.heap.size v (partTo l f t i) ∧ Below w.heap.size w wr

def PtOut (xs : List Rd) (w : World) (e : Ending) (w' : World) : Prop :=
  ∃ (ad : Option Addr) (cap : Nat), e = .returned (.slice ad xs.length cap) ∧ OwnRd w' ad xs ∧ (∀ j, inBlk ad j → w.heap.size ≤ j ∧ j < w'.heap.size) ∧ Below w.heap.size w w'

set_option maxRecDepth 100000 in
set_option maxHeartbeats 1000000 in
theorem part_any (tb : Nat) (hs : List Nat) (l : List Rd) (f t : Nat) (w1 : World) (htt : TT w1 tb hs l) (hl : l.length ≤ 8) :
    Calls Try.prog 48 #[.pointer (some ⟨tb, 0, none⟩), .int .i64 (f : Int), .int .i64 (t : Int)] w1 (PtOut (partTo l f t l.length) w1) := by
  obtain ⟨i0, hi0, hz0, hz1, hz2⟩ := info_parts stopInfo
  have hb0 : Below w1.heap.size w1 (w1.alloc (.cells #[] 35)) := (Below.refl _ _).alloc (Nat.le_refl _) _
  have c0 : (w1.alloc (.cells #[] 35)).cell? ⟨tb, 0, none⟩ = some (ptB hs[0]?) := (htt.below hb0).top.cell rfl
  have c0' : w1.cell? ⟨tb, 0, none⟩ = some (ptB hs[0]?) := htt.top.cell rfl
  have Hown0 := Lib.hid (OwnS.made w1 w1.heap.size (Nat.le_refl _))
  have Htt := Lib.hid htt; clear htt
  go_enter Try.func48, Try.ntmps48
  go_wp2
  clear c0 c0'
  go_loopg [7, 8] l.length (fun gk v hv wr => PtRel l f t hs w1 gk v hv wr)
  case atStart => exact ⟨0, by omega, rfl, by rw [partTo_zero]; exact Hown0.out, hb0⟩
  case round =>
    obtain ⟨i, hi, rfl, hown, hbel⟩ := hrel
    have Htr := Lib.hid (Htt.out.below hbel)
    by_cases hlt : i < l.length
    · have e1 : ptB hs[i]? = .pointer (some ⟨hs.getD i 0, 0, none⟩) := ptB_some (by rw [Htt.out.len]; exact hlt)
      rw [e1]
      have d0 := Htr.out.town hlt
      have d1 := Htr.out.arrive hlt
      have d2 := Htr.out.leave hlt
      have d3 := Htr.out.index hlt
      have d5 : wr.cell? ⟨hs.getD i 0, 5, none⟩ = some (ptB hs[i + 1]?) := (Htr.out.halts i hlt).cell rfl
      have Hnext := Lib.hid (fun (w' : World) (h : TT w' tb hs l) => show w'.cell? ⟨hs.getD i 0, 5, none⟩ = some (ptB hs[i + 1]?) from (h.halts i hlt).cell rfl)
      have Hin := Lib.hid (fun h1 h2 => partTo_in l (f := f) (t := t) (i := i) hlt h1 h2)
      have hrr : l.getD i rd0 = ⟨(l.getD i rd0).a, (l.getD i rd0).b, (l.getD i rd0).m⟩ := rfl
      have Hrr := Lib.hid hrr; clear hrr
      have hple := partTo_le l f t i
      obtain ⟨gk', rfl⟩ : ∃ g, gk = g + 1 := ⟨gk - 1, by omega⟩
      have Hi := Lib.hid hi
      have hsz := hbel.size
      clear e1 hi hlt
      generalize (l.getD i rd0).a = xa at *
      generalize (l.getD i rd0).b = xb at *
      generalize (l.getD i rd0).m = xm at *
      generalize hs.getD i 0 = gi at *
      by_cases hc : f ≤ i ∧ i ≤ t
      · obtain ⟨hc1, hc2⟩ := hc
        have hc1' : (f : Int) ≤ (i : Int) := by omega
        have hc2' : (i : Int) ≤ (t : Int) := by omega
        have hp := Hin.out hc1 hc2
        have Hp := Lib.hid hp; clear hp
        unfold OwnS at hown
        clear d5
        go_wp2_with (at_builtin; refine wpList_append_own _ rfl _ _ 23 rfl w1.heap.size 35 i0 _ 3 24 Try.underlying23 hi0 hz0 hz1 hz2 rfl (by omega) _ _ (encR (partTo l f t i)) rfl (hown.alloc _) ⟨wr.heap.size, 0, none⟩ 1 1 [.int .i64 xa, .int .i64 xb, .int .i64 xm] rfl rfl (news1 wr #[.int .i64 xa, .int .i64 xb, .int .i64 xm] 35) (by simp [Value.oneCell']) (by unfold maxLen; omega) (by omega) (by simp; omega) ?_; intro v' w2 hown2 hgrow _; have d5 := Hnext.out w2 (Htt.out.below ((hbel.alloc hsz _).grown hgrow (by simp; omega) (fun j hj => (hown.lt j hj).1))))
        have B6 : Below w1.heap.size w1 w2 := ((hbel.alloc hsz _).grown hgrow (by simp; omega) (fun j hj => (hown.lt j hj).1))
        have hown7 : OwnS w2 w1.heap.size v' (partTo l f t (i + 1)) := by
          rw [Hp.out, Hrr.out]
          exact OwnS.snoc hown2
        go_roundg gk'
        case measure => omega
        case rel => exact ⟨i + 1, by have := Hi.out; omega, rfl, hown7, B6⟩
      · have hp := partTo_out l hc
        have Hp := Lib.hid hp; clear hp
        have Hown := Lib.hid hown; clear hown
        by_cases hc1 : f ≤ i
        · have hc1' : (f : Int) ≤ (i : Int) := by omega
          have hc2' : ¬ (i : Int) ≤ (t : Int) := by omega
          clear hc
          go_wp2
          go_roundg gk'
          case measure => omega
          case rel => exact ⟨i + 1, by have := Hi.out; omega, rfl, by rw [Hp.out]; exact Hown.out, hbel⟩
        · have hc1' : ¬ (f : Int) ≤ (i : Int) := by omega
          clear hc
          go_wp2
          go_roundg gk'
          case measure => omega
          case rel => exact ⟨i + 1, by have := Hi.out; omega, rfl, by rw [Hp.out]; exact Hown.out, hbel⟩
    · obtain rfl : i = l.length := by omega
      have e1 : ptB hs[l.length]? = .pointer none := ptB_none (by rw [Htt.out.len]; exact Nat.le_refl _)
      rw [e1]
      obtain ⟨ad, cap, rfl, hrd, hblk⟩ := hown.row
      have Hrd := Lib.hid hrd
      have Hblk := Lib.hid hblk
      clear e1 hown hrd hblk
      go_wp2
      go_ret
      exact ⟨ad, cap, rfl, Hrd.out, Hblk.out, hbel⟩

end Go.Proofs.Ytfdaaeapfeajjaa
