/- The program's areDelays, slackAt, latenessFrom and its closure. -/
import Derived.Test.YtmphpbjmpokjjabSG
import Derived.Test.YtmphpbjmpokjjabIZ
import Derived.Test.YtmphpbjmpokjjabYB
import Derived.BigRegion
namespace Go.Proofs.Ytmphpbjmpokjjab
open Go.RowKit

def AdRel (ds : List Int) (w : World) (iv : Value) (wr : World) : Prop := ∃ k : Nat, k ≤ ds.length ∧ iv = .int .i64 k ∧ (∀ j, j < k → okDl (ds.getD j 0) = true) ∧ w = wr

set_option maxRecDepth 100000 in
set_option maxHeartbeats 800000 in
theorem areDl_any (v : Value) (ds : List Int) (w : World) (hv : IntsIn w v ds) (hl : ds.length ≤ 1048576) :
    Calls Try.prog 51 #[v] w fun e w' => e = .returned (.bool (allDl ds)) ∧ w' = w := by
  obtain ⟨a, cap, rfl, hcap, ha⟩ := hv
  clear hcap
  have Ha := Lib.hid ha; clear ha
  go_enter Try.func51, Try.ntmps51
  go_wp2
  go_loopw [7] (fun iv wr => AdRel ds w iv wr) (fun iv _ => ds.length - (intOf iv).toNat)
  case atStart => exact ⟨0, Nat.zero_le _, rfl, fun j hj => by omega, rfl⟩
  case round =>
    obtain ⟨k, hk, rfl, hall, hw⟩ := hrel
    obtain rfl : w = wr := hw
    by_cases hlt : k < ds.length
    · obtain ⟨b, o, rfl, hb0, hrw⟩ := Ha.out (by intro h; simp [h] at hlt)
      have c0 := hrw k hlt
      have Hno := Lib.hid (fun (h : okDl (ds.getD k 0) = false) => (show allDl ds = false by
        rw [Bool.eq_false_iff]; intro q
        have := allDl_iff.1 q (ds.getD k 0) (by rw [List.getD_eq_getElem?_getD, List.getElem?_eq_getElem hlt]; exact List.getElem_mem hlt)
        rw [h] at this; cases this))
      have Hall := Lib.hid (fun (h : okDl (ds.getD k 0) = true) (j : Nat) (hj : j < k + 1) => (show okDl (ds.getD j 0) = true from by
        by_cases e : j = k
        · rw [e]; exact h
        · exact hall j (by omega)))
      generalize ds.getD k 0 = d at *
      clear hall hrw
      by_cases h0 : d < 0
      · have hn := Lib.hid (Hno.out (by rw [Bool.eq_false_iff]; intro q; have := okDl_iff.1 q; omega))
        clear Hno Hall
        go_wp2
        go_ret
        rw [hn.out]
        exact ⟨rfl, rfl⟩
      · by_cases h1 : 300 < d
        · have hn := Lib.hid (Hno.out (by rw [Bool.eq_false_iff]; intro q; have := okDl_iff.1 q; omega))
          clear Hno Hall
          go_wp2
          go_ret
          rw [hn.out]
          exact ⟨rfl, rfl⟩
        · have ha := Lib.hid (Hall.out (okDl_iff.2 (by omega)))
          clear Hno Hall
          go_wp2
          exact ⟨⟨k + 1, hlt, by go_num, ha.out, rfl⟩, by simp [intOf]; omega⟩
    · obtain rfl : k = ds.length := by omega
      have Hd := Lib.hid (show allDl ds = true from allDl_iff.2 (fun x hx => by
        obtain ⟨i, hi, rfl⟩ := List.mem_iff_getElem.1 hx
        have := hall i hi
        rwa [List.getD_eq_getElem?_getD, List.getElem?_eq_getElem hi] at this))
      clear hall hlt hk
      go_wp2
      go_ret
      rw [Hd.out]
      exact ⟨rfl, rfl⟩

/-- The slack of a halt, by what lies ahead of it. -/
def SlkIs (pv : Option Addr) (b m least s : Int) : Prop := (pv = none ∧ s = 0) ∨ (∃ p, pv = some p ∧ s = max 0 (m - b - least))

set_option maxRecDepth 100000 in
set_option maxHeartbeats 800000 in
theorem slackAt_any (g : Nat) (pv : Option Addr) (b m least s : Int) (w : World) (c1 : w.cell? ⟨g, 1, none⟩ = some (.int .i64 b)) (c2 : w.cell? ⟨g, 2, none⟩ = some (.int .i64 m)) (c4 : w.cell? ⟨g, 4, none⟩ = some (.pointer pv))
    (h0 : 0 ≤ b) (h1 : b ≤ m) (h2 : m ≤ 10000) (l0 : 0 ≤ least) (l1 : least ≤ 300) (hs : SlkIs pv b m least s) :
    Calls Try.prog 52 #[.pointer (some ⟨g, 0, none⟩), .int .i64 least] w (Gives (.int .i64 s) w) := by
  rcases hs with ⟨rfl, rfl⟩ | ⟨p, rfl, hs⟩
  · clear c1 c2
    go_enter Try.func52, Try.ntmps52
    go_wp2
    go_ret
    exact ⟨rfl, Below.refl _ _⟩
  · have HW := Lib.hid (wait_any g b m w c1 c2 h0 h1 h2)
    clear c1 c2
    have hw : wrap64 (m - b - least) = m - b - least := by unfold wrap64; omega
    by_cases q : 0 < m - b - least
    · obtain rfl : s = m - b - least := by omega
      clear hs
      have q' : 0 ≤ m - b - least := by omega
      go_enter Try.func52, Try.ntmps52
      go_wp2_with fail
      refine HW.out.mono ?_; rintro e w1 ⟨rfl, hb1⟩
      have HB := Lib.hid hb1
      clear hb1 HW
      go_wp2
      go_ret
      exact ⟨by first | rfl | (exact ret_int (by omega)), HB.out⟩
    · obtain rfl : s = 0 := by omega
      clear hs
      have q' : m - b - least ≤ 0 := by omega
      go_enter Try.func52, Try.ntmps52
      go_wp2_with fail
      refine HW.out.mono ?_; rintro e w1 ⟨rfl, hb1⟩
      have HB := Lib.hid hb1
      clear hb1 HW
      go_wp2
      go_ret
      exact ⟨by first | rfl | (exact ret_int (by omega)), HB.out⟩

/-- latenessFrom boxes its numbers: the least stop, then the lateness. -/
theorem lateFrom_any (start least : Int) (w : World) :
    Calls Try.prog 59 #[.int .i64 start, .int .i64 least] w fun e w' => e = .returned (.func (.func 73) #[] #[.pointer (some ⟨w.heap.size + 1, 0, none⟩), .pointer (some ⟨w.heap.size, 0, none⟩)]) ∧
      Whole w' w.heap.size 3 #[.int .i64 least] ∧ Whole w' (w.heap.size + 1) 3 #[.int .i64 start] ∧ Below w.heap.size w w' ∧ w'.heap.size = w.heap.size + 2 := by
  go_enter Try.func59, Try.ntmps59
  go_wp2
  go_ret
  have hb1 : Below w.heap.size w (w.alloc (.cells #[.int .i64 least] 3)) := (Below.refl _ _).alloc (Nat.le_refl _) _
  have hm1 := Whole.made w 3 #[.int .i64 least]
  have hm2 := Whole.made (w.alloc (.cells #[.int .i64 least] 3)) 3 #[.int .i64 start]
  rw [World.size_alloc] at hm2
  exact ⟨rfl, hm1.below ((Below.refl _ _).alloc (Nat.le_refl _) _) (by simp), hm2, hb1.alloc (by simp) _, by simp⟩

theorem Touch.drewA {S : Nat → Prop} {w w' : World} (h : Touch S w w') : Touch S w w'.drew := ⟨h.os, h.tape, h.output, h.size, h.block⟩
/-- What the closure gives: by how much the coach arrives and leaves late; the latter is kept. -/
def NextOut (gl : Nat) (x y : Int) (w : World) (e : Ending) (w' : World) : Prop :=
  e = .returned (.tuple #[.int .i64 x, .int .i64 y]) ∧ Touch (fun j => j = gl) w w' ∧ Whole w' gl 3 #[.int .i64 y]

set_option maxRecDepth 100000 in
set_option maxHeartbeats 800000 in
theorem next_any (g gl gm : Nat) (pv : Option Addr) (b m least late delay s : Int) (w : World) (c1 : w.cell? ⟨g, 1, none⟩ = some (.int .i64 b)) (c2 : w.cell? ⟨g, 2, none⟩ = some (.int .i64 m)) (c4 : w.cell? ⟨g, 4, none⟩ = some (.pointer pv))
    (h0 : 0 ≤ b) (h1 : b ≤ m) (h2 : m ≤ 10000) (l0 : 0 ≤ least) (l1 : least ≤ 300) (hs : SlkIs pv b m least s) (hL : Whole w gl 3 #[.int .i64 late]) (hM : w.cell? ⟨gm, 0, none⟩ = some (.int .i64 least))
    (t0 : 0 ≤ late) (t1 : late ≤ 100000) (d0 : 0 ≤ delay) (d1 : delay ≤ 300) (s0 : 0 ≤ s) (s1 : s ≤ 10000) :
    Calls Try.prog 73 #[.pointer (some ⟨g, 0, none⟩), .int .i64 delay, .pointer (some ⟨gl, 0, none⟩), .pointer (some ⟨gm, 0, none⟩)] w (NextOut gl (late + delay) (max 0 (late + delay - s)) w) := by
  have HS := Lib.hid (fun (w' : World) (h : Below w.heap.size w w') => slackAt_any g pv b m least s w' (keepCell h c1) (keepCell h c2) (keepCell h c4) h0 h1 h2 l0 l1 hs)
  have c0 : w.cell? ⟨gl, 0, none⟩ = some (.int .i64 late) := hL.cell rfl
  have HL := Lib.hid hL
  clear c1 c2 c4 hs h0 h1 h2 hL
  go_enter Try.func73, Try.ntmps73
  go_wp2_with fail
  refine (HS.out w (Below.refl _ _)).mono ?_; rintro e w1 ⟨rfl, hb1⟩
  have c0' := keepCell hb1 c0
  have hL1 := HL.out.below hb1 HL.out.lt
  have hfz := hL1.free 0
  have HL1 := Lib.hid hL1
  have HB := Lib.hid hb1
  clear hL1 hb1 HS HL c0 hM
  by_cases q : s < late + delay
  · have Hm := Lib.hid (show max 0 (late + delay - s) = late + delay - s by omega)
    have hst : (w1.setCell ⟨gl, 0, none⟩ (.int .i64 (late + delay - s))).cell? ⟨gl, 0, none⟩ = some (.int .i64 (late + delay - s)) := ((HL1.out.set 0 _).cell rfl)
    go_wp2
    go_region
    all_goals
      go_wp2
      go_ret2
      rw [Hm.out]
      exact ⟨rfl, (Touch.setCell (S := fun j => j = gl) (Touch.of_below HB.out) (a := ⟨gl, 0, none⟩) rfl _).drewA, HL1.out.set 0 _⟩
  · have Hm := Lib.hid (show max 0 (late + delay - s) = 0 by omega)
    have q' : late + delay ≤ s := by omega
    have hst : (w1.setCell ⟨gl, 0, none⟩ (.int .i64 0)).cell? ⟨gl, 0, none⟩ = some (.int .i64 0) := ((HL1.out.set 0 _).cell rfl)
    go_wp2
    go_region
    all_goals
      go_wp2
      go_ret2
      rw [Hm.out]
      exact ⟨rfl, (Touch.setCell (S := fun j => j = gl) (Touch.of_below HB.out) (a := ⟨gl, 0, none⟩) rfl _).drewA, HL1.out.set 0 _⟩

end Go.Proofs.Ytmphpbjmpokjjab
