/- Draws: parts of a road (l92Parts). -/
import Derived.Test.YthdkjjfnockldaaDA
import Derived.Test.YthdkjjfnockldaaDK
import Derived.Test.YthdkjjfnockldaaPA
import Derived.Deep.LoopGhost
import Derived.Deep.AppendLies
namespace Go.Proofs.Ythdkjjfnockldaa
open Go.RowKit

theorem list_ofP {Q : Nat → Pt → Prop} : ∀ (n : Nat), (∀ i, i < n → ∃ x, Q i x) → ∃ l : List Pt, l.length = n ∧ ∀ i, i < n → Q i (l.getD i pt0)
  | 0, _ => ⟨[], rfl, fun i h => by cases h⟩
  | n + 1, h => by
    obtain ⟨l, hl, hq⟩ := list_ofP n (fun i hi => h i (by omega))
    obtain ⟨x, hx⟩ := h n (by omega)
    refine ⟨l ++ [x], by simp [hl], fun i hi => ?_⟩
    by_cases hin : i < n
    · rw [Pt.getD_snoc_lt l x (by omega)]; exact hq i hin
    · obtain rfl : i = n := by omega
      rw [Pt.getD_snoc_eq l x hl.symm]; exact hx

theorem IntRow.parts {w : World} {b n m : Nat} (h : IntRow w b m) (hm : n * 2 ≤ m) : ∃ xs : List Pt, xs.length = n ∧ PtAt w b 0 xs ∧ Room w b (xs.length * 2) := by
  obtain ⟨xs, hl, hq⟩ := list_ofP (Q := fun i r => w.cell? ⟨b, 0 + i * 2, none⟩ = some (.int .i64 r.a) ∧ w.cell? ⟨b, 0 + i * 2 + 1, none⟩ = some (.int .i64 r.b)) n (fun i hi => by
    obtain ⟨z0, h0⟩ := h.1 (0 + i * 2) (by omega)
    obtain ⟨z1, h1⟩ := h.1 (0 + i * 2 + 1) (by omega)
    exact ⟨⟨z0, z1⟩, h0, h1⟩)
  refine ⟨xs, hl, fun i hi => hq i (by omega), fun j hj => ?_, h.2⟩
  obtain ⟨z, hz⟩ := h.1 j (by omega)
  exact ⟨_, hz⟩

theorem RowPt.cap {w : World} {B : Nat} {v : Value} {l : List Pt} (h : RowPt w B v l) (hl : 0 < l.length) : ∃ (b cap : Nat), v = .slice (some ⟨b, 0, none⟩) l.length cap ∧ l.length ≤ cap ∧ B ≤ b ∧ b < w.heap.size ∧ IntRow w b (l.length * 2) := by
  obtain ⟨ad, cp, hv, hcp, hrd, hblk⟩ := h.row
  obtain ⟨b, rfl, hb, hr, hroom⟩ := hrd (by rintro rfl; simp at hl)
  refine ⟨b, cp, hv, hcp, (hblk b ⟨0, rfl⟩).1, hb, fun j hj => ?_, hroom.2⟩
  obtain ⟨c0, c1⟩ := hr (j / 2) (by omega)
  have hm : j % 2 = 0 ∨ j % 2 = 1 := by omega
  rcases hm with h | h
  · exact ⟨_, by rw [show j = 0 + j / 2 * 2 by omega]; exact c0⟩
  · exact ⟨_, by rw [show j = 0 + j / 2 * 2 + 1 by omega]; exact c1⟩

theorem RowPt.grown {w w' : World} {B g : Nat} {v : Value} {l : List Pt} (h : RowPt w B v l) (hg : w.grownBy w' (some g)) (hB : g < B) : RowPt w' B v l := by
  obtain ⟨h1, h2⟩ := h
  refine ⟨h1, ?_⟩
  rcases h2 with h0 | ⟨b, cap, cur, rfl, hb, hh, r⟩
  · exact .inl h0
  · exact .inr ⟨b, cap, cur, rfl, hb, (hg.block b (Array.getElem?_eq_some_iff.1 hh).1 (fun e => by injection e with e; omega)).trans hh, r⟩

/-- What drawn parts are. -/
def DrawnP (g : Nat) (l : List Int) (p : Nat) (w : World) (e : Ending) (w' : World) : Prop :=
  ∃ (ad : Option Addr) (cap : Nat) (xs : List Pt) (p' : Nat), e = .returned (.slice ad xs.length cap) ∧ xs.length ≤ cap ∧ xs.length ≤ 8 ∧ OwnPt w' ad xs ∧
    (∀ j, inBlk ad j → w.heap.size ≤ j ∧ j < w'.heap.size) ∧ Reader w' g l p' ∧ p' ≤ p + 40 ∧ Touch (fun j => j = g) w w'

theorem drawn_finP {w wf : World} {g : Nat} {l : List Int} {p p' b cap i m : Nat} (hrow : IntRow wf b m) (hm : i * 2 ≤ m) (hic : i ≤ cap) (hi8 : i ≤ 8) (hB : w.heap.size ≤ b) (hbl : b < wf.heap.size) (hr : Reader wf g l p') (hp : p' ≤ p + 40) (ht : Touch (fun j => j = g) w wf) :
    DrawnP g l p w (.returned (.slice (some ⟨b, 0, none⟩) i cap)) wf := by
  obtain ⟨xs, hl, hra, hroom⟩ := hrow.parts hm
  exact ⟨some ⟨b, 0, none⟩, cap, xs, p', by rw [hl], by omega, by omega, fun _ => ⟨b, rfl, hbl, hra, hroom⟩, fun j hj => by obtain ⟨o, ho⟩ := hj; cases ho; exact ⟨hB, hbl⟩, hr, hp, ht⟩

def PdRel (g : Nat) (l : List Int) (p : Nat) (n : Int) (w : World) (v iv : Value) (wr : World) : Prop :=
  ∃ (i : Nat) (xs : List Pt), (i : Int) ≤ n ∧ iv = .int .i64 i ∧ xs.length = i ∧ RowPt wr w.heap.size v xs ∧ Reader wr g l (p + 1 + 2 * i) ∧ Touch (fun j => j = g) w wr

set_option maxRecDepth 100000 in
set_option maxHeartbeats 2000000 in
theorem parts92_any (g : Nat) (l : List Int) (p : Nat) (w : World) (h : Reader w g l p) (hp : p ≤ 1000) :
    Calls Try.prog 47 #[.pointer (some ⟨g, 0, none⟩)] w (DrawnP g l p w) := by
  obtain ⟨i0, hi0, hz0, hz1, hz2⟩ := info_parts infoPt
  have hgl := h.lt
  have hb0 : Below w.heap.size w (w.alloc (.cells #[] 41)) := (Below.refl _ _).alloc (Nat.le_refl _) _
  have Hr0 := Lib.hid (h.belowB hb0 hgl)
  have Hown0 := Lib.hid (RowPt.made w w.heap.size (Nat.le_refl _))
  have HT0 := Lib.hid (Touch.of_below (S := fun j => j = g) hb0)
  clear h hb0
  go_enter Try.func47, Try.ntmps47
  go_wp2_with fail
  refine (pick_any g l p 6 _ Hr0.out (by omega) (by omega)).mono ?_; rintro e w1 ⟨⟨n0, rfl, hn0, hn1⟩, hr1, hg1⟩
  have hn6 : n0 < 6 := by omega
  clear hn1
  have HT1 := Lib.hid (HT0.out.trans (Touch.grown hg1 rfl))
  have Hown1 := Lib.hid (Hown0.out.grown hg1 hgl)
  have Hr1 := Lib.hid hr1
  clear hr1 hg1
  have hnw : wrap64 (1 + n0) = 1 + n0 := wrap64_ok (by omega) (by omega)
  obtain ⟨n, hn⟩ : ∃ n, n = 1 + n0 := ⟨_, rfl⟩
  have hn2 : 1 ≤ n := by omega
  have hn7 : n ≤ 6 := by omega
  go_wp2
  rw [← hn]
  have Hn := Lib.hid hn
  clear hn hnw
  go_loopw [3, 5] (fun v iv wr => PdRel g l p n w v iv wr) (fun _ i _ => 10 - (intOf i).toNat)
  case atStart => exact ⟨0, [], by omega, rfl, rfl, Hown1.out, Hr1.out, HT1.out⟩
  case round =>
    obtain ⟨i, xs, hin, rfl, hxl, hown, hrd, htc⟩ := hrel
    have Hown := Lib.hid hown; clear hown
    have Hrd := Lib.hid hrd; clear hrd
    have Htc := Lib.hid htc; clear htc
    have Hxl := Lib.hid hxl; clear hxl
    by_cases hgo : (i : Int) < n
    · go_wp2_with fail
      refine (pick_any g l (p + 1 + 2 * i) 4 _ Hrd.out (by omega) (by omega)).mono ?_; rintro e w3 ⟨⟨a, rfl, ha0, ha1⟩, hr3, hg3⟩
      have ha3 : a < 4 := by omega
      clear ha1
      have HT3 := Lib.hid (Htc.out.trans (Touch.grown hg3 rfl))
      have Hown3 := Lib.hid (Hown.out.grown hg3 hgl)
      have Hr3 := Lib.hid hr3
      clear hr3 hg3
      go_wp2_with fail
      refine (pick_any g l (p + 1 + 2 * i + 1) 9 _ Hr3.out (by omega) (by omega)).mono ?_; rintro e w4 ⟨⟨c, rfl, hc0, hc1⟩, hr4, hg4⟩
      have hc9 : c < 9 := by omega
      clear hc1
      have HT4 := Lib.hid (HT3.out.trans (Touch.grown hg4 rfl))
      have hown4 := Hown3.out.grown hg4 hgl
      have Hr4 := Lib.hid (show Reader w4 g l (p + 1 + 2 * (i + 1)) from by have h := hr4; rw [show p + 1 + 2 * i + 1 + 1 = p + 1 + 2 * (i + 1) by omega] at h; exact h)
      clear hr4 hg4
      unfold RowPt at hown4
      have hxl' : xs.length ≤ 100 := by rw [Hxl.out]; omega
      have hT4s := HT4.out.size
      have hcw : wrap64 (1 + c) = 1 + c := wrap64_ok (by omega) (by omega)
      go_wp2_with (at_builtin; (refine wpList_append_own _ rfl _ _ 23 rfl w.heap.size 41 i0 _ 2 16 Try.underlying23 hi0 hz0 hz1 hz2 rfl (by omega) _ _ (encPt xs) rfl (World.ownsRow.alloc hown4 _) ⟨w4.heap.size, 0, none⟩ 1 1 [.int .i64 a, .int .i64 (1 + c)] rfl rfl (World.news_of_block (cs := #[.int .i64 a, .int .i64 (1 + c)]) (t := 41) (fr := (0, 0)) (heap_alloc_new w4 _)) (by simp [Value.oneCell']) (by unfold maxLen; omega) (by omega) (by simp; omega) ?_; intro v' w5 hown5 hgrow _))
      have hB5 : Below w.heap.size w4 w5 := (((Below.refl _ _).alloc hT4s _).grown hgrow (by simp; omega) (fun j hj => (hown4.lt j hj).1))
      have Hr5 := Lib.hid (Hr4.out.belowB hB5 hgl)
      have HT5 := Lib.hid (HT4.out.belowB hB5)
      have hown6 : RowPt w5 w.heap.size v' (xs ++ [⟨a, 1 + c⟩]) := RowPt.snoc hown5
      have Hown5 := Lib.hid hown6
      clear hown6 hown5 hgrow hown4 hB5
      go_wp2
      exact ⟨⟨i + 1, xs ++ [⟨a, 1 + c⟩], by omega, by go_num, by simp [Hxl.out], Hown5.out, Hr5.out, HT5.out⟩, by simp [intOf]; omega⟩
    · have hIn : (i : Int) = n := by omega
      obtain rfl : n = (i : Int) := hIn.symm
      clear hgo hin hn0
      have hx := Hxl.out
      obtain ⟨b, cap, rfl, hcap, hB, hbl, hrow⟩ := Hown.out.cap (by omega)
      rw [hx] at hcap hrow ⊢
      have hgb : g < b := by omega
      have Hrow := Lib.hid hrow
      have hi1 : 1 ≤ i := by omega
      have hi6 : i ≤ 6 := by omega
      clear hrow hx
      go_wp2_with fail
      refine (pick_any g l (p + 1 + 2 * i) 40 _ Hrd.out (by omega) (by omega)).mono ?_; rintro e wz ⟨⟨c, rfl, hc0, hc1⟩, hrz, hgz⟩
      have HTz := Lib.hid (Htc.out.trans (Touch.grown hgz rfl))
      have hrowz := Hrow.out.touch (Touch.grown (S := fun j => j = g) hgz rfl) (by omega) hbl
      have hblz : b < wz.heap.size := Nat.lt_of_lt_of_le hbl hgz.size
      have Hrz := Lib.hid hrz
      have Hrowz := Lib.hid hrowz
      clear hrz hgz hrowz hc1
      by_cases q0 : c = 0
      · subst q0
        have hBz : Below wz.heap.size wz (wz.alloc (.cells #[.int .i64 0, .int .i64 100, .int .i64 99] 3)) := (Below.refl _ _).alloc (Nat.le_refl _) _
        have Hrz2 := Lib.hid (Hrz.out.belowB hBz Hrz.out.lt)
        have HTz2 := Lib.hid (HTz.out.belowB (hBz.mono HTz.out.size))
        have hrowa := Hrowz.out.touch (Touch.of_below (S := fun j => j = g) hBz) (by omega) hblz
        have hgz2 : g ≠ wz.heap.size := by have := Hrz.out.lt; omega
        go_wp2_with fail
        refine (pick_any g l (p + 1 + 2 * i + 1) 3 _ Hrz2.out (by omega) (by omega)).mono ?_; rintro e wy ⟨⟨d, rfl, hd0, hd1⟩, hry, hgy⟩
        have hd3 : d < 3 := by omega
        clear hd1
        have hrowy := hrowa.touch (Touch.grown (S := fun j => j = g) hgy rfl) (by omega) (by simp; omega)
        have y0 : wy.cell? ⟨wz.heap.size, 0, none⟩ = some (.int .i64 0) := (World.cell?_of_block (a := ⟨wz.heap.size, 0, none⟩) (hgy.block _ (by simp) (by intro e; injection e with e; exact hgz2 e.symm))).trans (by go_simp)
        have y1 : wy.cell? ⟨wz.heap.size, 1, none⟩ = some (.int .i64 100) := (World.cell?_of_block (a := ⟨wz.heap.size, 1, none⟩) (hgy.block _ (by simp) (by intro e; injection e with e; exact hgz2 e.symm))).trans (by go_simp)
        have y2 : wy.cell? ⟨wz.heap.size, 2, none⟩ = some (.int .i64 99) := (World.cell?_of_block (a := ⟨wz.heap.size, 2, none⟩) (hgy.block _ (by simp) (by intro e; injection e with e; exact hgz2 e.symm))).trans (by go_simp)
        have hbly : b < wy.heap.size := Nat.lt_of_lt_of_le hblz (Nat.le_trans hBz.size hgy.size)
        have HTy := Lib.hid (HTz2.out.trans (Touch.grown hgy rfl))
        have Hry := Lib.hid hry
        obtain ⟨zz, ez⟩ := hrowy.1 1 (by omega)
        have fz := hrowy.2 1
        have Hrowy := Lib.hid hrowy
        have hpos : (0 : Int) < (i : Int) := by omega
        clear hry hgy hrowy hrowa hBz
        rcases (by omega : d = 0 ∨ d = 1 ∨ d = 2) with rfl | rfl | rfl
        all_goals
          go_wp2
          go_ret
          exact drawn_finP (Hrowy.out.set 1 _) (by omega) (by omega) (by omega) hB (by simpa using hbly) (Hry.out.setFar hgb _ _) (by omega) (HTy.out.setNew hB _ _)
      · have q0' : (c == 0) = false := by simpa using q0
        by_cases q1 : c = 1
        · subst q1
          have hBz : Below wz.heap.size wz (wz.alloc (.cells #[.int .i64 (-1), .int .i64 6] 3)) := (Below.refl _ _).alloc (Nat.le_refl _) _
          have Hrz2 := Lib.hid (Hrz.out.belowB hBz Hrz.out.lt)
          have HTz2 := Lib.hid (HTz.out.belowB (hBz.mono HTz.out.size))
          have hrowa := Hrowz.out.touch (Touch.of_below (S := fun j => j = g) hBz) (by omega) hblz
          have hgz2 : g ≠ wz.heap.size := by have := Hrz.out.lt; omega
          go_wp2_with fail
          refine (pick_any g l (p + 1 + 2 * i + 1) 2 _ Hrz2.out (by omega) (by omega)).mono ?_; rintro e wy ⟨⟨d, rfl, hd0, hd1⟩, hry, hgy⟩
          have hd2 : d < 2 := by omega
          clear hd1
          have hrowy := hrowa.touch (Touch.grown (S := fun j => j = g) hgy rfl) (by omega) (by simp; omega)
          have y0 : wy.cell? ⟨wz.heap.size, 0, none⟩ = some (.int .i64 (-1)) := (World.cell?_of_block (a := ⟨wz.heap.size, 0, none⟩) (hgy.block _ (by simp) (by intro e; injection e with e; exact hgz2 e.symm))).trans (by go_simp)
          have y1 : wy.cell? ⟨wz.heap.size, 1, none⟩ = some (.int .i64 6) := (World.cell?_of_block (a := ⟨wz.heap.size, 1, none⟩) (hgy.block _ (by simp) (by intro e; injection e with e; exact hgz2 e.symm))).trans (by go_simp)
          have hbly : b < wy.heap.size := Nat.lt_of_lt_of_le hblz (Nat.le_trans hBz.size hgy.size)
          have HTy := Lib.hid (HTz2.out.trans (Touch.grown hgy rfl))
          have Hry := Lib.hid hry
          obtain ⟨zz, ez⟩ := hrowy.1 0 (by omega)
          have fz := hrowy.2 0
          have Hrowy := Lib.hid hrowy
          have hpos : (0 : Int) < (i : Int) := by omega
          clear hry hgy hrowy hrowa hBz
          rcases (by omega : d = 0 ∨ d = 1) with rfl | rfl
          all_goals
            go_wp2
            go_ret
            exact drawn_finP (Hrowy.out.set 0 _) (by omega) (by omega) (by omega) hB (by simpa using hbly) (Hry.out.setFar hgb _ _) (by omega) (HTy.out.setNew hB _ _)
        · have q1' : (c == 1) = false := by simpa using q1
          by_cases q2 : c = 2
          · subst q2
            have hBz : Below wz.heap.size wz (wz.alloc (.cells #[] 41)) := (Below.refl _ _).alloc (Nat.le_refl _) _
            clear q0 q1
            go_wp2
            go_ret
            exact ⟨some ⟨wz.heap.size, 0, none⟩, 0, [], _, rfl, Nat.le_refl _, by simp, OwnPt.nil, fun j hj => by obtain ⟨o, ho⟩ := hj; cases ho; exact ⟨HTz.out.size, by simp⟩, Hrz.out.belowB hBz Hrz.out.lt, by omega, HTz.out.belowB (hBz.mono HTz.out.size)⟩
          · have q2' : (c == 2) = false := by simpa using q2
            clear q0 q1 q2
            go_wp2
            go_ret
            exact drawn_finP Hrowz.out (by omega) (by omega) (by omega) hB hblz Hrz.out (by omega) HTz.out

end Go.Proofs.Ythdkjjfnockldaa
