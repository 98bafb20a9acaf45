/- Draws: runs (l91Runs), a rest (l91Rest). -/
import Derived.Test.YtmcapcclnkicbabDA
import Derived.Test.YtmcapcclnkicbabUA
import Derived.Deep.LoopGhost
import Derived.Deep.AppendLies
namespace Go.Proofs.Ytmcapcclnkicbab
open Go.RowKit

/-- m numbers lie in w from ⟨b, 0⟩ on, free to write. -/
def IntRow (w : World) (b m : Nat) : Prop := (∀ j, j < m → ∃ z : Int, w.cell? ⟨b, j, none⟩ = some (.int .i64 z)) ∧ ∀ o, w.frozen? ⟨b, o, none⟩ = false

theorem IntRow.set {w : World} {b m : Nat} (h : IntRow w b m) (k : Nat) (z : Int) : IntRow (w.setCell ⟨b, k, none⟩ (.int .i64 z)) b m := by
  refine ⟨fun j hj => ?_, fun o => by rw [World.frozen?_setCell]; exact h.2 o⟩
  obtain ⟨u, hu⟩ := h.1 j hj
  by_cases e : k = j
  · subst e; exact ⟨z, World.cell?_setCell_same _ _ _ hu⟩
  · exact ⟨u, by rw [World.cell?_setCell_other _ _ _ _ (by intro e'; injection e' with _ e'; exact e e')]; exact hu⟩

theorem IntRow.touch {w w' : World} {b m : Nat} {S : Nat → Prop} (h : IntRow w b m) (ht : Touch S w w') (hS : ¬ S b) (hb : b < w.heap.size) : IntRow w' b m := by
  have hk := ht.block b hb hS
  exact ⟨fun j hj => by obtain ⟨z, hz⟩ := h.1 j hj; exact ⟨z, by rw [World.cell?_of_block (a := ⟨b, j, none⟩) hk]; exact hz⟩, fun o => by rw [World.frozen?_of_block (a := ⟨b, o, none⟩) hk]; exact h.2 o⟩

theorem list_ofU {Q : Nat → Rn → Prop} : ∀ (n : Nat), (∀ i, i < n → ∃ x, Q i x) → ∃ l : List Rn, l.length = n ∧ ∀ i, i < n → Q i (l.getD i rn0)
  | 0, _ => ⟨[], rfl, fun i h => by cases h⟩
  | n + 1, h => by
    obtain ⟨l, hl, hq⟩ := list_ofU n (fun i hi => h i (by omega))
    obtain ⟨x, hx⟩ := h n (by omega)
    refine ⟨l ++ [x], by simp [hl], fun i hi => ?_⟩
    by_cases hin : i < n
    · rw [Rn.getD_snoc_lt l x (by omega)]; exact hq i hin
    · obtain rfl : i = n := by omega
      rw [Rn.getD_snoc_eq l x hl.symm]; exact hx

theorem IntRow.runs {w : World} {b n m : Nat} (h : IntRow w b m) (hm : n * 2 ≤ m) : ∃ xs : List Rn, xs.length = n ∧ RnAt w b 0 xs ∧ Room w b (xs.length * 2) := by
  obtain ⟨xs, hl, hq⟩ := list_ofU (Q := fun i r => w.cell? ⟨b, 0 + i * 2, none⟩ = some (.int .i64 r.a) ∧ w.cell? ⟨b, 0 + i * 2 + 1, none⟩ = some (.int .i64 r.b)) n (fun i hi => by
    obtain ⟨z0, h0⟩ := h.1 (0 + i * 2) (by omega)
    obtain ⟨z1, h1⟩ := h.1 (0 + i * 2 + 1) (by omega)
    exact ⟨⟨z0, z1⟩, h0, h1⟩)
  refine ⟨xs, hl, fun i hi => hq i (by omega), fun j hj => ?_, h.2⟩
  obtain ⟨z, hz⟩ := h.1 j (by omega)
  exact ⟨_, hz⟩

theorem RowRn.cap {w : World} {B : Nat} {v : Value} {l : List Rn} (h : RowRn w B v l) (hl : 0 < l.length) : ∃ (b cap : Nat), v = .slice (some ⟨b, 0, none⟩) l.length cap ∧ l.length ≤ cap ∧ B ≤ b ∧ b < w.heap.size ∧ IntRow w b (l.length * 2) := by
  obtain ⟨ad, cp, hv, hcp, hrd, hblk⟩ := h.row
  obtain ⟨b, rfl, hb, hr, hroom⟩ := hrd (by rintro rfl; simp at hl)
  refine ⟨b, cp, hv, hcp, (hblk b ⟨0, rfl⟩).1, hb, fun j hj => ?_, hroom.2⟩
  obtain ⟨c0, c1⟩ := hr (j / 2) (by omega)
  have hm : j % 2 = 0 ∨ j % 2 = 1 := by omega
  rcases hm with h | h
  · exact ⟨_, by rw [show j = 0 + j / 2 * 2 by omega]; exact c0⟩
  · exact ⟨_, by rw [show j = 0 + j / 2 * 2 + 1 by omega]; exact c1⟩

theorem RowRn.grown {w w' : World} {B g : Nat} {v : Value} {l : List Rn} (h : RowRn w B v l) (hg : w.grownBy w' (some g)) (hB : g < B) : RowRn w' B v l := by
  obtain ⟨h1, h2⟩ := h
  refine ⟨h1, ?_⟩
  rcases h2 with h0 | ⟨b, cap, cur, rfl, hb, hh, r⟩
  · exact .inl h0
  · exact .inr ⟨b, cap, cur, rfl, hb, (hg.block b (Array.getElem?_eq_some_iff.1 hh).1 (fun e => by injection e with e; omega)).trans hh, r⟩

theorem wrap64_ok {x : Int} (h0 : -9223372036854775808 ≤ x) (h1 : x ≤ 9223372036854775807) : wrap64 x = x := by
  unfold wrap64
  omega

/-- What drawn runs are. -/
def DrawnU (g : Nat) (l : List Int) (p : Nat) (w : World) (e : Ending) (w' : World) : Prop :=
  ∃ (ad : Option Addr) (cap : Nat) (xs : List Rn) (p' : Nat), e = .returned (.slice ad xs.length cap) ∧ xs.length ≤ cap ∧ xs.length ≤ 8 ∧ OwnRn w' ad xs ∧
    (∀ j, inBlk ad j → w.heap.size ≤ j ∧ j < w'.heap.size) ∧ Reader w' g l p' ∧ p' ≤ p + 40 ∧ Touch (fun j => j = g) w w'

theorem drawn_finU {w wf : World} {g : Nat} {l : List Int} {p p' b cap i m : Nat} (hrow : IntRow wf b m) (hm : i * 2 ≤ m) (hic : i ≤ cap) (hi8 : i ≤ 8) (hB : w.heap.size ≤ b) (hbl : b < wf.heap.size) (hr : Reader wf g l p') (hp : p' ≤ p + 40) (ht : Touch (fun j => j = g) w wf) :
    DrawnU g l p w (.returned (.slice (some ⟨b, 0, none⟩) i cap)) wf := by
  obtain ⟨xs, hl, hra, hroom⟩ := hrow.runs hm
  exact ⟨some ⟨b, 0, none⟩, cap, xs, p', by rw [hl], by omega, by omega, fun _ => ⟨b, rfl, hbl, hra, hroom⟩, fun j hj => by obtain ⟨o, ho⟩ := hj; cases ho; exact ⟨hB, hbl⟩, hr, hp, ht⟩

theorem Touch.belowB {S : Nat → Prop} {w w1 w2 : World} (h : Touch S w w1) (hb : Below w.heap.size w1 w2) : Touch S w w2 :=
  ⟨hb.os.trans h.os, hb.tape.trans h.tape, hb.output.trans h.output, Nat.le_trans h.size hb.size, fun j hj hs => (hb.block j hj).trans (h.block j hj hs)⟩

theorem Touch.setNew {S : Nat → Prop} {w w1 : World} (h : Touch S w w1) {b : Nat} (hb : w.heap.size ≤ b) (k : Nat) (v : Value) : Touch S w (w1.setCell ⟨b, k, none⟩ v) :=
  h.belowB ((Below.refl _ _).setCell hb _)

theorem Reader.setFar {w : World} {g : Nat} {l : List Int} {p : Nat} (h : Reader w g l p) {b : Nat} (hb : g < b) (k : Nat) (v : Value) : Reader (w.setCell ⟨b, k, none⟩ v) g l p :=
  h.belowB (B := b) (show Below b w (w.setCell ⟨b, k, none⟩ v) from (Below.refl b w).setCell (p := ⟨b, k, none⟩) (Nat.le_refl b) v) hb

def URel (g : Nat) (l : List Int) (p : Nat) (n : Int) (w : World) (v tv iv : Value) (wr : World) : Prop :=
  ∃ (i : Nat) (xs : List Rn) (t : Int), (i : Int) ≤ n ∧ iv = .int .i64 i ∧ xs.length = i ∧ tv = .int .i64 t ∧ 0 ≤ t ∧ t ≤ 50 + 40 * i ∧
    RowRn wr w.heap.size v xs ∧ Reader wr g l (p + 2 + 3 * i) ∧ Touch (fun j => j = g) w wr

set_option maxRecDepth 100000 in
set_option maxHeartbeats 2000000 in
theorem runs91_any (g : Nat) (l : List Int) (p : Nat) (w : World) (h : Reader w g l p) (hp : p ≤ 1000) :
    Calls Try.prog 30 #[.pointer (some ⟨g, 0, none⟩)] w (DrawnU g l p w) := by
  obtain ⟨i0, hi0, hz0, hz1, hz2⟩ := info_parts infoRn
  have hgl := h.lt
  have hb0 : Below w.heap.size w (w.alloc (.cells #[] 29)) := (Below.refl _ _).alloc (Nat.le_refl _) _
  have Hr0 := Lib.hid (h.belowB hb0 hgl)
  have Hown0 := Lib.hid (RowRn.made w w.heap.size (Nat.le_refl _))
  have HT0 := Lib.hid (Touch.of_below (S := fun j => j = g) hb0)
  clear h hb0
  go_enter Try.func30, Try.ntmps30
  go_wp2_with fail
  refine (pick_any g l p 8 _ Hr0.out (by omega) (by omega)).mono ?_; rintro e w1 ⟨⟨n, rfl, hn0, hn1⟩, hr1, hg1⟩
  have hn8 : n < 8 := by omega
  clear hn1
  have HT1 := Lib.hid (HT0.out.trans (Touch.grown hg1 rfl))
  have Hown1 := Lib.hid (Hown0.out.grown hg1 hgl)
  have Hr1 := Lib.hid hr1
  clear hr1 hg1
  go_wp2_with fail
  refine (pick_any g l (p + 1) 50 _ Hr1.out (by omega) (by omega)).mono ?_; rintro e w2 ⟨⟨y, rfl, hy0, hy1⟩, hr2, hg2⟩
  have hyn : y < 50 := by omega
  clear hy1
  have HT2 := Lib.hid (HT1.out.trans (Touch.grown hg2 rfl))
  have Hown2 := Lib.hid (Hown1.out.grown hg2 hgl)
  have Hr2 := Lib.hid hr2
  clear hr2 hg2
  go_wp2
  go_loopw [3, 5, 6] (fun v tv iv wr => URel g l p n w v tv iv wr) (fun _ _ i _ => 10 - (intOf i).toNat)
  case atStart => exact ⟨0, [], y, by omega, rfl, rfl, rfl, hy0, by omega, Hown2.out, Hr2.out, HT2.out⟩
  case round =>
    obtain ⟨i, xs, t, hin, rfl, hxl, rfl, ht0, ht1, hown, hrd, htc⟩ := hrel
    have Hown := Lib.hid hown; clear hown
    have Hrd := Lib.hid hrd; clear hrd
    have Htc := Lib.hid htc; clear htc
    have Hxl := Lib.hid hxl; clear hxl
    by_cases hgo : (i : Int) < n
    · go_wp2_with fail
      refine (pick_any g l (p + 2 + 3 * i) 60 _ Hrd.out (by omega) (by omega)).mono ?_; rintro e w3 ⟨⟨a, rfl, ha0, ha1⟩, hr3, hg3⟩
      have ha3 : a < 60 := by omega
      clear ha1
      have HT3 := Lib.hid (Htc.out.trans (Touch.grown hg3 rfl))
      have hown3 := Hown.out.grown hg3 hgl
      have Hr3 := Lib.hid hr3
      clear hr3 hg3
      unfold RowRn at hown3
      have hxl' : xs.length ≤ 100 := by rw [Hxl.out]; omega
      have hT3s := HT3.out.size
      go_wp2_with (at_builtin; (refine wpList_append_own _ rfl _ _ 23 rfl w.heap.size 29 i0 _ 2 16 Try.underlying23 hi0 hz0 hz1 hz2 rfl (by omega) _ _ (encRn xs) rfl (World.ownsRow.alloc hown3 _) ⟨w3.heap.size, 0, none⟩ 1 1 [.int .i64 t, .int .i64 (t + 1 + a)] rfl rfl (World.news_of_block (cs := #[.int .i64 t, .int .i64 (t + 1 + a)]) (t := 29) (fr := (0, 0)) (heap_alloc_new w3 _)) (by simp [Value.oneCell']) (by unfold maxLen; omega) (by omega) (by simp; omega) ?_; intro v' w5 hown5 hgrow _))
      have hB5 : Below w.heap.size w3 w5 := (((Below.refl _ _).alloc hT3s _).grown hgrow (by simp; omega) (fun j hj => (hown3.lt j hj).1))
      have Hr5 := Lib.hid (Hr3.out.belowB hB5 hgl)
      have HT5 := Lib.hid (HT3.out.belowB hB5)
      have hown6 : RowRn w5 w.heap.size v' (xs ++ [⟨t, t + 1 + a⟩]) := RowRn.snoc hown5
      have Hown5 := Lib.hid hown6
      clear hown6 hown5 hgrow hown3 hB5
      refine (pick_any g l (p + 2 + 3 * i + 1) 40 _ Hr5.out (by omega) (by omega)).mono ?_; rintro e w6 ⟨⟨c, rfl, hc0, hc1⟩, hr6, hg6⟩
      have hc40 : c < 40 := by omega
      clear hc1
      have HT6 := Lib.hid (HT5.out.trans (Touch.grown hg6 rfl))
      have Hown6 := Lib.hid (Hown5.out.grown hg6 hgl)
      have Hr6 := Lib.hid hr6
      clear hr6 hg6
      go_wp2_with fail
      refine (pick_any g l (p + 2 + 3 * i + 1 + 1) 2 _ Hr6.out (by omega) (by omega)).mono ?_; rintro e w7 ⟨⟨d, rfl, hd0, hd1⟩, hr7, hg7⟩
      have hd2 : d < 2 := by omega
      clear hd1
      have HT7 := Lib.hid (HT6.out.trans (Touch.grown hg7 rfl))
      have Hown7 := Lib.hid (Hown6.out.grown hg7 hgl)
      have Hr7 := Lib.hid (show Reader w7 g l (p + 2 + 3 * (i + 1)) from by have h := hr7; rw [show p + 2 + 3 * i + 1 + 1 + 1 = p + 2 + 3 * (i + 1) by omega] at h; exact h)
      clear hr7 hg7
      have hcd0 : 0 ≤ c * d := Int.mul_nonneg hc0 hd0
      have hcd1 : c * d ≤ 39 := by
        have h1 : c * d ≤ c * 1 := Int.mul_le_mul_of_nonneg_left (by omega) hc0
        omega
      have hw : wrap64 (c * d) = c * d := wrap64_ok (by omega) (by omega)
      have hw2 : wrap64 (t + c * d) = t + c * d := wrap64_ok (by omega) (by omega)
      go_wp2
      exact ⟨⟨i + 1, xs ++ [⟨t, t + 1 + a⟩], t + c * d, by omega, by go_num, by simp [Hxl.out], by first | rfl | rw [hw, hw2] | (simp only [hw, hw2]), by omega, by omega, Hown7.out, Hr7.out, HT7.out⟩, by simp [intOf]; omega⟩
    · have hIn : (i : Int) = n := by omega
      obtain rfl : n = (i : Int) := hIn.symm
      clear hgo hin hn0
      by_cases hi0' : i = 0
      · have hz : ((i : Int) > 0) = False := by simp; omega
        obtain ⟨ad, cap, rfl, hcap, hrd, hblk⟩ := Hown.out.row
        have Hrd2 := Lib.hid hrd; have Hblk := Lib.hid hblk; have Hcap := Lib.hid hcap
        clear hrd hblk hcap
        subst hi0'
        have hx0 : xs = [] := List.eq_nil_of_length_eq_zero Hxl.out
        subst hx0
        go_wp2
        go_ret
        exact ⟨ad, cap, [], _, rfl, Hcap.out, by simp, Hrd2.out, Hblk.out, Hrd.out, by omega, Htc.out⟩
      · obtain ⟨k, rfl⟩ : ∃ k, i = k + 1 := ⟨i - 1, by omega⟩
        have hx := Hxl.out
        obtain ⟨b, cap, rfl, hcap, hB, hbl, hrow⟩ := Hown.out.cap (by omega)
        rw [hx] at hcap hrow ⊢
        have hgb : g < b := by omega
        have Hrow := Lib.hid hrow
        clear hrow hx
        have hk0 : (0 : Int) ≤ (k : Int) := Int.natCast_nonneg _
        have hpos : ((k + 1 : Nat) : Int) > 0 := by omega
        go_wp2_with fail
        refine (pick_any g l (p + 2 + 3 * (k + 1)) 40 _ Hrd.out (by omega) (by omega)).mono ?_; rintro e wz ⟨⟨c, rfl, hc0, hc1⟩, hrz, hgz⟩
        have HTz := Lib.hid (Htc.out.trans (Touch.grown hgz rfl))
        have hrowz := Hrow.out.touch (Touch.grown (S := fun j => j = g) hgz rfl) (by omega) hbl
        have hblz : b < wz.heap.size := Nat.lt_of_lt_of_le hbl hgz.size
        have Hrz := Lib.hid hrz
        obtain ⟨z0, e0⟩ := hrowz.1 0 (by omega)
        obtain ⟨z1, e1⟩ := hrowz.1 1 (by omega)
        have f0 := hrowz.2 0
        have f1 := hrowz.2 1
        have Hrowz := Lib.hid hrowz
        clear hrz hgz hrowz hc1
        by_cases q0 : c = 0
        · subst q0
          go_wp2
          go_ret
          exact drawn_finU (Hrowz.out.set 1 _) (by omega) (by omega) (by omega) hB (by simpa using hblz) (Hrz.out.setFar hgb _ _) (by omega) (HTz.out.setNew hB _ _)
        · have q0' : (c == 0) = false := by simpa using q0
          by_cases q1 : c = 1
          · subst q1
            go_wp2
            go_ret
            exact drawn_finU (Hrowz.out.set 0 _) (by omega) (by omega) (by omega) hB (by simpa using hblz) (Hrz.out.setFar hgb _ _) (by omega) (HTz.out.setNew hB _ _)
          · have q1' : (c == 1) = false := by simpa using q1
            by_cases q2 : c = 2
            · subst q2
              clear q0 q1
              have hBz : Below wz.heap.size wz (wz.alloc (.cells #[.int .i64 10000, .int .i64 10001] 3)) := (Below.refl _ _).alloc (Nat.le_refl _) _
              have Hrz2 := Lib.hid (Hrz.out.belowB hBz Hrz.out.lt)
              have HTz2 := Lib.hid (HTz.out.belowB (hBz.mono HTz.out.size))
              have hrowa := Hrowz.out.touch (Touch.of_below (S := fun j => j = g) hBz) (by omega) hblz
              have hgz2 : g ≠ wz.heap.size := by have := Hrz.out.lt; omega
              clear e0 e1 f0 f1
              go_wp2_with fail
              refine (pick_any g l (p + 2 + 3 * (k + 1) + 1) 2 _ Hrz2.out (by omega) (by omega)).mono ?_; rintro e wy ⟨⟨d, rfl, hd0, hd1⟩, hry, hgy⟩
              have hd2 : d < 2 := by omega
              clear hd1
              have hrowy := hrowa.touch (Touch.grown (S := fun j => j = g) hgy rfl) (by omega) (by simp; omega)
              have y0 : wy.cell? ⟨wz.heap.size, 0, none⟩ = some (.int .i64 10000) := (World.cell?_of_block (a := ⟨wz.heap.size, 0, none⟩) (hgy.block _ (by simp) (by intro e; injection e with e; exact hgz2 e.symm))).trans (by go_simp)
              have y1 : wy.cell? ⟨wz.heap.size, 1, none⟩ = some (.int .i64 10001) := (World.cell?_of_block (a := ⟨wz.heap.size, 1, none⟩) (hgy.block _ (by simp) (by intro e; injection e with e; exact hgz2 e.symm))).trans (by go_simp)
              have hbly : b < wy.heap.size := Nat.lt_of_lt_of_le hblz (Nat.le_trans hBz.size hgy.size)
              have HTy := Lib.hid (HTz2.out.trans (Touch.grown hgy rfl))
              have Hry := Lib.hid hry
              obtain ⟨zz, ez⟩ := hrowy.1 (k * 2 + 1) (by omega)
              have fz := hrowy.2 (k * 2 + 1)
              have Hrowy := Lib.hid hrowy
              clear hry hgy hrowy hrowa hBz
              by_cases qd : d = 0
              · subst qd
                go_wp2
                go_ret
                exact drawn_finU (Hrowy.out.set (k * 2 + 1) _) (by omega) (by omega) (by omega) hB (by simpa using hbly) (Hry.out.setFar hgb _ _) (by omega) (HTy.out.setNew hB _ _)
              · obtain rfl : d = 1 := by omega
                go_wp2
                go_ret
                exact drawn_finU (Hrowy.out.set (k * 2 + 1) _) (by omega) (by omega) (by omega) hB (by simpa using hbly) (Hry.out.setFar hgb _ _) (by omega) (HTy.out.setNew hB _ _)
            · have q2' : (c == 2) = false := by simpa using q2
              clear q0 q1 q2
              go_wp2
              go_ret
              exact drawn_finU Hrowz.out (by omega) (by omega) (by omega) hB hblz Hrz.out (by omega) HTz.out

/-- What a drawn rest is. -/
def DrawnR (g : Nat) (l : List Int) (p : Nat) (w : World) (e : Ending) (w' : World) : Prop :=
  ∃ (x : Int) (p' : Nat), e = .returned (.int .i64 x) ∧ -1 ≤ x ∧ x ≤ 601 ∧ Reader w' g l p' ∧ p' ≤ p + 40 ∧ Touch (fun j => j = g) w w'

set_option maxRecDepth 100000 in
set_option maxHeartbeats 1000000 in
theorem rest91_any (g : Nat) (l : List Int) (p : Nat) (w : World) (h : Reader w g l p) (hp : p ≤ 1000) :
    Calls Try.prog 32 #[.pointer (some ⟨g, 0, none⟩)] w (DrawnR g l p w) := by
  have Hr0 := Lib.hid h; clear h
  go_enter Try.func32, Try.ntmps32
  go_wp2_with fail
  refine (pick_any g l p 20 _ Hr0.out (by omega) (by omega)).mono ?_; rintro e w1 ⟨⟨n, rfl, hn0, hn1⟩, hr1, hg1⟩
  have HT1 := Lib.hid (Touch.grown (S := fun j => j = g) hg1 rfl)
  have Hr1 := Lib.hid hr1
  clear hr1 hg1 hn1
  by_cases q : n = 0
  · subst q
    have hBz : Below w1.heap.size w1 (w1.alloc (.cells #[.int .i64 (-1), .int .i64 600, .int .i64 601] 3)) := (Below.refl _ _).alloc (Nat.le_refl _) _
    have Hr2 := Lib.hid (Hr1.out.belowB hBz Hr1.out.lt)
    have HT2 := Lib.hid (HT1.out.belowB (hBz.mono HT1.out.size))
    have hgz2 : g ≠ w1.heap.size := by have := Hr1.out.lt; omega
    clear hBz
    go_wp2_with fail
    refine (pick_any g l (p + 1) 3 _ Hr2.out (by omega) (by omega)).mono ?_; rintro e wy ⟨⟨d, rfl, hd0, hd1⟩, hry, hgy⟩
    have hd2 : d < 3 := by omega
    clear hd1
    have y0 : wy.cell? ⟨w1.heap.size, 0, none⟩ = some (.int .i64 (-1)) := (World.cell?_of_block (a := ⟨w1.heap.size, 0, none⟩) (hgy.block _ (by simp) (by intro e; injection e with e; exact hgz2 e.symm))).trans (by go_simp)
    have y1 : wy.cell? ⟨w1.heap.size, 1, none⟩ = some (.int .i64 600) := (World.cell?_of_block (a := ⟨w1.heap.size, 1, none⟩) (hgy.block _ (by simp) (by intro e; injection e with e; exact hgz2 e.symm))).trans (by go_simp)
    have y2 : wy.cell? ⟨w1.heap.size, 2, none⟩ = some (.int .i64 601) := (World.cell?_of_block (a := ⟨w1.heap.size, 2, none⟩) (hgy.block _ (by simp) (by intro e; injection e with e; exact hgz2 e.symm))).trans (by go_simp)
    have HTy := Lib.hid (HT2.out.trans (Touch.grown hgy rfl))
    have Hry := Lib.hid hry
    clear hry hgy
    rcases (by omega : d = 0 ∨ d = 1 ∨ d = 2) with rfl | rfl | rfl
    · go_wp2
      go_ret
      exact ⟨-1, _, rfl, by omega, by omega, Hry.out, by omega, HTy.out⟩
    · go_wp2
      go_ret
      exact ⟨600, _, rfl, by omega, by omega, Hry.out, by omega, HTy.out⟩
    · go_wp2
      go_ret
      exact ⟨601, _, rfl, by omega, by omega, Hry.out, by omega, HTy.out⟩
  · have hq : (n == 0) = false := by simpa using q
    clear q
    go_wp2_with fail
    refine (pick_any g l (p + 1) 4 _ Hr1.out (by omega) (by omega)).mono ?_; rintro e w2 ⟨⟨c, rfl, hc0, hc1⟩, hr2, hg2⟩
    have hc4 : c < 4 := by omega
    have HT2 := Lib.hid (HT1.out.trans (Touch.grown hg2 rfl))
    have Hr2 := Lib.hid hr2
    clear hr2 hg2 hc1
    go_wp2_with fail
    refine (pick_any g l (p + 1 + 1) 15 _ Hr2.out (by omega) (by omega)).mono ?_; rintro e w3 ⟨⟨d, rfl, hd0, hd1⟩, hr3, hg3⟩
    have hd15 : d < 15 := by omega
    have HT3 := Lib.hid (HT2.out.trans (Touch.grown hg3 rfl))
    have Hr3 := Lib.hid hr3
    clear hr3 hg3 hd1
    have hcd0 : 0 ≤ c * d := Int.mul_nonneg hc0 hd0
    have hcd1 : c * d ≤ 42 := by
      have h1 : c * d ≤ 3 * d := Int.mul_le_mul_of_nonneg_right (by omega) hd0
      omega
    have hw : wrap64 (c * d) = c * d := wrap64_ok (by omega) (by omega)
    go_wp2
    go_ret
    exact ⟨c * d, _, by first | rfl | rw [hw], by omega, by omega, Hr3.out, by omega, HT3.out⟩

end Go.Proofs.Ytmcapcclnkicbab
