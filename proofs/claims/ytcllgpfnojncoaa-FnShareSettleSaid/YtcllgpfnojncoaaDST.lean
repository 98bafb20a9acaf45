/- Draws: parts and amounts taken (DrawShareSettle). -/
import Derived.Test.YtcllgpfnojncoaaDPT
import Derived.Test.YtcllgpfnojncoaaIZ
namespace Go.Proofs.Ytcllgpfnojncoaa
open Go.RowKit

theorem list_ofI {Q : Nat → Int → Prop} : ∀ (n : Nat), (∀ i, i < n → ∃ x, Q i x) → ∃ l : List Int, l.length = n ∧ ∀ i, i < n → Q i (l.getD i 0)
  | 0, _ => ⟨[], rfl, fun i h => by cases h⟩
  | n + 1, h => by
    obtain ⟨l, hl, hq⟩ := list_ofI n (fun i hi => h i (by omega))
    obtain ⟨x, hx⟩ := h n (by omega)
    refine ⟨l ++ [x], by simp [hl], fun i hi => ?_⟩
    by_cases hin : i < n
    · rw [show (l ++ [x]).getD i 0 = l.getD i 0 by simp [List.getD, List.getElem?_append_left (show i < l.length by omega)]]; exact hq i hin
    · obtain rfl : i = n := by omega
      rw [show (l ++ [x]).getD i 0 = x by simp [List.getD, ← hl]]; exact hx

theorem IntRow.ints {w : World} {b n o m : Nat} (h : IntRow w b m) (hm : o + n ≤ m) : ∃ t : List Int, t.length = n ∧ IntAt w b o t := by
  obtain ⟨t, hl, hq⟩ := list_ofI (Q := fun i x => w.cell? ⟨b, o + i, none⟩ = some (.int .i64 x)) n (fun i hi => h.1 (o + i) (by omega))
  exact ⟨t, hl, fun i hi => hq i (by omega)⟩

theorem RowI.cap {w : World} {B : Nat} {v : Value} {l : List Int} (h : RowI w B v l) (hl : 0 < l.length) : ∃ (b cap : Nat), v = .slice (some ⟨b, 0, none⟩) l.length cap ∧ l.length ≤ cap ∧ B ≤ b ∧ b < w.heap.size ∧ IntRow w b l.length := by
  obtain ⟨ad, cp, hv, hcp, hrd, hblk⟩ := h.row
  obtain ⟨b, rfl, hb, hr, hroom⟩ := hrd (by rintro rfl; simp at hl)
  refine ⟨b, cp, hv, hcp, (hblk b ⟨0, rfl⟩).1, hb, fun j hj => ?_, hroom.2⟩
  have := hr j hj
  rw [Nat.zero_add] at this
  exact ⟨_, this⟩

theorem RowI.grown {w w' : World} {B g : Nat} {v : Value} {l : List Int} (h : RowI w B v l) (hg : w.grownBy w' (some g)) (hB : g < B) : RowI w' B v l := by
  obtain ⟨h1, h2⟩ := h
  refine ⟨h1, ?_⟩
  rcases h2 with h0 | ⟨b, cap, cur, rfl, hb, hh, r⟩
  · exact .inl h0
  · exact .inr ⟨b, cap, cur, rfl, hb, (hg.block b (Array.getElem?_eq_some_iff.1 hh).1 (fun e => by injection e with e; omega)).trans hh, r⟩

/-- What is drawn for a settlement. -/
def DrawnST (w : World) (e : Ending) (w' : World) : Prop :=
  ∃ (v v' : Value) (xs : List Pt) (t : List Int), e = .returned (.tuple #[v, v']) ∧ PtIn w' v xs ∧ xs.length ≤ 8 ∧ IntsIn w' v' t ∧ t.length ≤ 6 ∧ Below w.heap.size w w'

theorem drawn_finT {w wP wf : World} {g b cap n o m : Nat} {adp : Option Addr} {capp : Nat} {xs : List Pt} (hb0 : Below w.heap.size w wP) (hcp : xs.length ≤ capp) (h8 : xs.length ≤ 8) (hown : OwnPt wP adp xs) (hblk : ∀ j, inBlk adp j → g < j) (hg : w.heap.size ≤ g) (hrow : IntRow wf b m) (hm : o + n ≤ m) (hic : n ≤ cap) (hi6 : n ≤ 6) (hbl : b < wf.heap.size) (ht : Touch (fun j => j = g) wP wf) :
    DrawnST w (.returned (.tuple #[.slice adp xs.length capp, .slice (some ⟨b, o, none⟩) n cap])) wf := by
  obtain ⟨t, hl, hat⟩ := hrow.ints hm
  refine ⟨_, _, xs, t, rfl, ((hown.touch ht (fun j hj e => by have := hblk j hj; omega))).ins hcp, h8, ⟨some ⟨b, o, none⟩, cap, by rw [hl], by omega, fun _ => ⟨b, o, rfl, hbl, hat⟩⟩, by omega, hb0.trans (ht.below (fun j hj => by rw [hj]; exact hg) hb0.size)⟩

def SdRel (g : Nat) (l : List Int) (p : Nat) (w : World) (v iv : Value) (wr : World) : Prop :=
  ∃ (i : Nat) (t : List Int), i ≤ 6 ∧ iv = .int .i64 i ∧ t.length = i ∧ RowI wr w.heap.size v t ∧ Reader wr g l (p + 2 * i) ∧ Touch (fun j => j = g) w wr

set_option maxRecDepth 100000 in
set_option maxHeartbeats 2000000 in
theorem drawShareSettle_any (v : Value) (l : List Int) (w0 : World) (hv : BytesIn w0 v l) (hm : l.length ≤ 1048576) :
    Calls Try.prog 49 #[v] w0 (DrawnST w0) := by
  obtain ⟨i0, hi0, hz0, hz1, hz2⟩ := info_parts Try.info3
  have Hv := Lib.hid hv; clear hv
  go_enter Try.func49, Try.ntmps49
  go_wp2_with fail
  refine (l6Open_any _ l _ Hv.out hm).mono ?_; rintro e w1 ⟨rfl, ⟨l', hr⟩, hb, hs⟩
  have HB1 := Lib.hid hb; have HR1 := Lib.hid hr
  clear hb hr
  obtain ⟨g, hg⟩ : ∃ g, w0.heap.size = g := ⟨_, rfl⟩
  rw [hg] at HR1
  have Hg := Lib.hid hg
  rw [hg]
  clear hg
  go_wp2_with fail
  refine (parts92_any g l' 0 _ HR1.out (by omega)).mono ?_; rintro e w ⟨adp, capp, xs, p, rfl, hcp, hx8, hown, hblk, hr2, hp, htt⟩
  have hp40 : p ≤ 40 := by omega
  have Hp := Lib.hid (And.intro (HB1.out.trans (htt.below (fun j hj => by rw [hj]; exact Nat.le_of_eq Hg.out) HB1.out.size)) (And.intro hcp (And.intro hx8 (And.intro hown (And.intro (fun j hj => Nat.lt_of_lt_of_le HR1.out.lt (hblk j hj).1) (Nat.le_of_eq Hg.out))))))
  have HR2 := Lib.hid hr2
  clear hr2 htt hown hblk hcp hx8 hp
  have hgl := HR2.out.lt
  have hb0 : Below w.heap.size w (w.alloc (.cells #[] 3)) := (Below.refl _ _).alloc (Nat.le_refl _) _
  have Hr0 := Lib.hid (HR2.out.belowB hb0 hgl)
  have Hown0 := Lib.hid (RowI.made w w.heap.size (Nat.le_refl _))
  have HT0 := Lib.hid (Touch.of_below (S := fun j => j = g) hb0)
  clear hb0
  go_wp2
  go_loopw [6, 7] (fun v iv wr => SdRel g l' p w v iv wr) (fun _ i _ => 10 - (intOf i).toNat)
  case atStart => exact ⟨0, [], by omega, rfl, rfl, Hown0.out, Hr0.out, HT0.out⟩
  case round =>
    obtain ⟨i, t, hin, rfl, hxl, hown, hrd, htc⟩ := hrel
    have Hown := Lib.hid hown; clear hown
    have Hrd := Lib.hid hrd; clear hrd
    have Htc := Lib.hid htc; clear htc
    have Hxl := Lib.hid hxl; clear hxl
    by_cases hgo : i < 6
    · go_wp2_with fail
      refine (pick_any g l' (p + 2 * i) 3 _ Hrd.out (by omega) (by omega)).mono ?_; rintro e w3 ⟨⟨a, rfl, ha0, ha1⟩, hr3, hg3⟩
      have HT3 := Lib.hid (Htc.out.trans (Touch.grown hg3 rfl))
      have Hown3 := Lib.hid (Hown.out.grown hg3 hgl)
      have Hr3 := Lib.hid hr3
      have ha3 : a < 3 := by omega
      clear hr3 hg3 ha1
      go_wp2_with fail
      refine (pick_any g l' (p + 2 * i + 1) 60 _ Hr3.out (by omega) (by omega)).mono ?_; rintro e w4 ⟨⟨c, rfl, hc0, hc1⟩, hr4, hg4⟩
      have HT4 := Lib.hid (HT3.out.trans (Touch.grown hg4 rfl))
      have hown4 := Hown3.out.grown hg4 hgl
      have Hr4 := Lib.hid (show Reader w4 g l' (p + 2 * (i + 1)) from by have h := hr4; rw [show p + 2 * i + 1 + 1 = p + 2 * (i + 1) by omega] at h; exact h)
      have hc60 : c < 60 := by omega
      clear hr4 hg4 hc1
      have hac0 : 0 ≤ a * c := Int.mul_nonneg ha0 hc0
      have hac1 : a * c ≤ 3 * 60 := Int.mul_le_mul (by omega) (by omega) hc0 (by omega)
      have hw : wrap64 (a * c) = a * c := wrap64_ok (by omega) (by omega)
      have hT4s := HT4.out.size
      unfold RowI at hown4
      have hxl' : t.length ≤ 100 := by rw [Hxl.out]; omega
      go_wp2_with (at_builtin; refine wpList_append_own _ rfl _ _ 29 rfl w.heap.size 3 i0 (.int .i64 0) 1 8 Try.underlying29 hi0 hz0 hz1 hz2 rfl (by decide) _ _ _ rfl (World.ownsRow.alloc hown4 _) ⟨w4.heap.size, 0, none⟩ 1 1 [.int .i64 (a * c)] rfl rfl (cell_one_new _ _ _) (by simp [Value.oneCell']) (by simp only [maxLen]; omega) (by omega) (by simp; omega) ?_; intro v' w5 hown5 hgrow _)
      have hB5 : Below w.heap.size w4 w5 := (((Below.refl _ _).alloc hT4s _).grown hgrow (by simp; omega) (fun j hj => (hown4.lt j hj).1))
      have Hr5 := Lib.hid (Hr4.out.belowB hB5 hgl)
      have HT5 := Lib.hid (HT4.out.belowB hB5)
      have hown6 : RowI w5 w.heap.size v' (t ++ [a * c]) := RowI.snoc hown5
      have Hown5 := Lib.hid hown6
      clear hown6 hown5 hgrow hown4 hB5
      go_wp2
      exact ⟨⟨i + 1, t ++ [a * c], by omega, by go_num, by simp [Hxl.out], Hown5.out, Hr5.out, HT5.out⟩, by simp [intOf]; omega⟩
    · obtain rfl : i = 6 := by omega
      clear hgo hin
      have hx := Hxl.out
      obtain ⟨b, cap, rfl, hcap, hB, hbl, hrow⟩ := Hown.out.cap (by omega)
      rw [hx] at hcap hrow ⊢
      have hgb : g < b := by omega
      have Hrow := Lib.hid hrow
      clear hrow hx
      go_wp2_with fail
      refine (pick_any g l' (p + 2 * 6) 24 _ Hrd.out (by omega) (by omega)).mono ?_; rintro e wz ⟨⟨c, rfl, hc0, hc1⟩, hrz, hgz⟩
      have HTz := Lib.hid (Htc.out.trans (Touch.grown hgz rfl))
      have hrowz := Hrow.out.touch (Touch.grown (S := fun j => j = g) hgz rfl) (by omega) hbl
      have hblz : b < wz.heap.size := Nat.lt_of_lt_of_le hbl hgz.size
      have Hrz := Lib.hid hrz
      have Hrowz := Lib.hid hrowz
      clear hrz hgz hrowz hc1
      by_cases q0 : c = 0
      · subst q0
        have hBz : Below wz.heap.size wz (wz.alloc (.cells #[.int .i64 (-1), .int .i64 1000000, .int .i64 1000001] 3)) := (Below.refl _ _).alloc (Nat.le_refl _) _
        have Hrz2 := Lib.hid (Hrz.out.belowB hBz Hrz.out.lt)
        have HTz2 := Lib.hid (HTz.out.belowB (hBz.mono HTz.out.size))
        have hrowa := Hrowz.out.touch (Touch.of_below (S := fun j => j = g) hBz) (by omega) hblz
        have hgz2 : g ≠ wz.heap.size := by have := Hrz.out.lt; omega
        go_wp2_with fail
        refine (pick_any g l' (p + 2 * 6 + 1) 3 _ Hrz2.out (by omega) (by omega)).mono ?_; rintro e wy ⟨⟨d, rfl, hd0, hd1⟩, hry, hgy⟩
        have hd3 : d < 3 := by omega
        clear hd1
        have hrowy := hrowa.touch (Touch.grown (S := fun j => j = g) hgy rfl) (by omega) (by simp; omega)
        have y0 : wy.cell? ⟨wz.heap.size, 0, none⟩ = some (.int .i64 (-1)) := (World.cell?_of_block (a := ⟨wz.heap.size, 0, none⟩) (hgy.block _ (by simp) (by intro e; injection e with e; exact hgz2 e.symm))).trans (by go_simp)
        have y1 : wy.cell? ⟨wz.heap.size, 1, none⟩ = some (.int .i64 1000000) := (World.cell?_of_block (a := ⟨wz.heap.size, 1, none⟩) (hgy.block _ (by simp) (by intro e; injection e with e; exact hgz2 e.symm))).trans (by go_simp)
        have y2 : wy.cell? ⟨wz.heap.size, 2, none⟩ = some (.int .i64 1000001) := (World.cell?_of_block (a := ⟨wz.heap.size, 2, none⟩) (hgy.block _ (by simp) (by intro e; injection e with e; exact hgz2 e.symm))).trans (by go_simp)
        have hbly : b < wy.heap.size := Nat.lt_of_lt_of_le hblz (Nat.le_trans hBz.size hgy.size)
        have HTy := Lib.hid (HTz2.out.trans (Touch.grown hgy rfl))
        have Hry := Lib.hid hry
        obtain ⟨zz, ez⟩ := hrowy.1 0 (by omega)
        have fz := hrowy.2 0
        have Hrowy := Lib.hid hrowy
        clear hry hgy hrowy hrowa hBz
        rcases (by omega : d = 0 ∨ d = 1 ∨ d = 2) with rfl | rfl | rfl
        all_goals
          go_wp2
          go_ret2
          exact drawn_finT Hp.out.1 Hp.out.2.1 Hp.out.2.2.1 Hp.out.2.2.2.1 Hp.out.2.2.2.2.1 Hp.out.2.2.2.2.2 (Hrowy.out.set 0 _) (by omega) (by omega) (by omega) (by simpa using hbly) (HTy.out.setNew hB _ _)
      · have q0' : (c == 0) = false := by simpa using q0
        by_cases q1 : c = 1
        · subst q1
          have hc1 : cap ≠ 1 := by omega
          clear q0
          go_wp2
          go_ret2
          exact drawn_finT Hp.out.1 Hp.out.2.1 Hp.out.2.2.1 Hp.out.2.2.2.1 Hp.out.2.2.2.2.1 Hp.out.2.2.2.2.2 Hrowz.out (by omega) (by omega) (by omega) hblz HTz.out
        · have q1' : (c == 1) = false := by simpa using q1
          clear q0 q1
          go_wp2
          go_ret2
          exact drawn_finT Hp.out.1 Hp.out.2.1 Hp.out.2.2.1 Hp.out.2.2.2.1 Hp.out.2.2.2.2.1 Hp.out.2.2.2.2.2 Hrowz.out (by omega) (by omega) (by omega) hblz HTz.out

end Go.Proofs.Ytcllgpfnojncoaa
