/- The model's LateStops. -/
import Derived.Test.YtmphpbjmpokjjaaY3
import Derived.Test.YtmphpbjmpokjjaaYB
import Derived.Test.YtmphpbjmpokjjaaZR
import Derived.BigRegion
namespace Go.Proofs.Ytmphpbjmpokjjaa
open Go.RowKit

def Ls1Rel (l : List Rd) (least start : Int) (ds : List Int) (w w2 : World) (gu gr : Nat) (v iv : Value) (wr : World) : Prop :=
  ∃ i gv cv : Nat, i ≤ l.length ∧ iv = .int .i64 i ∧ v = .slice (some ⟨gv, 0, none⟩) i cv ∧ RowTz wr w.heap.size (.slice (some ⟨gv, 0, none⟩) i cv) (lateSL l least start ds i) ∧ gv ≠ gu ∧ gv ≠ gr ∧
    (∀ j, j < l.length → wr.cell? ⟨gu, j, none⟩ = some (.int .i64 (arrV l least start ds j)) ∧ wr.cell? ⟨gr, j, none⟩ = some (.int .i64 (leaV l least start ds j))) ∧ w2.heap.size ≤ wr.heap.size ∧ Below w.heap.size w wr

theorem Whole.grown1 {w w' : World} {g : Nat} {t : TypeId} {cs : Array Value} {row : Option Nat} (h : Whole w g t cs) (hg : w.grownBy w' row) (hne : row ≠ some g) : Whole w' g t cs :=
  (hg.block g h.lt (fun e => hne e.symm)).trans h

set_option maxRecDepth 100000 in
set_option maxHeartbeats 2000000 in
theorem lateS1_any (n : Int) (v : Value) (l : List Rd) (least start : Int) (v' : Value) (ds : List Int) (w : World) (hv : RoadsIn w v l) (hl : l.length ≤ 1048576) (hv' : IntsIn w v' ds) (hd : ds.length ≤ 1048576) :
    Calls Try.prog 37 #[.int .i64 n, v, .int .i64 least, .int .i64 start, v'] w (TzOut (lateSX n l least start ds) (lateSOk n l least start ds) w) := by
  obtain ⟨i0, hi0, hz0, hz1, hz2⟩ := info_parts infoTz
  have hb0 : Below w.heap.size w (w.alloc (.cells #[] 63)) := (Below.refl _ _).alloc (Nat.le_refl _) _
  have hb00 : Below (w.alloc (.cells #[] 63)).heap.size (w.alloc (.cells #[] 63)) (w.alloc (.cells #[] 63)) := Below.refl _ _
  have HK := Lib.hid (lateOk1_any n v l least start v' ds _ (hv.below hb0) hl (hv'.below hb0) hd)
  have HR := Lib.hid (fun (h : okLate n l least start ds = true) (w' : World) (hb : Below w.heap.size w w') => run1_any v n l least start v' ds w' (hv.below hb) (hv'.below hb) h)
  have HV := Lib.hid (fun (v9 : Value) (xs : List Rd) (w' : World) (h : RoadsIn w' v9 xs) (h2 : xs.length ≤ 1048576) => valid1_any n v9 xs w' h h2)
  have HB0 := Lib.hid hb0
  have Hown0 := Lib.hid (RowTz.made w w.heap.size (Nat.le_refl _))
  obtain ⟨a, cap, rfl, ha⟩ := hv
  have Ha := Lib.hid ha
  clear hv' ha hb0 hb00
  go_enter Try.func37, Try.ntmps37
  go_wp2_with fail
  refine HK.out.mono ?_; rintro e w1 ⟨rfl, hb1⟩
  have HB1 := Lib.hid (HB0.out.trans (hb1.mono HB0.out.size))
  have Hown1 := Lib.hid (Hown0.out.below hb1)
  have hlt1 : w.heap.size < w1.heap.size := Nat.lt_of_lt_of_le (by simp) hb1.size
  clear hb1 HK Hown0 HB0
  cases hok : okLate n l least start ds with
  | false =>
    have ho := Lib.hid (show lateSOk n l least start ds = false by unfold lateSOk; rw [hok]; rfl)
    have hx := Lib.hid (lateSX_no ho.out)
    clear hok HR
    go_wp2
    go_ret2
    rw [hx.out, ho.out]
    exact TzOut.no (Nat.le_refl _) hlt1 HB1.out
  | true =>
    have h2 := okLate_2 hok
    have Hok := Lib.hid hok
    have HRk := Lib.hid (HR.out hok w1 HB1.out)
    have Hvl := Lib.hid (fun (i : Nat) (hi : i < l.length) => validS_at (okLate_iff.1 hok).2.1 hi)
    have Hbd := Lib.hid (fun i => okLate_bd hok i)
    obtain ⟨b, o, rfl, hb0, hrw⟩ := Ha.out (by rintro rfl; simp at h2)
    have Hrw := Lib.hid hrw
    obtain ⟨l2, l8⟩ := h2
    clear hok HR hrw Ha
    go_wp2_with fail
    refine HRk.out.mono ?_; rintro e w2 ⟨u, r, rfl, hu, hr, hb2⟩
    obtain ⟨gu, cu, rfl, hcu, hatu⟩ := hu.open (by rw [arrL_len]; omega)
    obtain ⟨gr, cr, rfl, hcr, hatr⟩ := hr.open (by rw [leaL_len]; omega)
    have hgu := (hu.lt gu rfl).2
    have hgr := (hr.lt gr rfl).2
    have HAL := Lib.hid (fun (j : Nat) (hj : j < l.length) => (show w2.cell? ⟨gu, j, none⟩ = some (.int .i64 (arrV l least start ds j)) ∧ w2.cell? ⟨gr, j, none⟩ = some (.int .i64 (leaV l least start ds j)) from by
      have h1 := hatu j (by rw [arrL_len]; exact hj)
      have h2 := hatr j (by rw [leaL_len]; exact hj)
      rw [Nat.zero_add, arrL_at _ _ _ _ hj] at h1
      rw [Nat.zero_add, leaL_at _ _ _ _ hj] at h2
      exact ⟨h1, h2⟩))
    have hguB := (hu.lt gu rfl).1
    have hgrB := (hr.lt gr rfl).1
    have HB2 := Lib.hid (HB1.out.trans (hb2.mono HB1.out.size))
    have Hown2 := Lib.hid (Hown1.out.below hb2)
    rw [arrL_len] at hcu ⊢
    rw [leaL_len] at hcr ⊢
    have hlt2 : w.heap.size < w2.heap.size := Nat.lt_of_lt_of_le hlt1 hb2.size
    clear hu hr hb2 hatu hatr HRk Hown1
    go_wp2
    go_loopw [12, 15] (fun v iv wr => Ls1Rel l least start ds w w2 gu gr v iv wr) (fun _ iv _ => l.length - (intOf iv).toNat)
    case atStart => exact ⟨0, w.heap.size, 0, Nat.zero_le _, rfl, rfl, Hown2.out, by omega, by omega, HAL.out, Nat.le_refl _, HB2.out⟩
    case round =>
      obtain ⟨i, gv, cv, hil, rfl, rfl, hown, hn1, hn2, hcell, hz2', hbel⟩ := hrel
      by_cases hlt : i < l.length
      · obtain ⟨d0, d1, d2⟩ := (Hrw.out.below hbel hb0) i hlt
        obtain ⟨ca', cl'⟩ := hcell i hlt
        have hbox := Whole.made wr 63 #[.int .i64 (l.getD i rd0).a, .int .i64 (l.getD i rd0).b, .int .i64 (l.getD i rd0).m]
        have ca := keepCell (X := wr) ((Below.refl _ _).alloc (Nat.le_refl _) (.cells #[.int .i64 (l.getD i rd0).a, .int .i64 (l.getD i rd0).b, .int .i64 (l.getD i rd0).m] 63)) ca'
        have cl := keepCell (X := wr) ((Below.refl _ _).alloc (Nat.le_refl _) (.cells #[.int .i64 (l.getD i rd0).a, .int .i64 (l.getD i rd0).b, .int .i64 (l.getD i rd0).m] 63)) cl'
        have hsu := lateSL_succ l least start ds i
        unfold RowTz at hown
        rw [lateSL_len] at hown
        have hzr := hbel.size
        have hgvl := (hown.lt gv rfl).2
        have hguw : gu < wr.heap.size := by omega
        have hgrw : gr < wr.heap.size := by omega
        have Hcell := Lib.hid hcell
        have HclW := Lib.hid cl'
        have Hsu := Lib.hid hsu
        have Hown := Lib.hid hown
        have Hbel := Lib.hid hbel
        have e0 := hbox.cell (i := 0) rfl
        have e1 := hbox.cell (i := 1) rfl
        have e2 := hbox.cell (i := 2) rfl
        have f1 := hbox.free 1
        have f2 := hbox.free 2
        obtain ⟨_, _, b0, b1, b2, _⟩ := Hvl.out i hlt
        obtain ⟨x0, x1, y0, y1⟩ := Hbd.out i
        have hwa : IntKind.i64.wrap ((l.getD i rd0).b + arrV l least start ds i) = (l.getD i rd0).b + arrV l least start ds i := IntWalk.i64_in _ (by omega)
        have hwl : IntKind.i64.wrap ((l.getD i rd0).m + leaV l least start ds i) = (l.getD i rd0).m + leaV l least start ds i := IntWalk.i64_in _ (by omega)
        have hil' : (i : Int) < (l.length : Int) := by omega
        have hi0' : (0 : Int) ≤ (i : Int) := Int.natCast_nonneg _
        have hi8 : i ≤ 7 := by omega
        have Hlt := Lib.hid hlt
        have hse : lateS l least start ds i = ⟨(l.getD i rd0).a, if i = 0 then (l.getD i rd0).b else (l.getD i rd0).b + arrV l least start ds i, (l.getD i rd0).m + leaV l least start ds i⟩ := rfl
        rw [hse] at Hsu
        clear hsu hse hbox hown hbel hlt hcell ca' cl' b0 b1 b2 x0 x1 y0 y1
        generalize (l.getD i rd0).a = xa at *
        generalize (l.getD i rd0).b = xb at *
        generalize (l.getD i rd0).m = xm at *
        generalize arrV l least start ds i = ai at *
        generalize leaV l least start ds i = li at *
        by_cases h0 : i = 0
        · have hne0 : ¬ (0 : Int) < (i : Int) := by omega
          have H0 := Lib.hid h0
          clear h0
          have HbW := Lib.hid (show Below wr.heap.size wr (wr.alloc (.cells #[.int .i64 xa, .int .i64 xb, .int .i64 (xm + li)] 63)).drew from ((Below.refl _ _).alloc (Nat.le_refl _) _).drew)
          have HboxW := Lib.hid (show Whole (wr.alloc (.cells #[.int .i64 xa, .int .i64 xb, .int .i64 (xm + li)] 63)).drew wr.heap.size 63 #[.int .i64 xa, .int .i64 xb, .int .i64 (xm + li)] from Whole.made wr _ _)
          have Hsz := Lib.hid (show (wr.alloc (.cells #[.int .i64 xa, .int .i64 xb, .int .i64 (xm + li)] 63)).drew.heap.size = wr.heap.size + 1 from World.size_alloc _ _)
          go_wp2
          go_region
          all_goals
            generalize (wr.alloc (.cells #[.int .i64 xa, .int .i64 xb, .int .i64 (xm + li)] 63)).drew = wF at *
            have HF := Lib.hid (show Below w.heap.size w wF ∧ wF.heap.size = wr.heap.size + 1 from ⟨Hbel.out.trans (HbW.out.mono hzr), Hsz.out⟩)
            have hownF := own_keep Hown.out HbW.out
            have HcF := Lib.hid (fun (j : Nat) (hj : j < l.length) => And.intro (keepCell HbW.out (Hcell.out j hj).1) (keepCell HbW.out (Hcell.out j hj).2))
            have hzF : wF.heap.size = wr.heap.size + 1 := HF.out.2
            have HownF := Lib.hid hownF
            have hnw := Lib.hid (stop_news wF 63 xa xb (xm + li))
            have HzF := Lib.hid hzF
            have hzr2 : w.heap.size ≤ wF.heap.size := by omega
            have g0 := HboxW.out.cell (i := 0) rfl
            have g1 := HboxW.out.cell (i := 1) rfl
            have g2 := HboxW.out.cell (i := 2) rfl
            clear hownF hzF Hown HbW Hcell Hsz HboxW Hbel
            go_wp2_with (at_builtin; refine wpList_append_lies _ rfl _ _ 27 rfl w.heap.size 63 i0 _ 3 24 Try.underlying27 hi0 hz0 hz1 hz2 rfl (by decide) _ i _ rfl (World.ownsRow.alloc HownF.out _) ⟨wF.heap.size, 0, none⟩ 1 1 [.int .i64 xa, .int .i64 xb, .int .i64 (xm + li)] rfl rfl hnw.out (by simp [Value.oneCell']) (by decide) (by simp only [maxLen]; omega) (by omega) (by simp; omega) _ rfl ?_; intro g8 cp8 w8 hown8 hgrow8 hlie8 hlt8)
            have hg8 : World.grownBy (wF.alloc (.cells #[.int .i64 xa, .int .i64 xb, .int .i64 (xm + li)] 63)) w8 (some gv) := hgrow8
            have hl8 : some gv = some g8 ∨ g8 = (wF.alloc (.cells #[.int .i64 xa, .int .i64 xb, .int .i64 (xm + li)] 63)).heap.size := hlie8
            rw [World.size_alloc] at hl8
            have hz8 := hg8.size
            rw [World.size_alloc] at hz8
            have hc8 : ∀ j, j < l.length → w8.cell? ⟨gu, j, none⟩ = some (.int .i64 (arrV l least start ds j)) ∧ w8.cell? ⟨gr, j, none⟩ = some (.int .i64 (leaV l least start ds j)) := fun j hj => by
              have hzF := HzF.out
              have k1 := keepCell (X := wF) ((Below.refl _ _).alloc (Nat.le_refl _) (.cells #[.int .i64 xa, .int .i64 xb, .int .i64 (xm + li)] 63)) (HcF.out j hj).1
              have k2 := keepCell (X := wF) ((Below.refl _ _).alloc (Nat.le_refl _) (.cells #[.int .i64 xa, .int .i64 xb, .int .i64 (xm + li)] 63)) (HcF.out j hj).2
              refine ⟨?_, ?_⟩
              · rw [World.cell?_of_block (a := ⟨gu, j, none⟩) (hg8.block gu (by rw [World.size_alloc]; omega) (fun e => hn1 (by injection e with e; exact e.symm)))]; exact k1
              · rw [World.cell?_of_block (a := ⟨gr, j, none⟩) (hg8.block gr (by rw [World.size_alloc]; omega) (fun e => hn2 (by injection e with e; exact e.symm)))]; exact k2
            have hn : g8 ≠ gu ∧ g8 ≠ gr := by
              have hzF := HzF.out
              rcases hl8 with e | e
              · injection e with e; subst e; exact ⟨hn1, hn2⟩
              · exact ⟨by omega, by omega⟩
            have hown9 : RowTz w8 w.heap.size (.slice (some ⟨g8, 0, none⟩) (i + 1) cp8) (lateSL l least start ds (i + 1)) := by
              rw [Hsu.out, if_pos H0.out]
              refine RowTz.snoc ?_
              rw [lateSL_len]; exact hown8
            have hb8 : Below w.heap.size w w8 := (HF.out.1.alloc hzr2 _).grown hg8 (by rw [World.size_alloc]; omega) (fun q hq => by injection hq with hq; subst hq; exact (HownF.out.lt gv rfl).1)
            have HX := Lib.hid (And.intro hown9 (And.intro hc8 (And.intro hn hb8)))
            have hsz8 : w2.heap.size ≤ w8.heap.size := by have := HzF.out; omega
            clear hown8 hown9 hgrow8 hlie8 hlt8 hg8 hl8 hc8 hn hb8 hz8 HcF HownF HF HzF
            go_wp2
            exact ⟨⟨i + 1, g8, cp8, Hlt.out, by go_num, rfl, HX.out.1, HX.out.2.2.1.1, HX.out.2.2.1.2, HX.out.2.1, hsz8, HX.out.2.2.2⟩, by simp [intOf]; have := Hlt.out; omega⟩
        · have hne0 : (0 : Int) < (i : Int) := by omega
          have H0 := Lib.hid h0
          clear h0
          have HbW := Lib.hid (show Below wr.heap.size wr (wr.alloc (.cells #[.int .i64 xa, .int .i64 (xb + ai), .int .i64 (xm + li)] 63)).drew.drew from (((Below.refl _ _).alloc (Nat.le_refl _) _).drew).drew)
          have HboxW := Lib.hid (show Whole (wr.alloc (.cells #[.int .i64 xa, .int .i64 (xb + ai), .int .i64 (xm + li)] 63)).drew.drew wr.heap.size 63 #[.int .i64 xa, .int .i64 (xb + ai), .int .i64 (xm + li)] from Whole.made wr _ _)
          have Hsz := Lib.hid (show (wr.alloc (.cells #[.int .i64 xa, .int .i64 (xb + ai), .int .i64 (xm + li)] 63)).drew.drew.heap.size = wr.heap.size + 1 from World.size_alloc _ _)
          have hbox2 := Whole.made wr 63 #[.int .i64 xa, .int .i64 (xb + ai), .int .i64 xm]
          have e3 := hbox2.cell (i := 2) rfl
          have f3 := hbox2.free 2
          have cl3 := keepCell (X := wr) ((Below.refl _ _).alloc (Nat.le_refl _) (.cells #[.int .i64 xa, .int .i64 (xb + ai), .int .i64 xm] 63)) HclW.out
          clear hbox2
          go_wp2
          go_region
          all_goals
            go_wp2
            go_region
          all_goals
            generalize (wr.alloc (.cells #[.int .i64 xa, .int .i64 (xb + ai), .int .i64 (xm + li)] 63)).drew.drew = wF at *
            have HF := Lib.hid (show Below w.heap.size w wF ∧ wF.heap.size = wr.heap.size + 1 from ⟨Hbel.out.trans (HbW.out.mono hzr), Hsz.out⟩)
            have hownF := own_keep Hown.out HbW.out
            have HcF := Lib.hid (fun (j : Nat) (hj : j < l.length) => And.intro (keepCell HbW.out (Hcell.out j hj).1) (keepCell HbW.out (Hcell.out j hj).2))
            have hzF : wF.heap.size = wr.heap.size + 1 := HF.out.2
            have HownF := Lib.hid hownF
            have hnw := Lib.hid (stop_news wF 63 xa (xb + ai) (xm + li))
            have HzF := Lib.hid hzF
            have hzr2 : w.heap.size ≤ wF.heap.size := by omega
            have g0 := HboxW.out.cell (i := 0) rfl
            have g1 := HboxW.out.cell (i := 1) rfl
            have g2 := HboxW.out.cell (i := 2) rfl
            clear hownF hzF Hown HbW Hcell Hsz HboxW Hbel
            go_wp2_with (at_builtin; refine wpList_append_lies _ rfl _ _ 27 rfl w.heap.size 63 i0 _ 3 24 Try.underlying27 hi0 hz0 hz1 hz2 rfl (by decide) _ i _ rfl (World.ownsRow.alloc HownF.out _) ⟨wF.heap.size, 0, none⟩ 1 1 [.int .i64 xa, .int .i64 (xb + ai), .int .i64 (xm + li)] rfl rfl hnw.out (by simp [Value.oneCell']) (by decide) (by simp only [maxLen]; omega) (by omega) (by simp; omega) _ rfl ?_; intro g8 cp8 w8 hown8 hgrow8 hlie8 hlt8)
            have hg8 : World.grownBy (wF.alloc (.cells #[.int .i64 xa, .int .i64 (xb + ai), .int .i64 (xm + li)] 63)) w8 (some gv) := hgrow8
            have hl8 : some gv = some g8 ∨ g8 = (wF.alloc (.cells #[.int .i64 xa, .int .i64 (xb + ai), .int .i64 (xm + li)] 63)).heap.size := hlie8
            rw [World.size_alloc] at hl8
            have hz8 := hg8.size
            rw [World.size_alloc] at hz8
            have hc8 : ∀ j, j < l.length → w8.cell? ⟨gu, j, none⟩ = some (.int .i64 (arrV l least start ds j)) ∧ w8.cell? ⟨gr, j, none⟩ = some (.int .i64 (leaV l least start ds j)) := fun j hj => by
              have hzF := HzF.out
              have k1 := keepCell (X := wF) ((Below.refl _ _).alloc (Nat.le_refl _) (.cells #[.int .i64 xa, .int .i64 (xb + ai), .int .i64 (xm + li)] 63)) (HcF.out j hj).1
              have k2 := keepCell (X := wF) ((Below.refl _ _).alloc (Nat.le_refl _) (.cells #[.int .i64 xa, .int .i64 (xb + ai), .int .i64 (xm + li)] 63)) (HcF.out j hj).2
              refine ⟨?_, ?_⟩
              · rw [World.cell?_of_block (a := ⟨gu, j, none⟩) (hg8.block gu (by rw [World.size_alloc]; omega) (fun e => hn1 (by injection e with e; exact e.symm)))]; exact k1
              · rw [World.cell?_of_block (a := ⟨gr, j, none⟩) (hg8.block gr (by rw [World.size_alloc]; omega) (fun e => hn2 (by injection e with e; exact e.symm)))]; exact k2
            have hn : g8 ≠ gu ∧ g8 ≠ gr := by
              have hzF := HzF.out
              rcases hl8 with e | e
              · injection e with e; subst e; exact ⟨hn1, hn2⟩
              · exact ⟨by omega, by omega⟩
            have hown9 : RowTz w8 w.heap.size (.slice (some ⟨g8, 0, none⟩) (i + 1) cp8) (lateSL l least start ds (i + 1)) := by
              rw [Hsu.out, if_neg H0.out]
              refine RowTz.snoc ?_
              rw [lateSL_len]; exact hown8
            have hb8 : Below w.heap.size w w8 := (HF.out.1.alloc hzr2 _).grown hg8 (by rw [World.size_alloc]; omega) (fun q hq => by injection hq with hq; subst hq; exact (HownF.out.lt gv rfl).1)
            have HX := Lib.hid (And.intro hown9 (And.intro hc8 (And.intro hn hb8)))
            have hsz8 : w2.heap.size ≤ w8.heap.size := by have := HzF.out; omega
            clear hown8 hown9 hgrow8 hlie8 hlt8 hg8 hl8 hc8 hn hb8 hz8 HcF HownF HF HzF
            go_wp2
            exact ⟨⟨i + 1, g8, cp8, Hlt.out, by go_num, rfl, HX.out.1, HX.out.2.2.1.1, HX.out.2.2.1.2, HX.out.2.1, hsz8, HX.out.2.2.2⟩, by simp [intOf]; have := Hlt.out; omega⟩
      · obtain rfl : i = l.length := by omega
        have hlen := lateSL_len l least start ds l.length
        have hin : RoadsIn wr (.slice (some ⟨gv, 0, none⟩) l.length cv) (lateSL l least start ds l.length) := TzIn.roads hown.in_
        have HVk := Lib.hid (HV.out _ _ wr hin (by rw [hlen]; exact hl))
        have Hown := Lib.hid hown
        have HB := Lib.hid hbel
        have Hoo := Lib.hid (show lateSOk n l least start ds = validS n (lateSL l least start ds l.length) by unfold lateSOk; rw [Hok.out]; rfl)
        have Hno := Lib.hid (fun (h : lateSOk n l least start ds = false) => lateSX_no h)
        have Hyes := Lib.hid (fun (h : lateSOk n l least start ds = true) => lateSX_yes h)
        clear hown hbel hlt hlen hin hcell HV
        generalize lateSL l least start ds l.length = xs at *
        go_wp2_with fail
        refine HVk.out.mono ?_; rintro e w9 ⟨rfl, hb9⟩
        have Hb9 := Lib.hid hb9
        clear hb9 HVk
        cases hvv : validS n xs with
        | true =>
          have hk := Hoo.out.trans hvv
          have Hk := Lib.hid (And.intro hk (Hyes.out hk))
          clear hk hvv
          go_wp2
          go_ret2
          rw [Hk.out.1, Hk.out.2]
          exact TzOut.row true (Hown.out.below Hb9.out) (Nat.le_refl _) (HB.out.trans (Hb9.out.mono HB.out.size))
        | false =>
          have hk := Hoo.out.trans hvv
          have Hk := Lib.hid (And.intro hk (Hno.out hk))
          clear hk hvv
          go_wp2
          go_ret2
          rw [Hk.out.1, Hk.out.2]
          exact TzOut.no (Nat.le_trans HB.out.size Hb9.out.size) (by simp) ((HB.out.trans (Hb9.out.mono HB.out.size)).alloc (Nat.le_trans HB.out.size Hb9.out.size) _)

end Go.Proofs.Ytmphpbjmpokjjaa
