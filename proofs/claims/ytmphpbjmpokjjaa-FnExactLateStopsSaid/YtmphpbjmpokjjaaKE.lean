/- The program's LateStops. -/
import Derived.Test.YtmphpbjmpokjjaaKC
import Derived.Test.YtmphpbjmpokjjaaSK
import Derived.Test.YtmphpbjmpokjjaaZR
import Derived.Deep.RegionHeld3
namespace Go.Proofs.Ytmphpbjmpokjjaa
open Go.RowKit

theorem cell_more {w : World} {p : Addr} {x : Value} (X : Obj) (h : w.cell? p = some x) : (w.drew.alloc X).cell? p = some x :=
  keepCell (X := w) (((Below.refl _ _).drew).alloc (Nat.le_refl _) X) h
/-- A cell beside the row that grows stays. -/
theorem cell_app {w w8 : World} {B E c k : Nat} {v : Value} {xs : List Value} {A X : Obj} (hown : w.ownsRow B E c v k xs) (hg : World.grownBy ((w.alloc A).drew.alloc X) w8 v.ownBlock) {p : Addr} {x : Value} (hp : w.heap.size ≤ p.block ∨ p.block < B) (h : (w.alloc A).cell? p = some x) : w8.cell? p = some x := by
  have h1 := cell_more X h
  rw [World.cell?_of_block (a := p) (hg.block p.block (World.block_lt_of_cell? _ _ h1) (fun e => by have := hown.lt p.block e.symm; omega))]
  exact h1
theorem lateS_is {n : Int} {l : List Rd} {least start : Int} {ds : List Int} (h : okLate n l least start ds = true) {i : Nat} (hi : i < l.length) :
    lateS l least start ds i = ⟨(l.getD i rd0).a, IntKind.i64.wrap ((l.getD i rd0).b + ((arrL l least start ds l.length).set 0 0).getD i 0), IntKind.i64.wrap ((l.getD i rd0).m + (leaL l least start ds l.length).getD i 0)⟩ := by
  have h1 := okLate_bd h i
  have h2 := okLate_2 h
  have h3 := validS_at (okLate_iff.1 h).2.1 hi
  rw [getD_set0, arrL_at _ _ _ _ hi, leaL_at _ _ _ _ hi]
  unfold lateS
  by_cases e : i = 0
  · rw [if_pos e, if_pos e, IntWalk.i64_in _ (by omega), IntWalk.i64_in _ (by omega), Int.add_zero]
  · rw [if_neg e, if_neg e, IntWalk.i64_in _ (by omega), IntWalk.i64_in _ (by omega)]

def LsRel (l : List Rd) (least start : Int) (ds : List Int) (w2 : World) (v iv : Value) (wr : World) : Prop :=
  ∃ i : Nat, i ≤ l.length ∧ iv = .int .i64 i ∧ RowTz wr w2.heap.size v (lateSL l least start ds i) ∧ Below w2.heap.size w2 wr

set_option maxRecDepth 100000 in
set_option maxHeartbeats 2000000 in
theorem lateS2_any (n : Int) (v : Value) (l : List Rd) (least start : Int) (v' : Value) (ds : List Int) (w : World) (hv : RoadsIn w v l) (hl : l.length ≤ 1048576) (hv' : IntsIn w v' ds) (hd : ds.length ≤ 1048576) :
    Calls Try.prog 38 #[.int .i64 n, v, .int .i64 least, .int .i64 start, v'] w (TzOut (lateSX n l least start ds) (lateSOk n l least start ds) w) := by
  obtain ⟨i0, hi0, hz0, hz1, hz2⟩ := info_parts infoTz
  have HK := Lib.hid (late2_any n v l least start v' ds w hv hl hv' hd)
  clear hv'
  cases hok : okLate n l least start ds with
  | false =>
    rw [show LateOut n l least start ds w = LateOut n l least start ds w from rfl] at HK
    have ho := Lib.hid (show lateSOk n l least start ds = false by unfold lateSOk; rw [hok]; rfl)
    have hx := Lib.hid (lateSX_no ho.out)
    have Hok := Lib.hid hok; clear hok hv
    go_enter Try.func38, Try.ntmps38
    go_wp2_with fail
    refine HK.out.mono ?_; rintro e w1 ⟨u, r, he, _, _, _, hb⟩
    rw [Hok.out] at he
    subst he
    have HB1 := Lib.hid hb
    clear hb HK
    go_wp2
    go_ret2
    rw [hx.out, ho.out]
    exact TzOut.no HB1.out.size (by simp) (HB1.out.alloc HB1.out.size _)
  | true =>
    have h2 := okLate_2 hok
    have Hok := Lib.hid hok
    obtain ⟨a, cap, rfl, ha⟩ := hv
    obtain ⟨b, o, rfl, hb0, hrw⟩ := ha (by rintro rfl; simp at h2)
    have Hrw := Lib.hid hrw
    have Hla := Lib.hid (show arrX n l least start ds = arrL l least start ds l.length ∧ leaX n l least start ds = leaL l least start ds l.length by unfold arrX leaX; rw [if_pos hok, if_pos hok]; exact ⟨rfl, rfl⟩)
    have Hse := Lib.hid (fun (i : Nat) (hi : i < l.length) => lateS_is hok hi)
    obtain ⟨l2, l8⟩ := h2
    clear hok ha hrw
    go_enter Try.func38, Try.ntmps38
    go_wp2_with fail
    refine HK.out.mono ?_; rintro e w1 ⟨u, r, he, hu, hr, hn, hb⟩
    rw [Hok.out] at he
    subst he
    rw [Hla.out.1] at hu
    rw [Hla.out.2] at hr
    obtain ⟨gu, cu, rfl, hcu, hatu, hroom, hguB, hgul⟩ := hu.open2 (by rw [arrL_len]; omega)
    obtain ⟨gr, cr, rfl, hcr, hatr, _, hgrB, hgrl⟩ := hr.open2 (by rw [leaL_len]; omega)
    have hne : gu ≠ gr := fun e => hn gu rfl (by rw [e]; rfl)
    have c0 := hatu 0 (by rw [arrL_len]; omega)
    rw [Nat.zero_add] at c0
    have hfz := hroom.2 0
    have hu2 := hu.setAt 0 0
    have HA := Lib.hid (fun (w' : World) (h : Below (w1.setCell ⟨gu, 0, none⟩ (.int .i64 0)).heap.size (w1.setCell ⟨gu, 0, none⟩ (.int .i64 0)) w') (i : Nat) (hi : i < l.length) => (show w'.cell? ⟨gu, i, none⟩ = some (.int .i64 (((arrL l least start ds l.length).set 0 0).getD i 0)) from by
      obtain ⟨g', c', e', _, hat', _, _, hlt'⟩ := hu2.open2 (by rw [List.length_set, arrL_len]; omega)
      injection e' with e1 e2 e3
      injection e1 with e1
      injection e1 with e1
      subst e1
      have := (hat'.below h hlt') i (by rw [List.length_set, arrL_len]; exact hi)
      rwa [Nat.zero_add] at this))
    have HL := Lib.hid (fun (w' : World) (h : Below (w1.setCell ⟨gu, 0, none⟩ (.int .i64 0)).heap.size (w1.setCell ⟨gu, 0, none⟩ (.int .i64 0)) w') (i : Nat) (hi : i < l.length) => (show w'.cell? ⟨gr, i, none⟩ = some (.int .i64 ((leaL l least start ds l.length).getD i 0)) from by
      have h1 := hatr i (by rw [leaL_len]; exact hi)
      rw [Nat.zero_add] at h1
      rw [h.cell (p := ⟨gr, i, none⟩) (by simpa using hgrl), World.cell?_setCell_other _ _ _ _ (by intro e; injection e with e; exact hne e)]
      exact h1))
    have HB2 := Lib.hid (hb.setCell (p := ⟨gu, 0, none⟩) (show w.heap.size ≤ gu from hguB) (.int .i64 0))
    rw [arrL_len] at hcu ⊢
    rw [leaL_len] at hcr ⊢
    have hown0 := RowTz.made (w1.setCell ⟨gu, 0, none⟩ (.int .i64 0)) (w1.setCell ⟨gu, 0, none⟩ (.int .i64 0)).heap.size (Nat.le_refl _)
    have Hown0 := Lib.hid hown0
    have Hb3 := Lib.hid (show Below (w1.setCell ⟨gu, 0, none⟩ (.int .i64 0)).heap.size (w1.setCell ⟨gu, 0, none⟩ (.int .i64 0)) ((w1.setCell ⟨gu, 0, none⟩ (.int .i64 0)).alloc (.cells #[] 63)) from (Below.refl _ _).alloc (Nat.le_refl _) _)
    have HguL := Lib.hid (show gu < (w1.setCell ⟨gu, 0, none⟩ (.int .i64 0)).heap.size ∧ gr < (w1.setCell ⟨gu, 0, none⟩ (.int .i64 0)).heap.size from ⟨by simpa using hgul, by simpa using hgrl⟩)
    have Hne := Lib.hid hne
    generalize (arrL l least start ds l.length).getD 0 0 = x0 at *
    clear hu hr hn hb hatu hatr hroom hu2 hown0 hne hguB hgrB hgul hgrl HK
    have Hsz := Lib.hid (show (w1.setCell ⟨gu, 0, none⟩ (.int .i64 0)).heap.size = w1.heap.size by simp)
    go_wp2
    generalize w1.setCell ⟨gu, 0, none⟩ (.int .i64 0) = w2 at *
    go_loopw [15, 36] (fun v iv wr => LsRel l least start ds w2 v iv wr) (fun _ iv _ => l.length - (intOf iv).toNat)
    case atStart => exact ⟨0, Nat.zero_le _, rfl, by rw [← Hsz.out]; exact Hown0.out, Hb3.out⟩
    case round =>
      obtain ⟨i, hil, rfl, hown, hbel⟩ := hrel
      by_cases hlt : i < l.length
      · obtain ⟨d0, d1, d2⟩ := (Hrw.out.below (HB2.out.trans (hbel.mono HB2.out.size)) hb0) i hlt
        have hbA : Below w2.heap.size w2 (wr.alloc (.cells #[.int .i64 (l.getD i rd0).a, .int .i64 (l.getD i rd0).b, .int .i64 (l.getD i rd0).m] 63)) := hbel.alloc hbel.size _
        have ca := HA.out _ hbA i hlt
        have cl := HL.out _ hbA i hlt
        have hsu := lateSL_succ l least start ds i
        rw [Hse.out i hlt] at hsu
        have hbox := Whole.made wr 63 #[.int .i64 (l.getD i rd0).a, .int .i64 (l.getD i rd0).b, .int .i64 (l.getD i rd0).m]
        have e0 := hbox.cell (i := 0) rfl
        have e1 := hbox.cell (i := 1) rfl
        have e2 := hbox.cell (i := 2) rfl
        unfold RowTz at hown
        rw [lateSL_len] at hown
        have hownA := World.ownsRow.alloc hown (.cells #[.int .i64 (l.getD i rd0).a, .int .i64 (l.getD i rd0).b, .int .i64 (l.getD i rd0).m] 63)
        have hzr := hbel.size
        have HS0 := Lib.hid (And.intro e0 (And.intro e1 (And.intro e2 (And.intro ca cl))))
        have HS1 := Lib.hid (fun (X : Obj) => (show _ ∧ _ ∧ _ ∧ _ ∧ _ from ⟨cell_more X e0, cell_more X e1, cell_more X e2, cell_more X ca, cell_more X cl⟩))
        have hgu2 : gu < w2.heap.size := HguL.out.1
        have hgr2 : gr < w2.heap.size := HguL.out.2
        have HS2 := Lib.hid (fun (X : Obj) (w8 : World) (hg : World.grownBy ((wr.alloc (.cells #[.int .i64 (l.getD i rd0).a, .int .i64 (l.getD i rd0).b, .int .i64 (l.getD i rd0).m] 63)).drew.alloc X) w8 (Value.ownBlock _)) => (show _ ∧ _ ∧ _ ∧ _ ∧ _ from
          ⟨cell_app hown hg (.inl (Nat.le_refl _)) e0, cell_app hown hg (.inl (Nat.le_refl _)) e1, cell_app hown hg (.inl (Nat.le_refl _)) e2, cell_app hown hg (.inr hgu2) ca, cell_app hown hg (.inr hgr2) cl⟩))
        have Hsu := Lib.hid hsu
        have HownA := Lib.hid hownA
        have HbA := Lib.hid hbA
        have hil' : (i : Int) < (l.length : Int) := by omega
        have hi0' : (0 : Int) ≤ (i : Int) := Int.natCast_nonneg _
        have hi8 : i ≤ 7 := by omega
        have Hlt := Lib.hid hlt
        clear hsu hbox hown hownA hbA hbel hlt e0 e1 e2 ca cl hgu2 hgr2
        generalize (l.getD i rd0).a = xa at *
        generalize (l.getD i rd0).b = xb at *
        generalize (l.getD i rd0).m = xm at *
        generalize ((arrL l least start ds l.length).set 0 0).getD i 0 = ai at *
        generalize (leaL l least start ds l.length).getD i 0 = li at *
        go_wp2_with fail
        go_region_held3 (fun w' => w'.cell? ⟨wr.heap.size, 0, none⟩ = some (.int .i64 xa) ∧ w'.cell? ⟨wr.heap.size, 1, none⟩ = some (.int .i64 xb) ∧ w'.cell? ⟨wr.heap.size, 2, none⟩ = some (.int .i64 xm) ∧ w'.cell? ⟨gu, i, none⟩ = some (.int .i64 ai) ∧ w'.cell? ⟨gr, i, none⟩ = some (.int .i64 li))
          (first | assumption | exact HS0.out | exact HS1.out _)
          (first | (refine step_append_lies _ (by rfl) _ _ _ (by rfl) w2.heap.size 63 i0 _ 3 24 Try.underlying27 hi0 hz0 hz1 hz2 rfl (by omega) _ _ (encTz (lateSL l least start ds i)) (by rfl) ((HownA.out.drew).alloc _) ⟨wr.heap.size + 1, 0, none⟩ 1 1 [.int .i64 xa, .int .i64 (IntKind.i64.wrap (xb + ai)), .int .i64 (IntKind.i64.wrap (xm + li))] (by rfl) (by rfl) (fun j u hj => news2 wr (.cells #[.int .i64 xa, .int .i64 xb, .int .i64 xm] 63) #[.int .i64 xa, .int .i64 (IntKind.i64.wrap (xb + ai)), .int .i64 (IntKind.i64.wrap (xm + li))] 63 j u hj) (by simp [Value.oneCell']) (by omega) (by unfold maxLen; omega) (by omega) (by simp; omega) _ rfl ?_; intro gg cap2 w8 hown1 hgrow hat hlt2; have h8 := HS2.out _ w8 hgrow))
        have hown7 : RowTz w8 w2.heap.size (.slice (some ⟨gg, 0, none⟩) (i + 1) cap2) (lateSL l least start ds (i + 1)) := by
          rw [Hsu.out]
          refine RowTz.snoc ?_
          rw [lateSL_len]; exact hown1
        have B6 : Below w2.heap.size w2 w8 := ((HbA.out.drew).alloc (by simp; omega) _).grown hgrow (by simp; omega) (fun j hj => (HownA.out.lt j hj).1)
        have Hown7 := Lib.hid hown7
        have HB6 := Lib.hid B6
        clear hown7 B6 hown1 hgrow hat h8 HS0 HS1 HS2 HownA HbA
        go_wp2
        exact ⟨⟨i + 1, Hlt.out, by go_num, Hown7.out, HB6.out⟩, by simp [intOf]; omega⟩
      · obtain rfl : i = l.length := by omega
        obtain ⟨ad, cp, rfl, hcp, hrd, hblk⟩ := hown.row
        have hlen := lateSL_len l least start ds l.length
        have HB := Lib.hid (HB2.out.trans (hbel.mono HB2.out.size))
        have Hrd := Lib.hid hrd
        have Hblk := Lib.hid (fun j hj => (show w.heap.size ≤ j ∧ j < wr.heap.size from ⟨Nat.le_trans HB2.out.size (hblk j hj).1, (hblk j hj).2⟩))
        have Hlen := Lib.hid hlen
        have Hcp := Lib.hid hcp
        have Hoo := Lib.hid (show lateSOk n l least start ds = validS n (lateSL l least start ds l.length) by unfold lateSOk; rw [Hok.out]; rfl)
        have Hno := Lib.hid (fun (h : lateSOk n l least start ds = false) => lateSX_no h)
        have Hyes := Lib.hid (fun (h : lateSOk n l least start ds = true) => lateSX_yes h)
        clear hown hbel hrd hblk hlt hlen hcp
        generalize lateSL l least start ds l.length = xs at *
        go_wp2_with fail
        refine (ifT_any n ad cp xs _ (TzIn.roads (Hrd.out.ins Hcp.out)) (by rw [Hlen.out]; exact hl)).mono ?_
        rintro e w2' ⟨hb2, ⟨hvv, rfl⟩ | ⟨hvv, g, hg1, hg2, rfl⟩⟩
        · have hk := Hoo.out.trans hvv
          have Hk := Lib.hid (And.intro hk (Hyes.out hk))
          have Hb2 := Lib.hid hb2
          clear hk hvv hb2
          go_wp2
          go_ret2
          rw [Hk.out.1, Hk.out.2]
          exact ⟨ad, cp, rfl, Hcp.out, Hrd.out.below Hb2.out, fun j hj => ⟨(Hblk.out j hj).1, Nat.lt_of_lt_of_le (Hblk.out j hj).2 Hb2.out.size⟩, HB.out.trans (Hb2.out.mono HB.out.size)⟩
        · have hk := Hoo.out.trans hvv
          have Hk := Lib.hid (And.intro hk (Hno.out hk))
          have Hb2 := Lib.hid hb2
          have Hg := Lib.hid (And.intro (Nat.le_trans HB.out.size hg1) hg2)
          clear hk hvv hb2 hg1 hg2
          go_wp2
          go_ret2
          rw [Hk.out.1, Hk.out.2]
          exact TzOut.no Hg.out.1 Hg.out.2 (HB.out.trans (Hb2.out.mono HB.out.size))

end Go.Proofs.Ytmphpbjmpokjjaa
