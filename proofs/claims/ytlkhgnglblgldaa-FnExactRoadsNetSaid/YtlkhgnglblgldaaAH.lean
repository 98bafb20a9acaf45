/- RoadsNeeded of the program: the walk. -/
import Derived.Test.YtlkhgnglblgldaaAG
namespace Go.Proofs.Ytlkhgnglblgldaa
open Go.RowKit Go.Maps

def IntsOut (xs : List Int) (w : World) (e : Ending) (w' : World) : Prop :=
  ∃ (ad : Option Addr) (cap : Nat), e = .returned (.slice ad xs.length cap) ∧ xs.length ≤ cap ∧ OwnI w' ad xs ∧ (∀ j, inBlk ad j → w.heap.size ≤ j ∧ j < w'.heap.size) ∧ Below w.heap.size w w'

def NeedRel (n : Int) (l : List Rd) (w : World) (nb : Nat) (bs : Int → Nat) (v i : Value) (wr : World) : Prop :=
  ∃ (k cnt g cap : Nat), k ≤ l.length ∧ i = .int .i64 k ∧ cnt ≤ 32 + 2 * k ∧ NetAt wr nb n bs cnt (edge l) ∧ v = .slice (some ⟨g, 0, none⟩) (needTo n l k).length cap ∧ wr.ownsRow w.heap.size 3 1 v (needTo n l k).length ((needTo n l k).map (Value.int .i64)) ∧ Below w.heap.size w wr

/-- A row of cells is no map. -/
theorem own_ne_map {w : World} {B g k cap b m : Nat} {xs : List Value} {R : MElem} {f : Int → Option (DataW Unit)} (h : w.ownsRow B 3 1 (.slice (some ⟨g, 0, none⟩) k cap) k xs) (hm : MapIs w R b m f) : g ≠ b := by
  rintro rfl
  obtain ⟨D, ⟨es, clock, he, _⟩, _⟩ := hm
  obtain ⟨_, h2⟩ := h
  rcases h2 with ⟨h0, _⟩ | ⟨g', cap', cur, hv, _, hh, _⟩
  · cases h0
  · cases hv; rw [hh] at he; cases he

theorem own_off_net {w : World} {B g k cap nb cnt : Nat} {n : Int} {bs : Int → Nat} {e : Int → Int → Option Int} {xs : List Value} (h : w.ownsRow B 3 1 (.slice (some ⟨g, 0, none⟩) k cap) k xs) (hn : NetAt w nb n bs cnt e) : g ≠ nb ∧ ∀ t, 0 ≤ t → t < n → g ≠ bs t :=
  ⟨own_ne_map h hn.outer, fun t t0 t1 => own_ne_map h (hn.inner t t0 t1)⟩

theorem own_out {w : World} {B g cap : Nat} {xs : List Int} (h : w.ownsRow B 3 1 (.slice (some ⟨g, 0, none⟩) xs.length cap) xs.length (xs.map (Value.int .i64))) : xs.length ≤ cap ∧ B ≤ g ∧ g < w.heap.size ∧ OwnI w (some ⟨g, 0, none⟩) xs := by
  have h' := h
  obtain ⟨_, h2⟩ := h
  rcases h2 with ⟨h0, _⟩ | ⟨g', cap', cur, hv, hg, hh, hn, _⟩
  · cases h0
  · cases hv
    refine ⟨hn, hg, (Array.getElem?_eq_some_iff.1 hh).1, fun hne => ?_⟩
    obtain ⟨g2, cap2, e, _, hl, _, hi, hr⟩ := own_ints h' rfl (List.length_pos_iff.2 hne)
    cases e
    exact ⟨g, rfl, hl, hi, hr⟩

set_option maxRecDepth 100000 in
set_option maxHeartbeats 800000 in
theorem need2_any (n : Int) (v : Value) (l : List Rd) (w : World) (hv : RoadsIn w v l) (hl : l.length ≤ 1048576) (hw : RdWf l) :
    Calls Try.prog 31 #[.int .i64 n, v] w (IntsOut (needOf n l) w) := by
  obtain ⟨i0, hi, hz0, hz1, hz2⟩ := info_parts Try.info3
  have hb0 : Below w.heap.size w (w.alloc (.cells #[] 3)) := (Below.refl _ w).alloc (Nat.le_refl _) _
  have hc := networkOf_any n v l (w.alloc (.cells #[] 3)) (hv.below hb0) hl hw
  have Hc := Lib.hid hc; clear hc
  cases hz : validR n l with
  | false =>
    have hx : needOf n l = [] := by unfold needOf; rw [hz]; rfl
    rw [hx]
    have Hz := Lib.hid hz; clear hz hx hv
    go_enter Try.func31, Try.ntmps31
    go_wp2_with fail
    refine (Hc.out).mono ?_
    rintro e w1 ⟨_, h1⟩
    obtain ⟨rfl, hb⟩ := h1 Hz.out
    clear h1
    have hs := hb.size
    have hbb := hb0.trans (hb.mono hb0.size)
    go_wp2
    go_ret
    exact ⟨_, _, rfl, Nat.zero_le _, fun h => absurd rfl h, fun j hj => by obtain ⟨o, ho⟩ := hj; cases ho; exact ⟨Nat.le_refl _, by simp at hs; omega⟩, hbb⟩
  | true =>
    have hx : needOf n l = needTo n l l.length := by unfold needOf; rw [hz]; rfl
    rw [hx]
    obtain ⟨hn1, hn8, h16, hok⟩ := valid_bounds hz
    have hown0 : (w.alloc (.cells #[] 3)).ownsRow w.heap.size 3 1 (.slice (some ⟨w.heap.size, 0, none⟩) 0 0) 0 [] := World.ownsRow_made w _ 0 (Nat.le_refl _) (by unfold maxLen; omega) rfl
    have Hz := Lib.hid hz; clear hz hx
    have Hok := Lib.hid hok; clear hok
    obtain ⟨ad, vcap, rfl, har⟩ := hv
    have Har := Lib.hid har; clear har
    go_enter Try.func31, Try.ntmps31
    go_wp2_with fail
    refine (Hc.out).mono ?_
    rintro e w1 ⟨h1, _⟩
    obtain ⟨nb, bs, cnt, rfl, hnet, hcn, hnb, hbs, hb⟩ := h1 Hz.out
    clear h1
    have hown1 := own_below hown0 hb
    have hbb := hb0.trans (hb.mono hb0.size)
    have hs0 : (w.alloc (.cells #[] 3)).heap.size = w.heap.size + 1 := by simp
    rw [hs0] at hnb hbs
    clear hb hb0 hown0 Hc
    go_wp2
    go_loopw [5, 22] (fun u i wr => NeedRel n l w nb bs u i wr) (fun _ i _ => l.length - (intOf i).toNat)
    case atStart => exact ⟨0, cnt, w.heap.size, 0, Nat.zero_le _, rfl, by omega, hnet, rfl, hown1, hbb⟩
    case round =>
      obtain ⟨k, cn, g, cap, hk, rfl, hcn2, hnetr, rfl, hown, hbel⟩ := hrel
      by_cases hlt : k < l.length
      · obtain ⟨vb, vo, rfl, hvb, hrw⟩ := Har.out (by intro h; simp [h] at hlt)
        obtain ⟨c0, c1, c2⟩ := (hrw.below hbel hvb) k hlt
        have hpe := fun x y => part_erase Hok.out hlt x y
        have hje := fun x y => join_erase Hok.out hlt x y
        have hE := edges_ok (valid_erase Hz.out k)
        have hns := needTo_succ n l k
        have hnl := needTo_len n l k
        have hnd : needB n l k = !reachB n (edge (l.take k ++ l.drop (k + 1))) (l.getD k rd0).a (l.getD k rd0).b := rfl
        have hft := (fits_iff _ _).1 ((okAt_iff n l k).1 (okTo_at n l Hok.out hlt)).1
        generalize hga : (l.getD k rd0).a = ra at *
        generalize hgb : (l.getD k rd0).b = rb at *
        generalize hgm : (l.getD k rd0).m = rm at *
        generalize hge : edge (l.take k ++ l.drop (k + 1)) = E at *
        generalize hxs : needTo n l k = xs at *
        obtain ⟨f1, f2, f3, f4, f5⟩ := hft
        have wa : W64 ra := by unfold W64; omega
        have wb : W64 rb := by unfold W64; omega
        have wm : W64 rm := by unfold W64; omega
        have hbox : Below wr.heap.size wr (wr.alloc (.cells #[.int .i64 ra, .int .i64 rb, .int .i64 rm] 49)) := (Below.refl _ _).alloc (Nat.le_refl _) _
        have hbelb := hbel.trans (hbox.mono hbel.size)
        have hnetb := hnetr.below hbox
        have hownb := own_below hown hbox
        have la := (hnetr.inner ra f1 (by omega)).lt
        have lb := (hnetr.inner rb (by omega) f3).lt
        have lna := hbs ra f1 (by omega)
        have lnb := hbs rb (by omega) f3
        have Hpe := Lib.hid hpe; clear hpe
        have Hje := Lib.hid hje; clear hje
        have HE := Lib.hid hE; clear hE
        have Hns := Lib.hid hns; clear hns
        have Hnd := Lib.hid hnd; clear hnd
        have Hxs := Lib.hid hxs; clear hxs hga hgb hgm hge hrw
        have hlt' : (k : Int) < (l.length : Int) := by omega
        have hglt := (hown.lt g rfl).2
        clear hnet hnetr hown hown1
        go_wp2_with fail
        refine (part_any nb n bs cn (edge l) ra rb rm _ hnetb f1 (by omega) (by omega) f3 hn8).mono ?_
        rintro e w2 ⟨rfl, hnet2, t2⟩
        have hnetE : NetAt w2 nb n bs cn E := hnet2.congr (fun x y => (Hpe.out x y).symm)
        have hnea : wr.heap.size ≠ bs ra ∧ wr.heap.size ≠ bs rb := ⟨by omega, by omega⟩
        have hbs2 : wr.heap.size < (wr.alloc (.cells #[.int .i64 ra, .int .i64 rb, .int .i64 rm] 49)).heap.size := by simp
        have hblk := t2.block wr.heap.size hbs2 (by rintro (h | h); exact hnea.1 h; exact hnea.2 h)
        have x0 : w2.cell? ⟨wr.heap.size, 0, none⟩ = some (.int .i64 ra) := (World.cell?_of_block (a := ⟨wr.heap.size, 0, none⟩) hblk).trans (by simp)
        have x1 : w2.cell? ⟨wr.heap.size, 1, none⟩ = some (.int .i64 rb) := (World.cell?_of_block (a := ⟨wr.heap.size, 1, none⟩) hblk).trans (by simp)
        have x2 : w2.cell? ⟨wr.heap.size, 2, none⟩ = some (.int .i64 rm) := (World.cell?_of_block (a := ⟨wr.heap.size, 2, none⟩) hblk).trans (by simp)
        have hoff := own_off_net hownb hnetb
        have own2 := own_touch hownb t2 (fun g' e h => by cases e; rcases h with h | h; exact hoff.2 _ f1 (by omega) h; exact hoff.2 _ (by omega) f3 h)
        have bel2 : Below w.heap.size w w2 := hbelb.trans (t2.below (by rintro j (h | h) <;> omega) hbelb.size)
        have s2 : wr.heap.size < w2.heap.size := Nat.lt_of_lt_of_le hbs2 t2.size
        clear hnet2 hnetb hownb hoff t2 hblk hbelb hbox
        go_wp2_with fail
        refine (reaches_big n E ra rb nb bs cn _ hnetE HE.out wa wb (by omega)).mono ?_
        rintro e w3 ⟨rfl, hb3⟩
        have hnet3 := hnetE.below hb3
        have own3 := own_below own2 hb3
        have y0 := keepCell hb3 x0
        have y1 := keepCell hb3 x1
        have y2 := keepCell hb3 x2
        have bel3 := bel2.trans (hb3.mono bel2.size)
        have s3 := hb3.size
        clear x0 x1 x2 own2 hnetE hb3
        cases hrb : reachB n E ra rb with
        | true =>
          have hn2 : needTo n l (k + 1) = xs := by rw [Hns.out, Hnd.out, hrb]; rfl
          have Hn2 := Lib.hid hn2; clear hn2 hrb
          go_wp2_with fail
          refine (join_any nb n bs cn E ra rb rm _ hnet3 f1 (by omega) (by omega) f3 hn8 wm (by omega)).mono ?_
          rintro e w4 ⟨rfl, hnet4, t4⟩
          have hoff := own_off_net own3 hnet3
          have own4 := own_touch own3 t4 (fun g' e h => by cases e; rcases h with h | h; exact hoff.2 _ f1 (by omega) h; exact hoff.2 _ (by omega) f3 h)
          have bel4 : Below w.heap.size w w4 := bel3.trans (t4.below (by rintro j (h | h) <;> omega) bel3.size)
          go_wp2
          go_roundw
          case rel => exact ⟨k + 1, cn + 2, g, cap, hlt, by go_num, by omega, hnet4.congr Hje.out, by rw [Hn2.out], by rw [Hn2.out]; exact own4, bel4⟩
          case measure => simp [intOf]; omega
        | false =>
          have hn2 : needTo n l (k + 1) = xs ++ [(k : Int)] := by rw [Hns.out, Hnd.out, hrb]; rfl
          have Hn2 := Lib.hid hn2; clear hn2 hrb
          have hoff := own_off_net own3 hnet3
          obtain ⟨hoff1, hoff2⟩ := hoff
          have hgw := own3.lt g rfl
          go_wp2_with (at_builtin; refine wpList_append_own _ rfl _ _ 26 rfl w.heap.size 3 i0 (.int .i64 0) 1 8 Try.underlying26 hi hz0 hz1 hz2 rfl (by decide) _ _ _ rfl (own3.alloc _) ⟨w3.heap.size, 0, none⟩ 1 1 [.int .i64 k] rfl rfl (cell_one_new _ _ _) (by simp [Value.oneCell']) (by unfold maxLen; omega) (by omega) (by have := bel3.size; simp; omega) ?_; intro v' w4 hown' hgrow _; have ht4 : Touch (fun j => j = g) w3 w4 := (Touch.of_below ((Below.refl _ _).alloc (Nat.le_refl _) _)).trans (Touch.grown (S := fun j => j = g) hgrow rfl); have hblk4 := ht4.block wr.heap.size (by omega) (fun h => by have : wr.heap.size = g := h; omega); have z0 := (World.cell?_of_block (a := ⟨wr.heap.size, 0, none⟩) hblk4).trans y0; have z1 := (World.cell?_of_block (a := ⟨wr.heap.size, 1, none⟩) hblk4).trans y1; have z2 := (World.cell?_of_block (a := ⟨wr.heap.size, 2, none⟩) hblk4).trans y2)
          have hnet4 := hnet3.touch ht4 (fun h => hoff1 h.symm) (fun t t0 t1 h => hoff2 t t0 t1 h.symm)
          have bel4 : Below w.heap.size w w4 := bel3.trans (ht4.below (fun j hj => by have : j = g := hj; omega) bel3.size)
          have s4 := ht4.size
          obtain ⟨g1, cap1, rfl⟩ := own_shape hown'
          refine (join_any nb n bs cn E ra rb rm _ hnet4 f1 (by omega) (by omega) f3 hn8 wm (by omega)).mono ?_
          rintro e w5 ⟨rfl, hnet5, t5⟩
          obtain ⟨_, hoff4⟩ := own_off_net hown' hnet4
          have own5 := own_touch hown' t5 (fun g' e h => by cases e; rcases h with h | h; exact hoff4 _ f1 (by omega) h; exact hoff4 _ (by omega) f3 h)
          have own6 : w5.ownsRow w.heap.size 3 1 (.slice (some ⟨g1, 0, none⟩) (xs.length + 1) cap1) (xs.length + 1) ((xs ++ [(k : Int)]).map (Value.int .i64)) := by rw [List.map_append]; exact own5
          have bel5 : Below w.heap.size w w5 := bel4.trans (t5.below (by rintro j (h | h) <;> omega) bel4.size)
          have hxl : (xs ++ [(k : Int)]).length = xs.length + 1 := by simp
          have Hxl := Lib.hid hxl; clear hxl
          go_wp2
          go_roundw
          case rel => exact ⟨k + 1, cn + 2, g1, cap1, hlt, by go_num, by omega, hnet5.congr Hje.out, by rw [Hn2.out, Hxl.out], by rw [Hn2.out, Hxl.out]; exact own6, bel5⟩
          case measure => simp [intOf]; omega
      · have hkl : l.length = k := by omega
        have Hkl := Lib.hid hkl; clear hkl
        obtain ⟨o1, o2, o3, o4⟩ := own_out hown
        have Ho4 := Lib.hid o4; clear o4 hown
        go_wp2
        go_ret
        exact ⟨some ⟨g, 0, none⟩, cap, by rw [Hkl.out]; rfl, by rw [Hkl.out]; exact o1, by rw [Hkl.out]; exact Ho4.out, fun j hj => by obtain ⟨o, ho⟩ := hj; cases ho; exact ⟨o2, o3⟩, hbel⟩

end Go.Proofs.Ytlkhgnglblgldaa
