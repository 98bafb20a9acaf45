/- Texts of this law in one: AG AH IO NP NM NF AB AC W7 RW WH RM NG SI. -/
import Derived.Test.YtlkhgnglblgldaaAE
import Derived.Test.YtlkhgnglblgldaaAF
import Derived.Test.YtlkhgnglblgldaaAA
import Derived.Test.YtlkhgnglblgldaaIZ
import Derived.Test.YtlkhgnglblgldaaNS
import Derived.Test.YtlkhgnglblgldaaNK
import Derived.Test.YtlkhgnglblgldaaHD
import Derived.Test.YtlkhgnglblgldaaS
import Derived.Sort.OwnSortedInts
import Derived.Deep.AppendLies
import Derived.Deep.RegionHeld3
import Derived.Deep.RegionWith
import Derived.Test.YtlkhgnglblgldaaRKS
import Derived.Test.YtlkhgnglblgldaaY
import Derived.Lib.AppendZeros
import Derived.Laws.OwnMore
import Derived.IntWalk
import Derived.BigQuiet
import Derived.Deep.QuietTactic
import Derived.Test.YtlkhgnglblgldaaW5
import Derived.Test.YtlkhgnglblgldaaI
import Derived.Test.YtlkhgnglblgldaaRF
import Derived.Test.YtlkhgnglblgldaaWG
/- RoadsNeeded of the program. -/
namespace Go.Proofs.Ytlkhgnglblgldaa
open Go.RowKit Go.Maps

noncomputable def needB (n : Int) (l : List Rd) (i : Nat) : Bool := !reachB n (edge (l.take i ++ l.drop (i + 1))) (l.getD i rd0).a (l.getD i rd0).b
noncomputable def needTo (n : Int) (l : List Rd) (j : Nat) : List Int := ((List.range j).filter (needB n l)).map Int.ofNat
noncomputable def needOf (n : Int) (l : List Rd) : List Int := if validR n l = true then needTo n l l.length else []

theorem needTo_succ (n : Int) (l : List Rd) (j : Nat) : needTo n l (j + 1) = if needB n l j = true then needTo n l j ++ [(j : Int)] else needTo n l j := by
  unfold needTo
  rw [List.range_succ, List.filter_append, List.map_append]
  cases h : needB n l j <;> simp [h]

theorem needTo_len (n : Int) (l : List Rd) (j : Nat) : (needTo n l j).length ≤ j := by
  unfold needTo
  have := List.length_filter_le (needB n l) (List.range j)
  simpa using this

theorem NetAt.touch {w w' : World} {nb n bs cnt g} {S : Nat → Prop} (h : NetAt w nb n bs cnt g) (ht : Touch S w w') (h0 : ¬ S nb) (h1 : ∀ t, 0 ≤ t → t < n → ¬ S (bs t)) : NetAt w' nb n bs cnt g :=
  ⟨h.outer.touch ht h0, fun t t0 t1 => (h.inner t t0 t1).touch ht (h1 t t0 t1), h.inj, h.ne⟩

theorem NetAt.congr {w : World} {nb n bs cnt} {g g' : Int → Int → Option Int} (h : NetAt w nb n bs cnt g) (hg : ∀ x y, g' x y = g x y) : NetAt w nb n bs cnt g' := by
  have e : g' = g := by funext x y; exact hg x y
  rw [e]; exact h

theorem own_touch {w w' : World} {B k : Nat} {v : Value} {xs : List Value} {S : Nat → Prop} (h : w.ownsRow B 3 1 v k xs) (ht : Touch S w w') (hS : ∀ g, v.ownBlock = some g → ¬ S g) : w'.ownsRow B 3 1 v k xs := by
  obtain ⟨h1, h2⟩ := h
  refine ⟨h1, ?_⟩
  rcases h2 with h0 | ⟨g, cap, cur, rfl, hg, hh, r⟩
  · exact .inl h0
  · exact .inr ⟨g, cap, cur, rfl, hg, (ht.block g (Array.getElem?_eq_some_iff.1 hh).1 (hS g rfl)).trans hh, r⟩

/-- Without the road, and with it again. -/
theorem part_erase {n : Int} {l : List Rd} (h : okTo n l l.length = true) {i : Nat} (hi : i < l.length) (x y : Int) : partE (edge l) (l.getD i rd0).a (l.getD i rd0).b x y = edge (l.take i ++ l.drop (i + 1)) x y := by
  rw [edge_erase h hi]
  unfold partE delE
  by_cases h2 : x = (l.getD i rd0).b ∧ y = (l.getD i rd0).a
  · rw [if_pos h2, if_pos (Or.inr h2)]
  · rw [if_neg h2]
    by_cases h1 : x = (l.getD i rd0).a ∧ y = (l.getD i rd0).b
    · rw [if_pos h1, if_pos (Or.inl h1)]
    · rw [if_neg h1, if_neg (fun h => h.elim h1 h2)]

theorem join_erase {n : Int} {l : List Rd} (h : okTo n l l.length = true) {i : Nat} (hi : i < l.length) (x y : Int) : edge l x y = joinE (edge (l.take i ++ l.drop (i + 1))) (l.getD i rd0).a (l.getD i rd0).b (l.getD i rd0).m x y := by
  have he := edge_of_road h hi
  unfold joinE setE
  by_cases h2 : x = (l.getD i rd0).b ∧ y = (l.getD i rd0).a
  · rw [if_pos h2, h2.1, h2.2, edge_symm, he]
  · rw [if_neg h2]
    by_cases h1 : x = (l.getD i rd0).a ∧ y = (l.getD i rd0).b
    · rw [if_pos h1, h1.1, h1.2, he]
    · rw [if_neg h1, edge_erase h hi, if_neg (fun h => h.elim h1 h2)]

end Go.Proofs.Ytlkhgnglblgldaa
/- RoadsNeeded of the program: the walk. -/
namespace Go.Proofs.Ytlkhgnglblgldaa
open Go.RowKit Go.Maps

def IntsOut (xs : List Int) (w : World) (e : Ending) (w' : World) : Prop :=
  ∃ (ad : Option Addr) (cap : Nat), e = .returned (.slice ad xs.length cap) ∧ xs.length ≤ cap ∧ OwnI w' ad xs ∧ (∀ j, inBlk ad j → w.heap.size ≤ j ∧ j < w'.heap.size) ∧ Below w.heap.size w w'

def NeedRel (n : Int) (l : List Rd) (w : World) (nb : Nat) (bs : Int → Nat) (v i : Value) (wr : World) : Prop :=
  ∃ (k cnt g cap : Nat), k ≤ l.length ∧ i = .int .i64 k ∧ cnt ≤ 32 + 2 * k ∧ NetAt wr nb n bs cnt (edge l) ∧ v = .slice (some ⟨g, 0, none⟩) (needTo n l k).length cap ∧ wr.ownsRow w.heap.size 3 1 v (needTo n l k).length ((needTo n l k).map (Value.int .i64)) ∧ Below w.heap.size w wr

/-- A row of cells is no map. -/
theorem own_ne_map {w : World} {B g k cap b m : Nat} {xs : List Value} {R : MElem} {f : Int → Option (DataW Unit)} (h : w.ownsRow B 3 1 (.slice (some ⟨g, 0, none⟩) k cap) k xs) (hm : MapIs w R b m f) : g ≠ b := by
  rintro rfl
  obtain ⟨D, ⟨es, clock, he, _⟩, _⟩ := hm
  obtain ⟨_, h2⟩ := h
  rcases h2 with ⟨h0, _⟩ | ⟨g', cap', cur, hv, _, hh, _⟩
  · cases h0
  · cases hv; rw [hh] at he; cases he

theorem own_off_net {w : World} {B g k cap nb cnt : Nat} {n : Int} {bs : Int → Nat} {e : Int → Int → Option Int} {xs : List Value} (h : w.ownsRow B 3 1 (.slice (some ⟨g, 0, none⟩) k cap) k xs) (hn : NetAt w nb n bs cnt e) : g ≠ nb ∧ ∀ t, 0 ≤ t → t < n → g ≠ bs t :=
  ⟨own_ne_map h hn.outer, fun t t0 t1 => own_ne_map h (hn.inner t t0 t1)⟩

theorem own_out {w : World} {B g cap : Nat} {xs : List Int} (h : w.ownsRow B 3 1 (.slice (some ⟨g, 0, none⟩) xs.length cap) xs.length (xs.map (Value.int .i64))) : xs.length ≤ cap ∧ B ≤ g ∧ g < w.heap.size ∧ OwnI w (some ⟨g, 0, none⟩) xs := by
  have h' := h
  obtain ⟨_, h2⟩ := h
  rcases h2 with ⟨h0, _⟩ | ⟨g', cap', cur, hv, hg, hh, hn, _⟩
  · cases h0
  · cases hv
    refine ⟨hn, hg, (Array.getElem?_eq_some_iff.1 hh).1, fun hne => ?_⟩
    obtain ⟨g2, cap2, e, _, hl, _, hi, hr⟩ := own_ints h' rfl (List.length_pos_iff.2 hne)
    cases e
    exact ⟨g, rfl, hl, hi, hr⟩

set_option maxRecDepth 100000 in
set_option maxHeartbeats 800000 in
theorem need2_any (n : Int) (v : Value) (l : List Rd) (w : World) (hv : RoadsIn w v l) (hl : l.length ≤ 1048576) (hw : RdWf l) :
    Calls Try.prog 31 #[.int .i64 n, v] w (IntsOut (needOf n l) w) := by
  obtain ⟨i0, hi, hz0, hz1, hz2⟩ := info_parts Try.info3
  have hb0 : Below w.heap.size w (w.alloc (.cells #[] 3)) := (Below.refl _ w).alloc (Nat.le_refl _) _
  have hc := networkOf_any n v l (w.alloc (.cells #[] 3)) (hv.below hb0) hl hw
  have Hc := Lib.hid hc; clear hc
  cases hz : validR n l with
  | false =>
    have hx : needOf n l = [] := by unfold needOf; rw [hz]; rfl
    rw [hx]
    have Hz := Lib.hid hz; clear hz hx hv
    go_enter Try.func31, Try.ntmps31
    go_wp2_with fail
    refine (Hc.out).mono ?_
    rintro e w1 ⟨_, h1⟩
    obtain ⟨rfl, hb⟩ := h1 Hz.out
    clear h1
    have hs := hb.size
    have hbb := hb0.trans (hb.mono hb0.size)
    go_wp2
    go_ret
    exact ⟨_, _, rfl, Nat.zero_le _, fun h => absurd rfl h, fun j hj => by obtain ⟨o, ho⟩ := hj; cases ho; exact ⟨Nat.le_refl _, by simp at hs; omega⟩, hbb⟩
  | true =>
    have hx : needOf n l = needTo n l l.length := by unfold needOf; rw [hz]; rfl
    rw [hx]
    obtain ⟨hn1, hn8, h16, hok⟩ := valid_bounds hz
    have hown0 : (w.alloc (.cells #[] 3)).ownsRow w.heap.size 3 1 (.slice (some ⟨w.heap.size, 0, none⟩) 0 0) 0 [] := World.ownsRow_made w _ 0 (Nat.le_refl _) (by unfold maxLen; omega) rfl
    have Hz := Lib.hid hz; clear hz hx
    have Hok := Lib.hid hok; clear hok
    obtain ⟨ad, vcap, rfl, har⟩ := hv
    have Har := Lib.hid har; clear har
    go_enter Try.func31, Try.ntmps31
    go_wp2_with fail
    refine (Hc.out).mono ?_
    rintro e w1 ⟨h1, _⟩
    obtain ⟨nb, bs, cnt, rfl, hnet, hcn, hnb, hbs, hb⟩ := h1 Hz.out
    clear h1
    have hown1 := own_below hown0 hb
    have hbb := hb0.trans (hb.mono hb0.size)
    have hs0 : (w.alloc (.cells #[] 3)).heap.size = w.heap.size + 1 := by simp
    rw [hs0] at hnb hbs
    clear hb hb0 hown0 Hc
    go_wp2
    go_loopw [5, 22] (fun u i wr => NeedRel n l w nb bs u i wr) (fun _ i _ => l.length - (intOf i).toNat)
    case atStart => exact ⟨0, cnt, w.heap.size, 0, Nat.zero_le _, rfl, by omega, hnet, rfl, hown1, hbb⟩
    case round =>
      obtain ⟨k, cn, g, cap, hk, rfl, hcn2, hnetr, rfl, hown, hbel⟩ := hrel
      by_cases hlt : k < l.length
      · obtain ⟨vb, vo, rfl, hvb, hrw⟩ := Har.out (by intro h; simp [h] at hlt)
        obtain ⟨c0, c1, c2⟩ := (hrw.below hbel hvb) k hlt
        have hpe := fun x y => part_erase Hok.out hlt x y
        have hje := fun x y => join_erase Hok.out hlt x y
        have hE := edges_ok (valid_erase Hz.out k)
        have hns := needTo_succ n l k
        have hnl := needTo_len n l k
        have hnd : needB n l k = !reachB n (edge (l.take k ++ l.drop (k + 1))) (l.getD k rd0).a (l.getD k rd0).b := rfl
        have hft := (fits_iff _ _).1 ((okAt_iff n l k).1 (okTo_at n l Hok.out hlt)).1
        generalize hga : (l.getD k rd0).a = ra at *
        generalize hgb : (l.getD k rd0).b = rb at *
        generalize hgm : (l.getD k rd0).m = rm at *
        generalize hge : edge (l.take k ++ l.drop (k + 1)) = E at *
        generalize hxs : needTo n l k = xs at *
        obtain ⟨f1, f2, f3, f4, f5⟩ := hft
        have wa : W64 ra := by unfold W64; omega
        have wb : W64 rb := by unfold W64; omega
        have wm : W64 rm := by unfold W64; omega
        have hbox : Below wr.heap.size wr (wr.alloc (.cells #[.int .i64 ra, .int .i64 rb, .int .i64 rm] 49)) := (Below.refl _ _).alloc (Nat.le_refl _) _
        have hbelb := hbel.trans (hbox.mono hbel.size)
        have hnetb := hnetr.below hbox
        have hownb := own_below hown hbox
        have la := (hnetr.inner ra f1 (by omega)).lt
        have lb := (hnetr.inner rb (by omega) f3).lt
        have lna := hbs ra f1 (by omega)
        have lnb := hbs rb (by omega) f3
        have Hpe := Lib.hid hpe; clear hpe
        have Hje := Lib.hid hje; clear hje
        have HE := Lib.hid hE; clear hE
        have Hns := Lib.hid hns; clear hns
        have Hnd := Lib.hid hnd; clear hnd
        have Hxs := Lib.hid hxs; clear hxs hga hgb hgm hge hrw
        have hlt' : (k : Int) < (l.length : Int) := by omega
        have hglt := (hown.lt g rfl).2
        clear hnet hnetr hown hown1
        go_wp2_with fail
        refine (part_any nb n bs cn (edge l) ra rb rm _ hnetb f1 (by omega) (by omega) f3 hn8).mono ?_
        rintro e w2 ⟨rfl, hnet2, t2⟩
        have hnetE : NetAt w2 nb n bs cn E := hnet2.congr (fun x y => (Hpe.out x y).symm)
        have hnea : wr.heap.size ≠ bs ra ∧ wr.heap.size ≠ bs rb := ⟨by omega, by omega⟩
        have hbs2 : wr.heap.size < (wr.alloc (.cells #[.int .i64 ra, .int .i64 rb, .int .i64 rm] 49)).heap.size := by simp
        have hblk := t2.block wr.heap.size hbs2 (by rintro (h | h); exact hnea.1 h; exact hnea.2 h)
        have x0 : w2.cell? ⟨wr.heap.size, 0, none⟩ = some (.int .i64 ra) := (World.cell?_of_block (a := ⟨wr.heap.size, 0, none⟩) hblk).trans (by simp)
        have x1 : w2.cell? ⟨wr.heap.size, 1, none⟩ = some (.int .i64 rb) := (World.cell?_of_block (a := ⟨wr.heap.size, 1, none⟩) hblk).trans (by simp)
        have x2 : w2.cell? ⟨wr.heap.size, 2, none⟩ = some (.int .i64 rm) := (World.cell?_of_block (a := ⟨wr.heap.size, 2, none⟩) hblk).trans (by simp)
        have hoff := own_off_net hownb hnetb
        have own2 := own_touch hownb t2 (fun g' e h => by cases e; rcases h with h | h; exact hoff.2 _ f1 (by omega) h; exact hoff.2 _ (by omega) f3 h)
        have bel2 : Below w.heap.size w w2 := hbelb.trans (t2.below (by rintro j (h | h) <;> omega) hbelb.size)
        have s2 : wr.heap.size < w2.heap.size := Nat.lt_of_lt_of_le hbs2 t2.size
        clear hnet2 hnetb hownb hoff t2 hblk hbelb hbox
        go_wp2_with fail
        refine (reaches_big n E ra rb nb bs cn _ hnetE HE.out wa wb (by omega)).mono ?_
        rintro e w3 ⟨rfl, hb3⟩
        have hnet3 := hnetE.below hb3
        have own3 := own_below own2 hb3
        have y0 := keepCell hb3 x0
        have y1 := keepCell hb3 x1
        have y2 := keepCell hb3 x2
        have bel3 := bel2.trans (hb3.mono bel2.size)
        have s3 := hb3.size
        clear x0 x1 x2 own2 hnetE hb3
        cases hrb : reachB n E ra rb with
        | true =>
          have hn2 : needTo n l (k + 1) = xs := by rw [Hns.out, Hnd.out, hrb]; rfl
          have Hn2 := Lib.hid hn2; clear hn2 hrb
          go_wp2_with fail
          refine (join_any nb n bs cn E ra rb rm _ hnet3 f1 (by omega) (by omega) f3 hn8 wm (by omega)).mono ?_
          rintro e w4 ⟨rfl, hnet4, t4⟩
          have hoff := own_off_net own3 hnet3
          have own4 := own_touch own3 t4 (fun g' e h => by cases e; rcases h with h | h; exact hoff.2 _ f1 (by omega) h; exact hoff.2 _ (by omega) f3 h)
          have bel4 : Below w.heap.size w w4 := bel3.trans (t4.below (by rintro j (h | h) <;> omega) bel3.size)
          go_wp2
          go_roundw
          case rel => exact ⟨k + 1, cn + 2, g, cap, hlt, by go_num, by omega, hnet4.congr Hje.out, by rw [Hn2.out], by rw [Hn2.out]; exact own4, bel4⟩
          case measure => simp [intOf]; omega
        | false =>
          have hn2 : needTo n l (k + 1) = xs ++ [(k : Int)] := by rw [Hns.out, Hnd.out, hrb]; rfl
          have Hn2 := Lib.hid hn2; clear hn2 hrb
          have hoff := own_off_net own3 hnet3
          obtain ⟨hoff1, hoff2⟩ := hoff
          have hgw := own3.lt g rfl
          go_wp2_with (at_builtin; refine wpList_append_own _ rfl _ _ 26 rfl w.heap.size 3 i0 (.int .i64 0) 1 8 Try.underlying26 hi hz0 hz1 hz2 rfl (by decide) _ _ _ rfl (own3.alloc _) ⟨w3.heap.size, 0, none⟩ 1 1 [.int .i64 k] rfl rfl (cell_one_new _ _ _) (by simp [Value.oneCell']) (by unfold maxLen; omega) (by omega) (by have := bel3.size; simp; omega) ?_; intro v' w4 hown' hgrow _; have ht4 : Touch (fun j => j = g) w3 w4 := (Touch.of_below ((Below.refl _ _).alloc (Nat.le_refl _) _)).trans (Touch.grown (S := fun j => j = g) hgrow rfl); have hblk4 := ht4.block wr.heap.size (by omega) (fun h => by have : wr.heap.size = g := h; omega); have z0 := (World.cell?_of_block (a := ⟨wr.heap.size, 0, none⟩) hblk4).trans y0; have z1 := (World.cell?_of_block (a := ⟨wr.heap.size, 1, none⟩) hblk4).trans y1; have z2 := (World.cell?_of_block (a := ⟨wr.heap.size, 2, none⟩) hblk4).trans y2)
          have hnet4 := hnet3.touch ht4 (fun h => hoff1 h.symm) (fun t t0 t1 h => hoff2 t t0 t1 h.symm)
          have bel4 : Below w.heap.size w w4 := bel3.trans (ht4.below (fun j hj => by have : j = g := hj; omega) bel3.size)
          have s4 := ht4.size
          obtain ⟨g1, cap1, rfl⟩ := own_shape hown'
          refine (join_any nb n bs cn E ra rb rm _ hnet4 f1 (by omega) (by omega) f3 hn8 wm (by omega)).mono ?_
          rintro e w5 ⟨rfl, hnet5, t5⟩
          obtain ⟨_, hoff4⟩ := own_off_net hown' hnet4
          have own5 := own_touch hown' t5 (fun g' e h => by cases e; rcases h with h | h; exact hoff4 _ f1 (by omega) h; exact hoff4 _ (by omega) f3 h)
          have own6 : w5.ownsRow w.heap.size 3 1 (.slice (some ⟨g1, 0, none⟩) (xs.length + 1) cap1) (xs.length + 1) ((xs ++ [(k : Int)]).map (Value.int .i64)) := by rw [List.map_append]; exact own5
          have bel5 : Below w.heap.size w w5 := bel4.trans (t5.below (by rintro j (h | h) <;> omega) bel4.size)
          have hxl : (xs ++ [(k : Int)]).length = xs.length + 1 := by simp
          have Hxl := Lib.hid hxl; clear hxl
          go_wp2
          go_roundw
          case rel => exact ⟨k + 1, cn + 2, g1, cap1, hlt, by go_num, by omega, hnet5.congr Hje.out, by rw [Hn2.out, Hxl.out], by rw [Hn2.out, Hxl.out]; exact own6, bel5⟩
          case measure => simp [intOf]; omega
      · have hkl : l.length = k := by omega
        have Hkl := Lib.hid hkl; clear hkl
        obtain ⟨o1, o2, o3, o4⟩ := own_out hown
        have Ho4 := Lib.hid o4; clear o4 hown
        go_wp2
        go_ret
        exact ⟨some ⟨g, 0, none⟩, cap, by rw [Hkl.out]; rfl, by rw [Hkl.out]; exact o1, by rw [Hkl.out]; exact Ho4.out, fun j hj => by obtain ⟨o, ho⟩ := hj; cases ho; exact ⟨o2, o3⟩, hbel⟩

end Go.Proofs.Ytlkhgnglblgldaa
/- Rows of numbers that a function gives. -/
namespace Go.Proofs.Ytlkhgnglblgldaa
open Go.RowKit

theorem IntsOk.no {w w' : World} {g : Nat} (hg : w.heap.size ≤ g) (hl : g < w'.heap.size) (hb : Below w.heap.size w w') : IntsOk [] false w (.returned (.tuple #[.slice (some ⟨g, 0, none⟩) 0 0, .bool false])) w' :=
  ⟨some ⟨g, 0, none⟩, 0, rfl, Nat.le_refl _, fun h => absurd rfl h, fun j hj => by obtain ⟨o, ho⟩ := hj; cases ho; exact ⟨hg, hl⟩, hb⟩
theorem IntsOk.row {w wr : World} {B : Nat} {u : Value} {xs : List Int} (ok : Bool) (h : RowI wr B u xs) (hB : w.heap.size ≤ B) (hb : Below w.heap.size w wr) : IntsOk xs ok w (.returned (.tuple #[u, .bool ok])) wr := by
  obtain ⟨ad, cap, rfl, hc, ho, hin⟩ := h.row
  exact ⟨ad, cap, rfl, hc, ho, fun j hj => ⟨by have := (hin j hj).1; omega, (hin j hj).2⟩, hb⟩
/-- A row of numbers of the call's own, alone. -/
def IntsOne (xs : List Int) (w : World) (e : Ending) (w' : World) : Prop :=
  ∃ (ad : Option Addr) (cap : Nat), e = .returned (.slice ad xs.length cap) ∧ xs.length ≤ cap ∧ OwnI w' ad xs ∧ (∀ j, inBlk ad j → w.heap.size ≤ j ∧ j < w'.heap.size) ∧ Below w.heap.size w w'
theorem IntsOne.row {w wr : World} {B : Nat} {u : Value} {xs : List Int} (h : RowI wr B u xs) (hB : w.heap.size ≤ B) (hb : Below w.heap.size w wr) : IntsOne xs w (.returned u) wr := by
  obtain ⟨ad, cap, rfl, hc, ho, hin⟩ := h.row
  exact ⟨ad, cap, rfl, hc, ho, fun j hj => ⟨by have := (hin j hj).1; omega, (hin j hj).2⟩, hb⟩

end Go.Proofs.Ytlkhgnglblgldaa
/- RoadsNet of the program. -/
namespace Go.Proofs.Ytlkhgnglblgldaa
open Go.RowKit Go.Sort Go.Maps

theorem sortI_own {w : World} {B cap g : Nat} {zs : List Int} (h : w.ownsRow B 3 1 (.slice (some ⟨g, 0, none⟩) zs.length cap) zs.length (zs.map (Value.int .i64))) (hl : zs.length < 1000000) :
    Calls Try.prog 47 #[.slice (some ⟨g, 0, none⟩) zs.length cap] w fun e w' => e = .returned (.tuple #[]) ∧ w'.ownsRow B 3 1 (.slice (some ⟨g, 0, none⟩) zs.length cap) zs.length ((zs.mergeSort fun x y => decide (x ≤ y)).map (Value.int .i64)) ∧ w.grownBy w' (some g) := by
  obtain ⟨_, h2⟩ := h
  rcases h2 with ⟨h0, _⟩ | ⟨g', cap', cur, he, hg, hh, hn, hcap, hsz, htake⟩
  · cases h0
  · cases he
    have hH := holds_of_blockI hh (ss := zs) (by simpa using htake)
    refine (Try.slices_Sort_int g 0 cap zs w hH (Array.getElem?_eq_some_iff.1 hh).1 (by omega)).mono ?_
    rintro e w' ⟨rfl, n, os, rfl⟩
    refine ⟨rfl, ?_, grownBy_sortedI _⟩
    exact ownsRow_sortedI (ss := zs) (ts := zs.mergeSort fun x y => decide (x ≤ y)) (by simp) hg hh hn hcap hsz
def intsOf (xs : List Nat) : List Int := xs.map fun (i : Nat) => (i : Int)
theorem intsOf_len (xs : List Nat) : (intsOf xs).length = xs.length := by simp [intsOf]
theorem intsOf_snoc (xs : List Nat) (i : Nat) : intsOf (xs ++ [i]) = intsOf xs ++ [(i : Int)] := by simp [intsOf]
theorem intsOf_get {cs : List Nat} {k : Nat} (h : k < cs.length) : (intsOf cs).getD k 0 = ((cs.getD k 0 : Nat) : Int) := by
  simp [intsOf, List.getD, h]
theorem IntAt.touchN {w w' : World} {b o : Nat} {l : List Int} {S : Nat → Prop} (h : IntAt w b o l) (ht : Touch S w w') (hb : b < w.heap.size) (hS : ¬ S b) : IntAt w' b o l := fun i hi => by
  rw [World.cell?_of_block (a := ⟨b, o + i, none⟩) (ht.block b hb hS)]; exact h i hi

/-- The row of those taken, and the order beside it. -/
def NpRel (n : Int) (l : List Rd) (w : World) (nb : Nat) (bs : Int → Nat) (ob : Nat) (u iv : Value) (wr : World) : Prop :=
  ∃ (k cn g cap : Nat), k ≤ l.length ∧ iv = .int .i64 k ∧ cn ≤ 2 * k ∧ u = .slice (some ⟨g, 0, none⟩) (netTo n l ((orderM l).take k)).length cap ∧ NetAt wr nb n bs cn (edge (pickR l (netTo n l ((orderM l).take k)))) ∧
    RowI wr w.heap.size u (intsOf (netTo n l ((orderM l).take k))) ∧ (0 < l.length → g ≠ ob ∧ ob < wr.heap.size ∧ IntAt wr ob 0 (intsOf (orderM l))) ∧ Below w.heap.size w wr
theorem order_take {l : List Rd} {k : Nat} (h : k < l.length) : (orderM l).take (k + 1) = (orderM l).take k ++ [(orderM l).getD k 0] ∧ (orderM l).getD k 0 < l.length ∧ ((orderM l).take (k + 1)).Nodup ∧ (∀ i, i ∈ (orderM l).take (k + 1) → i < l.length) := by
  have hk : k < (orderM l).length := by rw [orderM_length]; exact h
  have e : (orderM l).getD k 0 = (orderM l)[k] := by simp [List.getD, hk]
  refine ⟨by rw [List.take_succ_eq_append_getElem hk, e], ?_, (orderM_nodup l).sublist (List.take_sublist _ _), fun i hi => orderM_mem.1 (List.mem_of_mem_take hi)⟩
  rw [e]; exact orderM_mem.1 (List.getElem_mem hk)

set_option maxRecDepth 100000 in
set_option maxHeartbeats 2000000 in
theorem net2_any (n : Int) (v : Value) (l : List Rd) (w : World) (hv : RoadsIn w v l) (hl : l.length ≤ 1048576) (hw : RdWf l) :
    Calls Try.prog 17 #[.int .i64 n, v] w (IntsOk (netL n l) (wholeOf n l) w) := by
  obtain ⟨i0, hinf, hz0, hz1, hz2⟩ := info_parts Try.info3
  have HW := Lib.hid (whole2_any n v l w hv hl hw)
  cases hok : wholeOf n l with
  | false =>
    rw [netL_no hok]
    rw [hok] at HW
    clear hok
    go_enter Try.func17, Try.ntmps17
    go_wp2_with fail
    refine HW.out.mono ?_; rintro e w1 ⟨rfl, hb1⟩
    have HB := Lib.hid hb1; clear hb1
    go_wp2
    go_ret2
    exact IntsOk.no HB.out.size (by simp) (HB.out.alloc HB.out.size _)
  | true =>
    rw [netL_yes hok]
    rw [hok] at HW
    have hz : validR n l = true := by unfold wholeOf at hok; rw [Bool.and_eq_true] at hok; exact hok.1
    obtain ⟨hn1, hn8, h16, hokT⟩ := valid_bounds hz
    have hfit := fun i (hi : i < l.length) => (fits_iff _ _).1 ((okAt_iff n l i).1 (okTo_at n l hokT hi)).1
    have Hfit := Lib.hid hfit
    have hmi : ∀ i, i < l.length → mi99 (l.getD i rd0) := fun i hi => ⟨(hfit i hi).2.2.2.1, (hfit i hi).2.2.2.2⟩
    have HM := Lib.hid (fun w' (hb : Below w.heap.size w w') => byMiles_any v l w' (hv.below hb) h16 hmi)
    have Hz := Lib.hid hz
    obtain ⟨ad, cap, rfl, har⟩ := hv
    have Har := Lib.hid har
    clear hok hz hokT hfit hmi har
    go_enter Try.func17, Try.ntmps17
    go_wp2_with fail
    refine HW.out.mono ?_; rintro e w1 ⟨rfl, hb1⟩
    have HB1 := Lib.hid hb1; clear hb1 HW
    go_wp2_with fail
    refine (newNetwork_any n w1 (by omega) hn8).mono ?_; rintro e w2 ⟨bs, rfl, hnet, hbs, hb2⟩
    have HB2 := Lib.hid (HB1.out.trans (hb2.mono HB1.out.size))
    have hnbs : w1.heap.size < w2.heap.size := hnet.outer.lt
    have hbl := fun t (t0 : 0 ≤ t) (t1 : t < n) => (hnet.inner t t0 t1).lt
    have hb3 : Below w2.heap.size w2 (w2.alloc (.cells #[] 3)) := (Below.refl _ _).alloc (Nat.le_refl _) _
    have HR3 := Lib.hid (RowI.made w2 w.heap.size HB2.out.size)
    have HN3 := Lib.hid (hnet.below hb3)
    have HB3 := Lib.hid (HB2.out.trans (hb3.mono HB2.out.size))
    have hw1s := HB1.out.size
    have Hbs := Lib.hid (fun t (t0 : 0 ≤ t) (t1 : t < n) => And.intro (hbs t t0 t1) (hbl t t0 t1))
    clear hnet hb2 hb3 hbs hbl
    go_wp2_with fail
    refine (HM.out _ HB3.out).mono ?_; rintro e w4 ⟨ao, co, rfl, hord, hb4⟩
    obtain ⟨ob, hob⟩ : ∃ ob : Nat, 0 < l.length → ao = some ⟨ob, 0, none⟩ ∧ w2.heap.size + 1 ≤ ob ∧ ob < w4.heap.size ∧ IntAt w4 ob 0 (intsOf (orderM l)) := by
      by_cases h0 : 0 < l.length
      · obtain ⟨b, e1, e2, e3, e4⟩ := hord (by rintro rfl; simp at h0)
        exact ⟨b, fun _ => ⟨e1, by simpa using e2, e3, e4⟩⟩
      · exact ⟨0, fun h => absurd h h0⟩
    have HR4 := Lib.hid (HR3.out.below hb4)
    have HN4 := Lib.hid (HN3.out.below hb4)
    have HB4 := Lib.hid (HB3.out.trans (hb4.mono HB3.out.size))
    have Hob := Lib.hid (fun h => let q := hob h; And.intro q.1 q.2.1)
    have Hob2 := Lib.hid (show 0 < l.length → w2.heap.size ≠ ob ∧ ob < w4.heap.size ∧ IntAt w4 ob 0 (intsOf (orderM l)) from fun h => ⟨by have := (hob h).2.1; omega, (hob h).2.2⟩)
    clear hord hb4 hob HR3 HN3 HM
    go_wp2
    go_loopw [7, 21] (fun u iv wr => NpRel n l w w1.heap.size bs ob u iv wr) (fun _ iv _ => l.length - (intOf iv).toNat)
    case atStart => exact ⟨0, 0, w2.heap.size, 0, Nat.zero_le _, rfl, Nat.le_refl _, rfl, HN4.out, HR4.out, Hob2.out, HB4.out⟩
    case round =>
      clear HR4 HN4 Hob2 HB4
      obtain ⟨k, cn, g, cp, hk, rfl, hcn, rfl, hnet, hrow, hos, hb⟩ := hrel
      by_cases hlt : k < l.length
      · obtain ⟨hot1, hi, hnd, hmem⟩ := order_take hlt
        obtain ⟨hgo, hobl, hoat⟩ := hos (by omega)
        obtain ⟨rfl, hobn⟩ := Hob.out (by omega)
        have hlt' : (k : Int) < (l.length : Int) := by omega
        have hk0 : (0 : Int) ≤ (k : Int) := Int.natCast_nonneg _
        have c0 := hoat k (by rw [intsOf_len, orderM_length]; exact hlt)
        rw [intsOf_get (by rw [orderM_length]; exact hlt), Nat.zero_add] at c0
        have hmem0 : ∀ j, j ∈ (orderM l).take k → j < l.length := fun j hj => hmem j (by rw [hot1]; exact List.mem_append_left _ hj)
        have hnd0 : ((orderM l).take k).Nodup := (orderM_nodup l).sublist (List.take_sublist _ _)
        obtain ⟨s1, s2, s3⟩ := net_inv (n := n) hnd0 hmem0
        have s4 := (netTo_sub n l ((orderM l).take k)).length_le
        rw [List.length_take, orderM_length] at s4
        have hstep := netTo_snoc n l ((orderM l).take k) ((orderM l).getD k 0)
        rw [← hot1] at hstep
        have hj := fun h => join_pick (n := n) (l := l) Hz.out (S := netTo n l ((orderM l).take k)) (i := (orderM l).getD k 0) h
        obtain ⟨t1, t2, t3⟩ := net_inv (n := n) hnd hmem
        have hE := edges_ok (pickR_valid Hz.out s1 s2 s3)
        have hft := Hfit.out _ hi
        obtain ⟨b, o, rfl, hb0, hrw⟩ := Har.out (by intro h; simp [h] at hlt)
        obtain ⟨c1, c2, c3⟩ := (hrw.below hb hb0) _ hi
        have Hcell := Lib.hid (fun w' (h : Below w.heap.size w w') => (hrw.below h hb0) _ hi)
        have Hy := Lib.hid (fun h => stepK_yes (n := n) (l := l) (S := netTo n l ((orderM l).take k)) (i := (orderM l).getD k 0) h)
        have Hn := Lib.hid (fun h => stepK_no (n := n) (l := l) (S := netTo n l ((orderM l).take k)) (i := (orderM l).getD k 0) h)
        have Hstep := Lib.hid hstep; have Hj := Lib.hid hj; have HE := Lib.hid hE
        have Ht := Lib.hid (And.intro t1 (And.intro t2 t3))
        have Hoat := Lib.hid hoat
        have HB := Lib.hid hb
        have Hnet := Lib.hid hnet
        have Hrow := Lib.hid hrow
        clear hoat hmem0 hnd0 hnd hmem hot1 hstep hj hE t1 t2 t3 s1 s2 s3 hb hnet hrow hrw
        generalize hIx : (orderM l).getD k 0 = i at *
        generalize netTo n l ((orderM l).take k) = S at *
        have Hla := Lib.hid (show ∀ z, (l.getD i rd0) = z → (l.getD i rd0).a = z.a from fun z h => by rw [h])
        generalize (l.getD i rd0).a = ra at *
        generalize (l.getD i rd0).b = rb at *
        generalize (l.getD i rd0).m = rm at *
        obtain ⟨f1, f2, f3, f4, f5⟩ := hft
        have wa : W64 ra := by unfold W64; omega
        have wb : W64 rb := by unfold W64; omega
        have wm : W64 rm := by unfold W64; omega
        have hi' : (i : Int) < (l.length : Int) := by omega
        have hi0 : (0 : Int) ≤ (i : Int) := Int.natCast_nonneg _
        clear Hla hIx
        have HRe := Lib.hid (fun w' (h : Below wr.heap.size wr w') => reaches_any n _ ra rb w1.heap.size bs cn w' (Hnet.out.below h) HE.out wa wb (by omega))
        -- region
        go_wp2
        cases hr : reachB n (edge (pickR l S)) ra rb with
        | true =>
          have Hst := Lib.hid (show netTo n l ((orderM l).take (k + 1)) = S by rw [Hstep.out]; exact Hy.out hr)
          rw [hr] at HRe
          clear Hstep Hy Hn Hj Ht hr
          refine wp_region_any (by kernel_rfl) ?_
          change wpAny _ _ _ _ 13 #[false, false, false, false, false, false, false, false, false, false, false, false, false] _ (World.drew _)
          refine with_Q (fun _ _ _ _ _ h => h) (fun Q hQ hN => ?_)
          refine take_op (i := 0) (d := 25) (v := .map (some w1.heap.size)) rfl rfl (by kernel_rfl) (by kernel_rfl) (by kernel_rfl) hQ (Or.inl ⟨by rfl, fun _ => by first | rfl | (go_simp; done) | (go_simp; rfl)⟩) ?_
          simp only [Act.put, List.setIfInBounds_toArray, List.set_cons_zero, List.set_cons_succ]
          refine take_op (i := 1) (d := 26) (v := .slice (some ⟨b, o, none⟩) l.length cap) rfl rfl (by kernel_rfl) (by kernel_rfl) (by kernel_rfl) hQ (Or.inl ⟨by rfl, fun _ => by first | rfl | (go_simp; done) | (go_simp; rfl)⟩) ?_
          simp only [Act.put, List.setIfInBounds_toArray, List.set_cons_zero, List.set_cons_succ]
          refine take_op (i := 2) (d := 27) (v := .int .i64 i) rfl rfl (by kernel_rfl) (by kernel_rfl) (by kernel_rfl) hQ (Or.inl ⟨by rfl, fun _ => by first | rfl | (go_simp; done) | (go_simp; rfl)⟩) ?_
          simp only [Act.put, List.setIfInBounds_toArray, List.set_cons_zero, List.set_cons_succ]
          refine take_op (i := 3) (d := 28) (v := .pointer (some ⟨b, o + i * 3, none⟩)) rfl rfl (by kernel_rfl) (by kernel_rfl) (by kernel_rfl) hQ (Or.inl ⟨by rfl, fun _ => by first | rfl | (go_simp; done) | (go_simp; rfl)⟩) ?_
          simp only [Act.put, List.setIfInBounds_toArray, List.set_cons_zero, List.set_cons_succ]
          refine take_op (i := 4) (d := 29) (v := .pointer (some ⟨b, o + i * 3, none⟩)) rfl rfl (by kernel_rfl) (by kernel_rfl) (by kernel_rfl) hQ (Or.inl ⟨by rfl, fun _ => by first | rfl | (go_simp; done) | (go_simp; rfl)⟩) ?_
          simp only [Act.put, List.setIfInBounds_toArray, List.set_cons_zero, List.set_cons_succ]
          refine take_op (i := 6) (d := 31) (v := .slice (some ⟨b, o, none⟩) l.length cap) rfl rfl (by kernel_rfl) (by kernel_rfl) (by kernel_rfl) hQ (Or.inl ⟨by rfl, fun _ => by first | rfl | (go_simp; done) | (go_simp; rfl)⟩) ?_
          simp only [Act.put, List.setIfInBounds_toArray, List.set_cons_zero, List.set_cons_succ]
          refine take_op (i := 7) (d := 32) (v := .int .i64 i) rfl rfl (by kernel_rfl) (by kernel_rfl) (by kernel_rfl) hQ (Or.inl ⟨by rfl, fun _ => by first | rfl | (go_simp; done) | (go_simp; rfl)⟩) ?_
          simp only [Act.put, List.setIfInBounds_toArray, List.set_cons_zero, List.set_cons_succ]
          refine take_op (i := 8) (d := 33) (v := .pointer (some ⟨b, o + i * 3, none⟩)) rfl rfl (by kernel_rfl) (by kernel_rfl) (by kernel_rfl) hQ (Or.inl ⟨by rfl, fun _ => by first | rfl | (go_simp; done) | (go_simp; rfl)⟩) ?_
          simp only [Act.put, List.setIfInBounds_toArray, List.set_cons_zero, List.set_cons_succ]
          refine take_op (i := 9) (d := 34) (v := .pointer (some ⟨b, o + i * 3 + 1, none⟩)) rfl rfl (by kernel_rfl) (by kernel_rfl) (by kernel_rfl) hQ (Or.inl ⟨by rfl, fun _ => by first | rfl | (go_simp; done) | (go_simp; rfl)⟩) ?_
          simp only [Act.put, List.setIfInBounds_toArray, List.set_cons_zero, List.set_cons_succ]
          refine wpAny_ready (rs := [5, 10]) (by kernel_rfl) (by simp) ?_
          refine AllReady.cons rfl (fun K hK => ?_) (AllReady.cons rfl (fun K hK => ?_) AllReady.nil)
          · go_simp
            refine hK _ _ ?_
            try simp only [Act.put, List.setIfInBounds_toArray, List.set_cons_zero, List.set_cons_succ]
            clear hK K
            refine wpAny_ready (rs := [10]) (by kernel_rfl) (by simp) ?_
            refine AllReady.cons rfl (fun K hK => ?_) AllReady.nil
            go_simp
            refine hK _ _ ?_
            try simp only [Act.put, List.setIfInBounds_toArray, List.set_cons_zero, List.set_cons_succ]
            clear hK K
            refine wpAny_ready (rs := [11]) (by kernel_rfl) (by simp) ?_
            refine AllReady.cons rfl (fun K hK => ?_) AllReady.nil
            go_simp
            go_at_call 54
            refine (HRe.out _ ((Below.refl _ _).drew)).mono ?_; rintro e w5 ⟨rfl, hb5⟩
            refine hK _ _ ?_
            try simp only [Act.put, List.setIfInBounds_toArray, List.set_cons_zero, List.set_cons_succ]
            clear hK K
            refine take_op (i := 12) (d := 37) (v := .bool false) rfl rfl (by kernel_rfl) (by kernel_rfl) (by kernel_rfl) hQ (Or.inl ⟨by rfl, fun _ => by first | rfl | (go_simp; done) | (go_simp; rfl)⟩) ?_
            simp only [Act.put, List.setIfInBounds_toArray, List.set_cons_zero, List.set_cons_succ]
            refine wpAny_done (by kernel_rfl) (hN _ _ ?_) _
            have hb5' : Below wr.heap.size wr w5 := ((Below.refl _ _).drew).trans (hb5.mono (Nat.le_refl _))
            have HB5 := Lib.hid (HB.out.trans (hb5'.mono HB.out.size))
            have HN5 := Lib.hid (Hnet.out.below hb5')
            have HR5 := Lib.hid (Hrow.out.below hb5')
            have HO5 := Lib.hid (Hoat.out.below hb5' hobl)
            have hs5 := hb5'.size
            clear hb5 hb5' Hnet Hrow Hoat HB c0 c1 c2 c3
            go_wp2
            go_roundw
            case rel => exact ⟨k + 1, cn, g, cp, hlt, by go_num, by omega, by rw [Hst.out], by rw [Hst.out]; exact HN5.out, by rw [Hst.out]; exact HR5.out, fun _ => ⟨hgo, Nat.lt_of_lt_of_le hobl hs5, HO5.out⟩, HB5.out⟩
            case measure => simp [intOf]; omega
          · go_simp
            refine hK _ _ ?_
            try simp only [Act.put, List.setIfInBounds_toArray, List.set_cons_zero, List.set_cons_succ]
            clear hK K
            refine wpAny_ready (rs := [5]) (by kernel_rfl) (by simp) ?_
            refine AllReady.cons rfl (fun K hK => ?_) AllReady.nil
            go_simp
            refine hK _ _ ?_
            try simp only [Act.put, List.setIfInBounds_toArray, List.set_cons_zero, List.set_cons_succ]
            clear hK K
            refine wpAny_ready (rs := [11]) (by kernel_rfl) (by simp) ?_
            refine AllReady.cons rfl (fun K hK => ?_) AllReady.nil
            go_simp
            go_at_call 54
            refine (HRe.out _ ((Below.refl _ _).drew)).mono ?_; rintro e w5 ⟨rfl, hb5⟩
            refine hK _ _ ?_
            try simp only [Act.put, List.setIfInBounds_toArray, List.set_cons_zero, List.set_cons_succ]
            clear hK K
            refine take_op (i := 12) (d := 37) (v := .bool false) rfl rfl (by kernel_rfl) (by kernel_rfl) (by kernel_rfl) hQ (Or.inl ⟨by rfl, fun _ => by first | rfl | (go_simp; done) | (go_simp; rfl)⟩) ?_
            simp only [Act.put, List.setIfInBounds_toArray, List.set_cons_zero, List.set_cons_succ]
            refine wpAny_done (by kernel_rfl) (hN _ _ ?_) _
            have hb5' : Below wr.heap.size wr w5 := ((Below.refl _ _).drew).trans (hb5.mono (Nat.le_refl _))
            have HB5 := Lib.hid (HB.out.trans (hb5'.mono HB.out.size))
            have HN5 := Lib.hid (Hnet.out.below hb5')
            have HR5 := Lib.hid (Hrow.out.below hb5')
            have HO5 := Lib.hid (Hoat.out.below hb5' hobl)
            have hs5 := hb5'.size
            clear hb5 hb5' Hnet Hrow Hoat HB c0 c1 c2 c3
            go_wp2
            go_roundw
            case rel => exact ⟨k + 1, cn, g, cp, hlt, by go_num, by omega, by rw [Hst.out], by rw [Hst.out]; exact HN5.out, by rw [Hst.out]; exact HR5.out, fun _ => ⟨hgo, Nat.lt_of_lt_of_le hobl hs5, HO5.out⟩, HB5.out⟩
            case measure => simp [intOf]; omega
        | false =>
          have Hst := Lib.hid (show netTo n l ((orderM l).take (k + 1)) = S ++ [i] by rw [Hstep.out]; exact Hn.out hr)
          have Hjo := Lib.hid (show joinE (edge (pickR l S)) ra rb rm = edge (pickR l (S ++ [i])) by have h := Ht.out; rw [Hst.out] at h; exact Hj.out h.1 h.2.1 h.2.2)
          rw [hr] at HRe
          clear Hstep Hy Hn Hj hr
          refine wp_region_any (by kernel_rfl) ?_
          change wpAny _ _ _ _ 13 #[false, false, false, false, false, false, false, false, false, false, false, false, false] _ (World.drew _)
          refine with_Q (fun _ _ _ _ _ h => h) (fun Q hQ hN => ?_)
          refine take_op (i := 0) (d := 25) (v := .map (some w1.heap.size)) rfl rfl (by kernel_rfl) (by kernel_rfl) (by kernel_rfl) hQ (Or.inl ⟨by rfl, fun _ => by first | rfl | (go_simp; done) | (go_simp; rfl)⟩) ?_
          simp only [Act.put, List.setIfInBounds_toArray, List.set_cons_zero, List.set_cons_succ]
          refine take_op (i := 1) (d := 26) (v := .slice (some ⟨b, o, none⟩) l.length cap) rfl rfl (by kernel_rfl) (by kernel_rfl) (by kernel_rfl) hQ (Or.inl ⟨by rfl, fun _ => by first | rfl | (go_simp; done) | (go_simp; rfl)⟩) ?_
          simp only [Act.put, List.setIfInBounds_toArray, List.set_cons_zero, List.set_cons_succ]
          refine take_op (i := 2) (d := 27) (v := .int .i64 i) rfl rfl (by kernel_rfl) (by kernel_rfl) (by kernel_rfl) hQ (Or.inl ⟨by rfl, fun _ => by first | rfl | (go_simp; done) | (go_simp; rfl)⟩) ?_
          simp only [Act.put, List.setIfInBounds_toArray, List.set_cons_zero, List.set_cons_succ]
          refine take_op (i := 3) (d := 28) (v := .pointer (some ⟨b, o + i * 3, none⟩)) rfl rfl (by kernel_rfl) (by kernel_rfl) (by kernel_rfl) hQ (Or.inl ⟨by rfl, fun _ => by first | rfl | (go_simp; done) | (go_simp; rfl)⟩) ?_
          simp only [Act.put, List.setIfInBounds_toArray, List.set_cons_zero, List.set_cons_succ]
          refine take_op (i := 4) (d := 29) (v := .pointer (some ⟨b, o + i * 3, none⟩)) rfl rfl (by kernel_rfl) (by kernel_rfl) (by kernel_rfl) hQ (Or.inl ⟨by rfl, fun _ => by first | rfl | (go_simp; done) | (go_simp; rfl)⟩) ?_
          simp only [Act.put, List.setIfInBounds_toArray, List.set_cons_zero, List.set_cons_succ]
          refine take_op (i := 6) (d := 31) (v := .slice (some ⟨b, o, none⟩) l.length cap) rfl rfl (by kernel_rfl) (by kernel_rfl) (by kernel_rfl) hQ (Or.inl ⟨by rfl, fun _ => by first | rfl | (go_simp; done) | (go_simp; rfl)⟩) ?_
          simp only [Act.put, List.setIfInBounds_toArray, List.set_cons_zero, List.set_cons_succ]
          refine take_op (i := 7) (d := 32) (v := .int .i64 i) rfl rfl (by kernel_rfl) (by kernel_rfl) (by kernel_rfl) hQ (Or.inl ⟨by rfl, fun _ => by first | rfl | (go_simp; done) | (go_simp; rfl)⟩) ?_
          simp only [Act.put, List.setIfInBounds_toArray, List.set_cons_zero, List.set_cons_succ]
          refine take_op (i := 8) (d := 33) (v := .pointer (some ⟨b, o + i * 3, none⟩)) rfl rfl (by kernel_rfl) (by kernel_rfl) (by kernel_rfl) hQ (Or.inl ⟨by rfl, fun _ => by first | rfl | (go_simp; done) | (go_simp; rfl)⟩) ?_
          simp only [Act.put, List.setIfInBounds_toArray, List.set_cons_zero, List.set_cons_succ]
          refine take_op (i := 9) (d := 34) (v := .pointer (some ⟨b, o + i * 3 + 1, none⟩)) rfl rfl (by kernel_rfl) (by kernel_rfl) (by kernel_rfl) hQ (Or.inl ⟨by rfl, fun _ => by first | rfl | (go_simp; done) | (go_simp; rfl)⟩) ?_
          simp only [Act.put, List.setIfInBounds_toArray, List.set_cons_zero, List.set_cons_succ]
          refine wpAny_ready (rs := [5, 10]) (by kernel_rfl) (by simp) ?_
          refine AllReady.cons rfl (fun K hK => ?_) (AllReady.cons rfl (fun K hK => ?_) AllReady.nil)
          · go_simp
            refine hK _ _ ?_
            try simp only [Act.put, List.setIfInBounds_toArray, List.set_cons_zero, List.set_cons_succ]
            clear hK K
            refine wpAny_ready (rs := [10]) (by kernel_rfl) (by simp) ?_
            refine AllReady.cons rfl (fun K hK => ?_) AllReady.nil
            go_simp
            refine hK _ _ ?_
            try simp only [Act.put, List.setIfInBounds_toArray, List.set_cons_zero, List.set_cons_succ]
            clear hK K
            refine wpAny_ready (rs := [11]) (by kernel_rfl) (by simp) ?_
            refine AllReady.cons rfl (fun K hK => ?_) AllReady.nil
            go_simp
            go_at_call 54
            refine (HRe.out _ ((Below.refl _ _).drew)).mono ?_; rintro e w5 ⟨rfl, hb5⟩
            refine hK _ _ ?_
            try simp only [Act.put, List.setIfInBounds_toArray, List.set_cons_zero, List.set_cons_succ]
            clear hK K
            refine take_op (i := 12) (d := 37) (v := .bool true) rfl rfl (by kernel_rfl) (by kernel_rfl) (by kernel_rfl) hQ (Or.inl ⟨by rfl, fun _ => by first | rfl | (go_simp; done) | (go_simp; rfl)⟩) ?_
            simp only [Act.put, List.setIfInBounds_toArray, List.set_cons_zero, List.set_cons_succ]
            refine wpAny_done (by kernel_rfl) (hN _ _ ?_) _
            have hb5' : Below wr.heap.size wr w5 := ((Below.refl _ _).drew).trans (hb5.mono (Nat.le_refl _))
            have HB5 := Lib.hid (HB.out.trans (hb5'.mono HB.out.size))
            have HN5 := Lib.hid (Hnet.out.below hb5')
            have HR5 := Lib.hid (Hrow.out.below hb5')
            have HO5 := Lib.hid (Hoat.out.below hb5' hobl)
            have hs5 := hb5'.size
            clear hb5 hb5' Hnet Hrow Hoat HB c0 c1 c2 c3
            obtain ⟨e1, e2, e3⟩ := Hcell.out w5 HB5.out
            obtain ⟨off1, off2⟩ := own_off_net (by have h := HR5.out; unfold RowI at h; rw [intsOf_len] at h; exact h) HN5.out
            go_wp2_with fail
            refine (join_any w1.heap.size n bs cn _ ra rb rm _ HN5.out f1 (by omega) (by omega) f3 hn8 wm (by omega)).mono ?_; rintro e w6 ⟨rfl, hnet6, t6⟩
            rw [Hjo.out] at hnet6
            have hown6 := own_touch HR5.out t6 (fun g' e h => by cases e; rcases h with h | h; exact off2 _ f1 (by omega) h; exact off2 _ (by omega) f3 h)
            rw [intsOf_len] at hown6
            have hba := Hbs.out ra f1 (by omega)
            have hbb := Hbs.out rb (by omega) f3
            have hb6 : Below w.heap.size w w6 := HB5.out.trans (t6.below (by rintro j (h | h) <;> omega) HB5.out.size)
            have ho6 := HO5.out.touchN t6 (by omega) (by rintro (h | h) <;> omega)
            have hs6 : w5.heap.size ≤ w6.heap.size := t6.size
            have hs60 := hb6.size
            obtain ⟨off3, off4⟩ := own_off_net hown6 hnet6
            have HN6 := Lib.hid hnet6; have HB6 := Lib.hid hb6; have HO6 := Lib.hid ho6
            have HF4 := Lib.hid off4
            clear hnet6 t6 hb6 ho6 off1 off2 e1 e2 e3 HN5 HR5 HO5 HB5 HRe off4 HE Ht
            go_wp2_with (at_builtin; refine wpList_append_lies _ rfl _ _ 26 rfl w.heap.size 3 i0 (.int .i64 0) 1 8 Try.underlying26 hinf hz0 hz1 hz2 rfl (by decide) _ _ _ rfl (hown6.alloc _) ⟨w6.heap.size, 0, none⟩ 1 1 [.int .i64 i] rfl rfl (cell_one_new _ _ _) (by simp [Value.oneCell']) (by decide) (by simp only [maxLen]; omega) (by omega) (by simp; omega) (w6.heap.size + 1) (by simp) ?_; intro g8 cp8 w8 hown8 hgrow hat8 hlt8)
            have ha6 : Below w6.heap.size w6 (w6.alloc (.cells #[.int .i64 i] 3)) := (Below.refl _ _).alloc (Nat.le_refl _) _
            have ht8 : Touch (fun j => j = g) (w6.alloc (.cells #[.int .i64 i] 3)) w8 := Touch.grown hgrow rfl
            have HB8 := Lib.hid ((HB6.out.alloc hs60 (.cells #[.int .i64 i] 3)).grown hgrow (by simp; omega) (fun j hj => (hown6.lt j hj).1))
            have HN8 := Lib.hid ((HN6.out.below ha6).touch ht8 (fun h => off3 h.symm) (fun t t0 t1 h => HF4.out t t0 t1 h.symm))
            have HO8 := Lib.hid ((HO6.out.below ha6 (show ob < w6.heap.size by omega)).touchN ht8 (by simp; omega) (fun h => hgo h.symm))
            have hob8 : ob < w8.heap.size := by have := ht8.size; simp at this; omega
            have hgo8 : g8 ≠ ob := hat8.elim (fun h => by injection h with h; exact fun e => hgo (Eq.trans h e)) (fun h => by omega)
            have HR8 := Lib.hid (show RowI w8 w.heap.size (.slice (some ⟨g8, 0, none⟩) (S.length + 1) cp8) (intsOf (S ++ [i])) by rw [intsOf_snoc]; exact RowI.snoc (by rw [intsOf_len]; exact hown8))
            have Hlen := Lib.hid (show (S ++ [i]).length = S.length + 1 by simp)
            go_wp2
            go_roundw
            case rel => exact ⟨k + 1, cn + 2, g8, cp8, hlt, by go_num, by omega, by rw [Hst.out, Hlen.out], by rw [Hst.out]; exact HN8.out, by rw [Hst.out]; exact HR8.out, fun _ => ⟨hgo8, hob8, HO8.out⟩, HB8.out⟩
            case measure => simp [intOf]; omega
          · go_simp
            refine hK _ _ ?_
            try simp only [Act.put, List.setIfInBounds_toArray, List.set_cons_zero, List.set_cons_succ]
            clear hK K
            refine wpAny_ready (rs := [5]) (by kernel_rfl) (by simp) ?_
            refine AllReady.cons rfl (fun K hK => ?_) AllReady.nil
            go_simp
            refine hK _ _ ?_
            try simp only [Act.put, List.setIfInBounds_toArray, List.set_cons_zero, List.set_cons_succ]
            clear hK K
            refine wpAny_ready (rs := [11]) (by kernel_rfl) (by simp) ?_
            refine AllReady.cons rfl (fun K hK => ?_) AllReady.nil
            go_simp
            go_at_call 54
            refine (HRe.out _ ((Below.refl _ _).drew)).mono ?_; rintro e w5 ⟨rfl, hb5⟩
            refine hK _ _ ?_
            try simp only [Act.put, List.setIfInBounds_toArray, List.set_cons_zero, List.set_cons_succ]
            clear hK K
            refine take_op (i := 12) (d := 37) (v := .bool true) rfl rfl (by kernel_rfl) (by kernel_rfl) (by kernel_rfl) hQ (Or.inl ⟨by rfl, fun _ => by first | rfl | (go_simp; done) | (go_simp; rfl)⟩) ?_
            simp only [Act.put, List.setIfInBounds_toArray, List.set_cons_zero, List.set_cons_succ]
            refine wpAny_done (by kernel_rfl) (hN _ _ ?_) _
            have hb5' : Below wr.heap.size wr w5 := ((Below.refl _ _).drew).trans (hb5.mono (Nat.le_refl _))
            have HB5 := Lib.hid (HB.out.trans (hb5'.mono HB.out.size))
            have HN5 := Lib.hid (Hnet.out.below hb5')
            have HR5 := Lib.hid (Hrow.out.below hb5')
            have HO5 := Lib.hid (Hoat.out.below hb5' hobl)
            have hs5 := hb5'.size
            clear hb5 hb5' Hnet Hrow Hoat HB c0 c1 c2 c3
            obtain ⟨e1, e2, e3⟩ := Hcell.out w5 HB5.out
            obtain ⟨off1, off2⟩ := own_off_net (by have h := HR5.out; unfold RowI at h; rw [intsOf_len] at h; exact h) HN5.out
            go_wp2_with fail
            refine (join_any w1.heap.size n bs cn _ ra rb rm _ HN5.out f1 (by omega) (by omega) f3 hn8 wm (by omega)).mono ?_; rintro e w6 ⟨rfl, hnet6, t6⟩
            rw [Hjo.out] at hnet6
            have hown6 := own_touch HR5.out t6 (fun g' e h => by cases e; rcases h with h | h; exact off2 _ f1 (by omega) h; exact off2 _ (by omega) f3 h)
            rw [intsOf_len] at hown6
            have hba := Hbs.out ra f1 (by omega)
            have hbb := Hbs.out rb (by omega) f3
            have hb6 : Below w.heap.size w w6 := HB5.out.trans (t6.below (by rintro j (h | h) <;> omega) HB5.out.size)
            have ho6 := HO5.out.touchN t6 (by omega) (by rintro (h | h) <;> omega)
            have hs6 : w5.heap.size ≤ w6.heap.size := t6.size
            have hs60 := hb6.size
            obtain ⟨off3, off4⟩ := own_off_net hown6 hnet6
            have HN6 := Lib.hid hnet6; have HB6 := Lib.hid hb6; have HO6 := Lib.hid ho6
            have HF4 := Lib.hid off4
            clear hnet6 t6 hb6 ho6 off1 off2 e1 e2 e3 HN5 HR5 HO5 HB5 HRe off4 HE Ht
            go_wp2_with (at_builtin; refine wpList_append_lies _ rfl _ _ 26 rfl w.heap.size 3 i0 (.int .i64 0) 1 8 Try.underlying26 hinf hz0 hz1 hz2 rfl (by decide) _ _ _ rfl (hown6.alloc _) ⟨w6.heap.size, 0, none⟩ 1 1 [.int .i64 i] rfl rfl (cell_one_new _ _ _) (by simp [Value.oneCell']) (by decide) (by simp only [maxLen]; omega) (by omega) (by simp; omega) (w6.heap.size + 1) (by simp) ?_; intro g8 cp8 w8 hown8 hgrow hat8 hlt8)
            have ha6 : Below w6.heap.size w6 (w6.alloc (.cells #[.int .i64 i] 3)) := (Below.refl _ _).alloc (Nat.le_refl _) _
            have ht8 : Touch (fun j => j = g) (w6.alloc (.cells #[.int .i64 i] 3)) w8 := Touch.grown hgrow rfl
            have HB8 := Lib.hid ((HB6.out.alloc hs60 (.cells #[.int .i64 i] 3)).grown hgrow (by simp; omega) (fun j hj => (hown6.lt j hj).1))
            have HN8 := Lib.hid ((HN6.out.below ha6).touch ht8 (fun h => off3 h.symm) (fun t t0 t1 h => HF4.out t t0 t1 h.symm))
            have HO8 := Lib.hid ((HO6.out.below ha6 (show ob < w6.heap.size by omega)).touchN ht8 (by simp; omega) (fun h => hgo h.symm))
            have hob8 : ob < w8.heap.size := by have := ht8.size; simp at this; omega
            have hgo8 : g8 ≠ ob := hat8.elim (fun h => by injection h with h; exact fun e => hgo (Eq.trans h e)) (fun h => by omega)
            have HR8 := Lib.hid (show RowI w8 w.heap.size (.slice (some ⟨g8, 0, none⟩) (S.length + 1) cp8) (intsOf (S ++ [i])) by rw [intsOf_snoc]; exact RowI.snoc (by rw [intsOf_len]; exact hown8))
            have Hlen := Lib.hid (show (S ++ [i]).length = S.length + 1 by simp)
            go_wp2
            go_roundw
            case rel => exact ⟨k + 1, cn + 2, g8, cp8, hlt, by go_num, by omega, by rw [Hst.out, Hlen.out], by rw [Hst.out]; exact HN8.out, by rw [Hst.out]; exact HR8.out, fun _ => ⟨hgo8, hob8, HO8.out⟩, HB8.out⟩
            case measure => simp [intOf]; omega
      · obtain rfl : k = l.length := by omega
        have htk : (orderM l).take l.length = orderM l := by rw [← orderM_length l, List.take_length]
        rw [htk] at hrow hnet ⊢
        have hsort : ((intsOf (netTo n l (orderM l))).mergeSort fun x y => decide (x ≤ y)) = netUp n l l.length := netUp_sort n l
        have hsh := (netS_inv n l).2.2
        unfold netS at hsh
        have hlen := intsOf_len (netTo n l (orderM l))
        have hown := hrow
        unfold RowI at hown
        rw [← hlen] at hown
        have hS := sortI_own hown (by omega)
        rw [hsort, hlen] at hS
        have hpl : (netUp n l l.length).length = (intsOf (netTo n l (orderM l))).length := by rw [← hsort, List.length_mergeSort]
        rw [← hlen] at hS
        have Hgr := Lib.hid (fun w' (h : wr.grownBy w' (some g)) => hb.grown h hb.size (fun j hj => by injection hj with hj; subst hj; exact (hown.lt _ rfl).1))
        have HS := Lib.hid hS
        have Hpl := Lib.hid hpl
        rw [← hlen]
        clear hsort hsh hlen hown hS hpl hrow hb hnet hos htk
        generalize intsOf (netTo n l (orderM l)) = zs at *
        generalize netUp n l l.length = ps at *
        go_wp2_with fail
        refine HS.out.mono ?_; rintro e w4 ⟨rfl, ho4, hg4⟩
        have HR4 := Lib.hid (show RowI w4 w.heap.size (.slice (some ⟨g, 0, none⟩) zs.length cp) ps by unfold RowI; rw [Hpl.out]; exact ho4)
        have HI := Lib.hid (IntsOk.row (w := w) true HR4.out (Nat.le_refl _) (Hgr.out w4 hg4))
        clear ho4 hg4 HR4
        go_wp2
        go_ret2
        exact HI.out

end Go.Proofs.Ytlkhgnglblgldaa
/- RoadsNet of the model. -/
namespace Go.Proofs.Ytlkhgnglblgldaa
open Go.RowKit

theorem Try.infoBoolN : (Try.prog.info? 4).map (fun i => (i.zero, i.size, i.bytes)) = some (some (.bool false), 1, 1) := by kernel_rfl

/-- Marks: n cells of bool from ⟨b, 0⟩ on, that may be written. -/
def MkAt (w : World) (b n : Nat) (f : Nat → Bool) : Prop := (∀ i, i < n → w.cell? ⟨b, i, none⟩ = some (.bool (f i))) ∧ (∀ o, w.frozen? ⟨b, o, none⟩ = false) ∧ b < w.heap.size
theorem MkAt.made (w : World) (n : Nat) (t : TypeId) : MkAt (w.alloc (.cells (madeCells #[.bool false] n) t)) w.heap.size n (fun _ => false) :=
  ⟨fun i hi => by
    rw [World.cell?_alloc_new]
    rw [← Array.getElem?_toList, toList_madeCells_one, List.getElem?_replicate, if_pos hi], fun o => by simp, by simp⟩
theorem MkAt.put {w : World} {b n : Nat} {f : Nat → Bool} (h : MkAt w b n f) {k : Nat} (hk : k < n) (x : Bool) : MkAt (w.setCell ⟨b, k, none⟩ (.bool x)) b n (fun i => if i = k then x else f i) :=
  ⟨fun i hi => by
    by_cases e : i = k
    · subst e
      rw [World.cell?_setCell_same _ _ _ (h.1 i hi)]; simp
    · rw [World.cell?_setCell_other _ _ _ _ (by intro h; injection h; omega), h.1 i hi]; simp [e], fun o => by rw [World.frozen?_setCell]; exact h.2.1 o, by have := h.2.2; simpa [World.setCell] using this⟩
theorem MkAt.below {w w' : World} {b n : Nat} {f : Nat → Bool} (h : MkAt w b n f) {B : Nat} (hb : Below B w w') (hlt : b < B) : MkAt w' b n f :=
  ⟨fun i hi => by rw [hb.cell (p := ⟨b, i, none⟩) hlt]; exact h.1 i hi, fun o => by rw [hb.frozen (p := ⟨b, o, none⟩) hlt]; exact h.2.1 o, Nat.lt_of_lt_of_le h.2.2 hb.size⟩
theorem MkAt.blk {w w' : World} {b n : Nat} {f : Nat → Bool} (h : MkAt w b n f) (e : w'.heap[b]? = w.heap[b]?) (hs : w.heap.size ≤ w'.heap.size) : MkAt w' b n f :=
  ⟨fun i hi => by rw [World.cell?_of_block (a := ⟨b, i, none⟩) e]; exact h.1 i hi, fun o => by rw [World.frozen?_of_block (a := ⟨b, o, none⟩) e]; exact h.2.1 o, Nat.lt_of_lt_of_le h.2.2 hs⟩
theorem MkAt.drewN {w : World} {b n : Nat} {f : Nat → Bool} (h : MkAt w b n f) (m : Nat) : MkAt (w.drewN m) b n f := h
theorem contains_snocN (xs : List Nat) (k : Nat) : (fun i => (xs ++ [k]).contains i) = fun i => if i = k then true else xs.contains i := by
  funext i
  by_cases e : i = k
  · subst e; simp
  · simp [e]
theorem RowRz.setFar {w : World} {B g n cap : Nat} {l : List Rz} (h : RowRz w B (.slice (some ⟨g, 0, none⟩) n cap) l) {p : Addr} (hp : g ≠ p.block) (u : Value) : RowRz (w.setCell p u) B (.slice (some ⟨g, 0, none⟩) n cap) l := by
  obtain ⟨h1, h2⟩ := h
  refine ⟨h1, ?_⟩
  rcases h2 with ⟨h0, _⟩ | ⟨g', cap', cur, hv, hg, hh, r⟩
  · cases h0
  · cases hv
    exact .inr ⟨g, cap, cur, rfl, hg, (Below.heap_setCell w p u g hp).trans hh, r⟩

/-- Those taken so far, and their marks. -/
def NmRel (n : Int) (l : List Rd) (w : World) (mb : Nat) (o : List Nat) (u : Value) (wr : World) : Prop :=
  ∃ (g cap : Nat), u = .slice (some ⟨g, 0, none⟩) (pickR l (netTo n l o)).length cap ∧ (pickR l (netTo n l o)).length ≤ cap ∧ RowRz wr w.heap.size u (pickR l (netTo n l o)) ∧ g ≠ mb ∧ MkAt wr mb l.length (fun j => (netTo n l o).contains j) ∧ Below w.heap.size w wr

set_option maxRecDepth 100000 in
set_option maxHeartbeats 2000000 in
theorem net1_any (n : Int) (v : Value) (l : List Rd) (w : World) (hv : RoadsIn w v l) (hl : l.length ≤ 1048576) :
    Calls Try.prog 15 #[.int .i64 n, v] w (IntsOk (netL n l) (wholeOf n l) w) := by
  obtain ⟨i0, hinf, hz0, hz1, hz2⟩ := info_parts Try.info3
  obtain ⟨ir, hir, hr0, hr1, hr2⟩ := info_parts infoRz
  obtain ⟨i4, hi4, hz40, hz41, hz42⟩ := info_parts Try.infoBoolN
  have hmk := fun W => run_make_rowN (P := Try.prog) 75 4 i4 _ Try.underlying75 hi4 hz40 .i64 .i64 l.length l.length (Nat.le_refl _) (by rw [hz42]; omega) (by omega) W
  rw [hz41] at hmk
  simp only [Nat.mul_one] at hmk
  have HW := Lib.hid (specWhole_any n v l w hv hl)
  cases hok : wholeOf n l with
  | false =>
    rw [netL_no hok]
    rw [hok] at HW
    clear hok
    go_enter Try.func15, Try.ntmps15
    go_wp2_with fail
    refine HW.out.mono ?_; rintro e w1 ⟨rfl, hb1⟩
    have HB := Lib.hid hb1; clear hb1
    go_wp2
    go_ret2
    exact IntsOk.no HB.out.size (by simp) (HB.out.alloc HB.out.size _)
  | true =>
    rw [netL_yes hok]
    rw [hok] at HW
    have hz : validR n l = true := by unfold wholeOf at hok; rw [Bool.and_eq_true] at hok; exact hok.1
    obtain ⟨hn1, hn8, h16, hokT⟩ := valid_bounds hz
    have hfit := fun i (hi : i < l.length) => (fits_iff _ _).1 ((okAt_iff n l i).1 (okTo_at n l hokT hi)).1
    have Hfit := Lib.hid hfit
    have Hend := Lib.hid (ordT_end (l := l) fun i hi => ⟨(hfit i hi).2.2.2.1, (hfit i hi).2.2.2.2⟩)
    have Hz := Lib.hid hz
    obtain ⟨ad, cap, rfl, har⟩ := hv
    have Har := Lib.hid har
    clear hok hz hokT hfit har
    go_enter Try.func15, Try.ntmps15
    go_wp2_with fail
    refine HW.out.mono ?_; rintro e w1 ⟨rfl, hb1⟩
    have hs1 := hb1.size
    have hr1' := RowRz.made w1 w.heap.size hs1
    have hb2 : Below w.heap.size w (w1.alloc (.cells #[] 49)) := hb1.alloc hs1 _
    have hm3 := MkAt.made (w1.alloc (.cells #[] 49)) l.length 4
    have e2 : (w1.alloc (.cells #[] 49)).heap.size = w1.heap.size + 1 := by simp
    have hx3 : Below (w1.alloc (.cells #[] 49)).heap.size (w1.alloc (.cells #[] 49)) ((w1.alloc (.cells #[] 49)).alloc (.cells (madeCells #[.bool false] l.length) 4)) := (Below.refl _ _).alloc (Nat.le_refl _) _
    have hr3 := hr1'.below hx3
    have hb3 := hb2.trans (hx3.mono hb2.size)
    rw [e2] at hm3
    have HR3 := Lib.hid hr3; have HM3 := Lib.hid hm3; have HB3 := Lib.hid hb3
    have hmb : w.heap.size ≤ w1.heap.size + 1 := by omega
    clear hb1 hr1' hb2 hm3 e2 hx3 hr3 hb3 HW
    go_wp2
    generalize (w1.alloc (.cells #[] 49)).alloc (.cells (madeCells #[.bool false] l.length) 4) = w3 at *
    go_loopw [6, 8] (fun u tv wr => ∃ t : Nat, t ≤ 99 ∧ tv = .int .i64 (t + 1 : Nat) ∧ NmRel n l w (w1.heap.size + 1) (ordT l t 0) u wr) (fun _ tv _ => 101 - (intOf tv).toNat)
    case atStart => exact ⟨0, Nat.zero_le _, rfl, by rw [ordT_start]; exact ⟨w1.heap.size, 0, rfl, Nat.le_refl _, HR3.out, by omega, HM3.out, HB3.out⟩⟩
    case round =>
      clear HR3 HM3 HB3
      obtain ⟨t, ht, rfl, hrel⟩ := hrel
      obtain ⟨T, hT⟩ : ∃ T : Int, ((t + 1 : Nat) : Int) = T := ⟨_, rfl⟩
      rw [hT]
      have HT := Lib.hid hT
      by_cases htl : t < 99
      · have hT1 : T ≤ 99 := by omega
        have hT0 : 1 ≤ T := by omega
        clear hT
        have HRel := Lib.hid hrel
        clear hrel
        go_wp2
        go_loopw [6, 9] (fun u iv wr => ∃ i : Nat, i ≤ l.length ∧ iv = .int .i64 i ∧ NmRel n l w (w1.heap.size + 1) (ordT l t i) u wr) (fun _ iv _ => l.length - (intOf iv).toNat)
        case atStart => exact ⟨0, Nat.zero_le _, rfl, HRel.out⟩
        case round =>
          clear HRel
          obtain ⟨i, hi, rfl, hrel⟩ := hrel
          by_cases hil : i < l.length
          · have hil' : (i : Int) < (l.length : Int) := by omega
            have hi0 : (0 : Int) ≤ (i : Int) := Int.natCast_nonneg _
            obtain ⟨g, cp, rfl, hcp, hrow, hgm, hmk', hb⟩ := hrel
            obtain ⟨b, o, rfl, hb0, hrw⟩ := Har.out (by intro h; simp [h] at hil)
            obtain ⟨c1, c2, c3⟩ := (hrw.below hb hb0) _ hil
            have Hcell := Lib.hid (fun w' (h : Below w.heap.size w w') => (hrw.below h hb0) _ hil)
            have hft := Hfit.out _ hil
            obtain ⟨s1, s2, s3⟩ := net_inv (n := n) (ordT_nodup l t i) (fun j hj => ordT_mem hi hj)
            have hval := pickR_valid Hz.out s1 s2 s3
            have h16' : (pickR l (netTo n l (ordT l t i))).length ≤ 16 := by rw [pickR_len]; omega
            have Hhit := Lib.hid (fun h => ordT_hit (l := l) (t := t) (i := i) h)
            have Hmiss := Lib.hid (fun h => ordT_miss (l := l) (t := t) (i := i) h)
            rw [HT.out] at Hhit Hmiss
            have Hstep := Lib.hid (netTo_snoc n l (ordT l t i) i)
            have Hy := Lib.hid (fun h => stepK_yes (n := n) (l := l) (S := netTo n l (ordT l t i)) (i := i) h)
            have Hn := Lib.hid (fun h => stepK_no (n := n) (l := l) (S := netTo n l (ordT l t i)) (i := i) h)
            have Hps := Lib.hid (pickR_snoc l (netTo n l (ordT l t i)) i)
            have Hfr := Lib.hid (far_reach hval (l.getD i rd0).a (l.getD i rd0).b)
            have hgl : g < wr.heap.size := by
              obtain ⟨_, h2⟩ := hrow
              rcases h2 with ⟨h0, _⟩ | ⟨g', _, _, hv', _, hh, _⟩
              · cases h0
              · cases hv'; exact (Array.getElem?_eq_some_iff.1 hh).1
            have HB := Lib.hid hb; have Hrow := Lib.hid hrow; have HMk := Lib.hid hmk'
            clear hb hrow hmk' hrw s1 s2 s3 hval
            obtain ⟨r, hr⟩ : ∃ r, l.getD i rd0 = r := ⟨_, rfl⟩
            rw [hr] at c1 c2 c3 hft Hcell Hhit Hmiss Hps Hfr Hy Hn
            clear hr
            generalize hSo : netTo n l (ordT l t i) = S at *
            have HSo := Lib.hid hSo
            clear hSo
            obtain ⟨ra, rb, rm⟩ := r
            simp only at c1 c2 c3 hft Hcell Hhit Hmiss Hfr Hy Hn
            obtain ⟨f1, f2, f3, f4, f5⟩ := hft
            by_cases hm : rm = T
            · have hq : (rm == T) = true := by simpa using hm
              have HFar := Lib.hid (fun w' (h : Below wr.heap.size wr w') => specFar_any n _ (pickR l S) ra rb w' ((Hrow.out.in_ hcp).below h) (by omega))
              obtain ⟨f, hf⟩ : ∃ f, farOf n (pickR l S) ra rb = f := ⟨_, rfl⟩
              rw [hf] at HFar Hfr
              have Hh := Lib.hid (Hhit.out hm)
              clear hf Hhit Hmiss
              subst hm
              cases hrr : reachB n (edge (pickR l S)) ra rb with
              | true =>
                have Hst := Lib.hid (show netTo n l (ordT l t (i + 1)) = S by rw [Hh.out, Hstep.out]; exact Hy.out hrr)
                have hfd : decide (f < 0) = false := decide_eq_false (fun h => by have := Hfr.out.1 h; rw [hrr] at this; cases this)
                clear Hy Hn Hfr hrr Hh Hstep
                go_wp2
                refine wp_region_any (by kernel_rfl) ?_
                change wpAny _ _ _ _ 23 #[false, false, false, false, false, false, false, false, false, false, false, false, false, false, false, false, false, false, false, false, false, false, false] _ (World.drew _)
                refine with_Q (fun _ _ _ _ _ h => h) (fun Q hQ hN => ?_)
                refine take_op (i := 0) (d := 31) (v := .slice (some ⟨b, o, none⟩) l.length cap) rfl rfl (by kernel_rfl) (by kernel_rfl) (by kernel_rfl) hQ (Or.inl ⟨by rfl, fun _ => by first | rfl | (go_simp; done) | (go_simp; rfl)⟩) ?_
                simp only [Act.put, List.setIfInBounds_toArray, List.set_cons_zero, List.set_cons_succ]
                refine take_op (i := 1) (d := 32) (v := .int .i64 i) rfl rfl (by kernel_rfl) (by kernel_rfl) (by kernel_rfl) hQ (Or.inl ⟨by rfl, fun _ => by first | rfl | (go_simp; done) | (go_simp; rfl)⟩) ?_
                simp only [Act.put, List.setIfInBounds_toArray, List.set_cons_zero, List.set_cons_succ]
                refine take_op (i := 2) (d := 33) (v := .pointer (some ⟨b, o + i * 3, none⟩)) rfl rfl (by kernel_rfl) (by kernel_rfl) (by kernel_rfl) hQ (Or.inl ⟨by rfl, fun _ => by first | rfl | (go_simp; done) | (go_simp; rfl)⟩) ?_
                simp only [Act.put, List.setIfInBounds_toArray, List.set_cons_zero, List.set_cons_succ]
                refine take_op (i := 3) (d := 34) (v := .pointer (some ⟨b, o + i * 3 + 2, none⟩)) rfl rfl (by kernel_rfl) (by kernel_rfl) (by kernel_rfl) hQ (Or.inl ⟨by rfl, fun _ => by first | rfl | (go_simp; done) | (go_simp; rfl)⟩) ?_
                simp only [Act.put, List.setIfInBounds_toArray, List.set_cons_zero, List.set_cons_succ]
                refine take_op (i := 5) (d := 36) (v := .int .i64 rm) rfl rfl (by kernel_rfl) (by kernel_rfl) (by kernel_rfl) hQ (Or.inl ⟨by rfl, fun _ => by first | rfl | (go_simp; done) | (go_simp; rfl)⟩) ?_
                simp only [Act.put, List.setIfInBounds_toArray, List.set_cons_zero, List.set_cons_succ]
                refine wpAny_ready (rs := [4]) (by kernel_rfl) (by simp) ?_
                refine AllReady.cons rfl (fun K hK => ?_) AllReady.nil
                go_simp
                refine hK _ _ ?_
                try simp only [Act.put, List.setIfInBounds_toArray, List.set_cons_zero, List.set_cons_succ]
                clear hK K
                refine take_op (i := 6) (d := 37) (v := .bool true) rfl rfl (by kernel_rfl) (by kernel_rfl) (by kernel_rfl) hQ (Or.inl ⟨by rfl, fun _ => by first | rfl | (go_simp; done) | (go_simp; rfl)⟩) ?_
                simp only [Act.put, List.setIfInBounds_toArray, List.set_cons_zero, List.set_cons_succ]
                refine take_op (i := 7) (d := 38) (v := .bool true) rfl rfl (by kernel_rfl) (by kernel_rfl) (by kernel_rfl) hQ (Or.inl ⟨by rfl, fun _ => by first | rfl | (go_simp; done) | (go_simp; rfl)⟩) ?_
                simp only [Act.put, List.setIfInBounds_toArray, List.set_cons_zero, List.set_cons_succ]
                refine take_op (i := 8) (d := 39) (v := .int .i64 n) rfl rfl (by kernel_rfl) (by kernel_rfl) (by kernel_rfl) hQ (Or.inl ⟨by rfl, fun _ => by first | rfl | (go_simp; done) | (go_simp; rfl)⟩) ?_
                simp only [Act.put, List.setIfInBounds_toArray, List.set_cons_zero, List.set_cons_succ]
                refine take_op (i := 9) (d := 40) (v := .slice (some ⟨g, 0, none⟩) (pickR l S).length cp) rfl rfl (by kernel_rfl) (by kernel_rfl) (by kernel_rfl) hQ (Or.inl ⟨by rfl, fun _ => by first | rfl | (go_simp; done) | (go_simp; rfl)⟩) ?_
                simp only [Act.put, List.setIfInBounds_toArray, List.set_cons_zero, List.set_cons_succ]
                refine take_op (i := 10) (d := 41) (v := .slice (some ⟨b, o, none⟩) l.length cap) rfl rfl (by kernel_rfl) (by kernel_rfl) (by kernel_rfl) hQ (Or.inl ⟨by rfl, fun _ => by first | rfl | (go_simp; done) | (go_simp; rfl)⟩) ?_
                simp only [Act.put, List.setIfInBounds_toArray, List.set_cons_zero, List.set_cons_succ]
                refine take_op (i := 11) (d := 42) (v := .int .i64 i) rfl rfl (by kernel_rfl) (by kernel_rfl) (by kernel_rfl) hQ (Or.inl ⟨by rfl, fun _ => by first | rfl | (go_simp; done) | (go_simp; rfl)⟩) ?_
                simp only [Act.put, List.setIfInBounds_toArray, List.set_cons_zero, List.set_cons_succ]
                refine take_op (i := 12) (d := 43) (v := .pointer (some ⟨b, o + i * 3, none⟩)) rfl rfl (by kernel_rfl) (by kernel_rfl) (by kernel_rfl) hQ (Or.inl ⟨by rfl, fun _ => by first | rfl | (go_simp; done) | (go_simp; rfl)⟩) ?_
                simp only [Act.put, List.setIfInBounds_toArray, List.set_cons_zero, List.set_cons_succ]
                refine take_op (i := 13) (d := 44) (v := .pointer (some ⟨b, o + i * 3, none⟩)) rfl rfl (by kernel_rfl) (by kernel_rfl) (by kernel_rfl) hQ (Or.inl ⟨by rfl, fun _ => by first | rfl | (go_simp; done) | (go_simp; rfl)⟩) ?_
                simp only [Act.put, List.setIfInBounds_toArray, List.set_cons_zero, List.set_cons_succ]
                refine take_op (i := 15) (d := 46) (v := .slice (some ⟨b, o, none⟩) l.length cap) rfl rfl (by kernel_rfl) (by kernel_rfl) (by kernel_rfl) hQ (Or.inl ⟨by rfl, fun _ => by first | rfl | (go_simp; done) | (go_simp; rfl)⟩) ?_
                simp only [Act.put, List.setIfInBounds_toArray, List.set_cons_zero, List.set_cons_succ]
                refine take_op (i := 16) (d := 47) (v := .int .i64 i) rfl rfl (by kernel_rfl) (by kernel_rfl) (by kernel_rfl) hQ (Or.inl ⟨by rfl, fun _ => by first | rfl | (go_simp; done) | (go_simp; rfl)⟩) ?_
                simp only [Act.put, List.setIfInBounds_toArray, List.set_cons_zero, List.set_cons_succ]
                refine take_op (i := 17) (d := 48) (v := .pointer (some ⟨b, o + i * 3, none⟩)) rfl rfl (by kernel_rfl) (by kernel_rfl) (by kernel_rfl) hQ (Or.inl ⟨by rfl, fun _ => by first | rfl | (go_simp; done) | (go_simp; rfl)⟩) ?_
                simp only [Act.put, List.setIfInBounds_toArray, List.set_cons_zero, List.set_cons_succ]
                refine take_op (i := 18) (d := 49) (v := .pointer (some ⟨b, o + i * 3 + 1, none⟩)) rfl rfl (by kernel_rfl) (by kernel_rfl) (by kernel_rfl) hQ (Or.inl ⟨by rfl, fun _ => by first | rfl | (go_simp; done) | (go_simp; rfl)⟩) ?_
                simp only [Act.put, List.setIfInBounds_toArray, List.set_cons_zero, List.set_cons_succ]
                refine wpAny_ready (rs := [14, 19]) (by kernel_rfl) (by simp) ?_
                refine AllReady.cons rfl (fun K hK => ?_) (AllReady.cons rfl (fun K hK => ?_) AllReady.nil)
                · go_simp
                  refine hK _ _ ?_
                  try simp only [Act.put, List.setIfInBounds_toArray, List.set_cons_zero, List.set_cons_succ]
                  clear hK K
                  refine wpAny_ready (rs := [19]) (by kernel_rfl) (by simp) ?_
                  refine AllReady.cons rfl (fun K hK => ?_) AllReady.nil
                  go_simp
                  refine hK _ _ ?_
                  try simp only [Act.put, List.setIfInBounds_toArray, List.set_cons_zero, List.set_cons_succ]
                  clear hK K
                  refine wpAny_ready (rs := [20]) (by kernel_rfl) (by simp) ?_
                  refine AllReady.cons rfl (fun K hK => ?_) AllReady.nil
                  go_simp
                  go_at_call 50
                  refine (HFar.out _ ((Below.refl _ _).drew)).mono ?_; rintro e w5 ⟨rfl, hb5⟩
                  refine hK _ _ ?_
                  try simp only [Act.put, List.setIfInBounds_toArray, List.set_cons_zero, List.set_cons_succ]
                  clear hK K
                  refine take_op (i := 21) (d := 52) (v := .bool (decide (f < 0))) rfl rfl (by kernel_rfl) (by kernel_rfl) (by kernel_rfl) hQ (Or.inl ⟨by rfl, fun _ => by first | rfl | (go_simp; done) | (go_simp; rfl)⟩) ?_
                  simp only [Act.put, List.setIfInBounds_toArray, List.set_cons_zero, List.set_cons_succ]
                  refine take_op (i := 22) (d := 53) (v := .bool (decide (f < 0))) rfl rfl (by kernel_rfl) (by kernel_rfl) (by kernel_rfl) hQ (Or.inl ⟨by rfl, fun _ => by first | rfl | (go_simp; done) | (go_simp; rfl)⟩) ?_
                  simp only [Act.put, List.setIfInBounds_toArray, List.set_cons_zero, List.set_cons_succ]
                  refine wpAny_done (by kernel_rfl) (hN _ _ ?_) _
                  have hb5' : Below wr.heap.size wr w5 := ((Below.refl _ _).drew).trans (hb5.mono (Nat.le_refl _))
                  have HB5 := Lib.hid (HB.out.trans (hb5'.mono HB.out.size))
                  have HR5 := Lib.hid (Hrow.out.below hb5')
                  have HM5 := Lib.hid (HMk.out.below hb5' HMk.out.2.2)
                  have hs5 := hb5'.size
                  rw [hfd]
                  clear hb5 hb5' HB Hrow HMk c1 c2 c3
                  go_wp2
                  go_roundw
                  case rel => exact ⟨i + 1, hil, by go_num, by unfold NmRel; rw [Hst.out]; exact ⟨g, cp, rfl, hcp, HR5.out, hgm, HM5.out, HB5.out⟩⟩
                  case measure => simp [intOf]; omega
                · go_simp
                  refine hK _ _ ?_
                  try simp only [Act.put, List.setIfInBounds_toArray, List.set_cons_zero, List.set_cons_succ]
                  clear hK K
                  refine wpAny_ready (rs := [14]) (by kernel_rfl) (by simp) ?_
                  refine AllReady.cons rfl (fun K hK => ?_) AllReady.nil
                  go_simp
                  refine hK _ _ ?_
                  try simp only [Act.put, List.setIfInBounds_toArray, List.set_cons_zero, List.set_cons_succ]
                  clear hK K
                  refine wpAny_ready (rs := [20]) (by kernel_rfl) (by simp) ?_
                  refine AllReady.cons rfl (fun K hK => ?_) AllReady.nil
                  go_simp
                  go_at_call 50
                  refine (HFar.out _ ((Below.refl _ _).drew)).mono ?_; rintro e w5 ⟨rfl, hb5⟩
                  refine hK _ _ ?_
                  try simp only [Act.put, List.setIfInBounds_toArray, List.set_cons_zero, List.set_cons_succ]
                  clear hK K
                  refine take_op (i := 21) (d := 52) (v := .bool (decide (f < 0))) rfl rfl (by kernel_rfl) (by kernel_rfl) (by kernel_rfl) hQ (Or.inl ⟨by rfl, fun _ => by first | rfl | (go_simp; done) | (go_simp; rfl)⟩) ?_
                  simp only [Act.put, List.setIfInBounds_toArray, List.set_cons_zero, List.set_cons_succ]
                  refine take_op (i := 22) (d := 53) (v := .bool (decide (f < 0))) rfl rfl (by kernel_rfl) (by kernel_rfl) (by kernel_rfl) hQ (Or.inl ⟨by rfl, fun _ => by first | rfl | (go_simp; done) | (go_simp; rfl)⟩) ?_
                  simp only [Act.put, List.setIfInBounds_toArray, List.set_cons_zero, List.set_cons_succ]
                  refine wpAny_done (by kernel_rfl) (hN _ _ ?_) _
                  have hb5' : Below wr.heap.size wr w5 := ((Below.refl _ _).drew).trans (hb5.mono (Nat.le_refl _))
                  have HB5 := Lib.hid (HB.out.trans (hb5'.mono HB.out.size))
                  have HR5 := Lib.hid (Hrow.out.below hb5')
                  have HM5 := Lib.hid (HMk.out.below hb5' HMk.out.2.2)
                  have hs5 := hb5'.size
                  rw [hfd]
                  clear hb5 hb5' HB Hrow HMk c1 c2 c3
                  go_wp2
                  go_roundw
                  case rel => exact ⟨i + 1, hil, by go_num, by unfold NmRel; rw [Hst.out]; exact ⟨g, cp, rfl, hcp, HR5.out, hgm, HM5.out, HB5.out⟩⟩
                  case measure => simp [intOf]; omega
              | false =>
                have Hst := Lib.hid (show netTo n l (ordT l t (i + 1)) = S ++ [i] by rw [Hh.out, Hstep.out]; exact Hn.out hrr)
                have hfd : decide (f < 0) = true := decide_eq_true (Hfr.out.2 hrr)
                clear Hy Hn Hfr hrr Hh Hstep
                go_wp2
                refine wp_region_any (by kernel_rfl) ?_
                change wpAny _ _ _ _ 23 #[false, false, false, false, false, false, false, false, false, false, false, false, false, false, false, false, false, false, false, false, false, false, false] _ (World.drew _)
                refine with_Q (fun _ _ _ _ _ h => h) (fun Q hQ hN => ?_)
                refine take_op (i := 0) (d := 31) (v := .slice (some ⟨b, o, none⟩) l.length cap) rfl rfl (by kernel_rfl) (by kernel_rfl) (by kernel_rfl) hQ (Or.inl ⟨by rfl, fun _ => by first | rfl | (go_simp; done) | (go_simp; rfl)⟩) ?_
                simp only [Act.put, List.setIfInBounds_toArray, List.set_cons_zero, List.set_cons_succ]
                refine take_op (i := 1) (d := 32) (v := .int .i64 i) rfl rfl (by kernel_rfl) (by kernel_rfl) (by kernel_rfl) hQ (Or.inl ⟨by rfl, fun _ => by first | rfl | (go_simp; done) | (go_simp; rfl)⟩) ?_
                simp only [Act.put, List.setIfInBounds_toArray, List.set_cons_zero, List.set_cons_succ]
                refine take_op (i := 2) (d := 33) (v := .pointer (some ⟨b, o + i * 3, none⟩)) rfl rfl (by kernel_rfl) (by kernel_rfl) (by kernel_rfl) hQ (Or.inl ⟨by rfl, fun _ => by first | rfl | (go_simp; done) | (go_simp; rfl)⟩) ?_
                simp only [Act.put, List.setIfInBounds_toArray, List.set_cons_zero, List.set_cons_succ]
                refine take_op (i := 3) (d := 34) (v := .pointer (some ⟨b, o + i * 3 + 2, none⟩)) rfl rfl (by kernel_rfl) (by kernel_rfl) (by kernel_rfl) hQ (Or.inl ⟨by rfl, fun _ => by first | rfl | (go_simp; done) | (go_simp; rfl)⟩) ?_
                simp only [Act.put, List.setIfInBounds_toArray, List.set_cons_zero, List.set_cons_succ]
                refine take_op (i := 5) (d := 36) (v := .int .i64 rm) rfl rfl (by kernel_rfl) (by kernel_rfl) (by kernel_rfl) hQ (Or.inl ⟨by rfl, fun _ => by first | rfl | (go_simp; done) | (go_simp; rfl)⟩) ?_
                simp only [Act.put, List.setIfInBounds_toArray, List.set_cons_zero, List.set_cons_succ]
                refine wpAny_ready (rs := [4]) (by kernel_rfl) (by simp) ?_
                refine AllReady.cons rfl (fun K hK => ?_) AllReady.nil
                go_simp
                refine hK _ _ ?_
                try simp only [Act.put, List.setIfInBounds_toArray, List.set_cons_zero, List.set_cons_succ]
                clear hK K
                refine take_op (i := 6) (d := 37) (v := .bool true) rfl rfl (by kernel_rfl) (by kernel_rfl) (by kernel_rfl) hQ (Or.inl ⟨by rfl, fun _ => by first | rfl | (go_simp; done) | (go_simp; rfl)⟩) ?_
                simp only [Act.put, List.setIfInBounds_toArray, List.set_cons_zero, List.set_cons_succ]
                refine take_op (i := 7) (d := 38) (v := .bool true) rfl rfl (by kernel_rfl) (by kernel_rfl) (by kernel_rfl) hQ (Or.inl ⟨by rfl, fun _ => by first | rfl | (go_simp; done) | (go_simp; rfl)⟩) ?_
                simp only [Act.put, List.setIfInBounds_toArray, List.set_cons_zero, List.set_cons_succ]
                refine take_op (i := 8) (d := 39) (v := .int .i64 n) rfl rfl (by kernel_rfl) (by kernel_rfl) (by kernel_rfl) hQ (Or.inl ⟨by rfl, fun _ => by first | rfl | (go_simp; done) | (go_simp; rfl)⟩) ?_
                simp only [Act.put, List.setIfInBounds_toArray, List.set_cons_zero, List.set_cons_succ]
                refine take_op (i := 9) (d := 40) (v := .slice (some ⟨g, 0, none⟩) (pickR l S).length cp) rfl rfl (by kernel_rfl) (by kernel_rfl) (by kernel_rfl) hQ (Or.inl ⟨by rfl, fun _ => by first | rfl | (go_simp; done) | (go_simp; rfl)⟩) ?_
                simp only [Act.put, List.setIfInBounds_toArray, List.set_cons_zero, List.set_cons_succ]
                refine take_op (i := 10) (d := 41) (v := .slice (some ⟨b, o, none⟩) l.length cap) rfl rfl (by kernel_rfl) (by kernel_rfl) (by kernel_rfl) hQ (Or.inl ⟨by rfl, fun _ => by first | rfl | (go_simp; done) | (go_simp; rfl)⟩) ?_
                simp only [Act.put, List.setIfInBounds_toArray, List.set_cons_zero, List.set_cons_succ]
                refine take_op (i := 11) (d := 42) (v := .int .i64 i) rfl rfl (by kernel_rfl) (by kernel_rfl) (by kernel_rfl) hQ (Or.inl ⟨by rfl, fun _ => by first | rfl | (go_simp; done) | (go_simp; rfl)⟩) ?_
                simp only [Act.put, List.setIfInBounds_toArray, List.set_cons_zero, List.set_cons_succ]
                refine take_op (i := 12) (d := 43) (v := .pointer (some ⟨b, o + i * 3, none⟩)) rfl rfl (by kernel_rfl) (by kernel_rfl) (by kernel_rfl) hQ (Or.inl ⟨by rfl, fun _ => by first | rfl | (go_simp; done) | (go_simp; rfl)⟩) ?_
                simp only [Act.put, List.setIfInBounds_toArray, List.set_cons_zero, List.set_cons_succ]
                refine take_op (i := 13) (d := 44) (v := .pointer (some ⟨b, o + i * 3, none⟩)) rfl rfl (by kernel_rfl) (by kernel_rfl) (by kernel_rfl) hQ (Or.inl ⟨by rfl, fun _ => by first | rfl | (go_simp; done) | (go_simp; rfl)⟩) ?_
                simp only [Act.put, List.setIfInBounds_toArray, List.set_cons_zero, List.set_cons_succ]
                refine take_op (i := 15) (d := 46) (v := .slice (some ⟨b, o, none⟩) l.length cap) rfl rfl (by kernel_rfl) (by kernel_rfl) (by kernel_rfl) hQ (Or.inl ⟨by rfl, fun _ => by first | rfl | (go_simp; done) | (go_simp; rfl)⟩) ?_
                simp only [Act.put, List.setIfInBounds_toArray, List.set_cons_zero, List.set_cons_succ]
                refine take_op (i := 16) (d := 47) (v := .int .i64 i) rfl rfl (by kernel_rfl) (by kernel_rfl) (by kernel_rfl) hQ (Or.inl ⟨by rfl, fun _ => by first | rfl | (go_simp; done) | (go_simp; rfl)⟩) ?_
                simp only [Act.put, List.setIfInBounds_toArray, List.set_cons_zero, List.set_cons_succ]
                refine take_op (i := 17) (d := 48) (v := .pointer (some ⟨b, o + i * 3, none⟩)) rfl rfl (by kernel_rfl) (by kernel_rfl) (by kernel_rfl) hQ (Or.inl ⟨by rfl, fun _ => by first | rfl | (go_simp; done) | (go_simp; rfl)⟩) ?_
                simp only [Act.put, List.setIfInBounds_toArray, List.set_cons_zero, List.set_cons_succ]
                refine take_op (i := 18) (d := 49) (v := .pointer (some ⟨b, o + i * 3 + 1, none⟩)) rfl rfl (by kernel_rfl) (by kernel_rfl) (by kernel_rfl) hQ (Or.inl ⟨by rfl, fun _ => by first | rfl | (go_simp; done) | (go_simp; rfl)⟩) ?_
                simp only [Act.put, List.setIfInBounds_toArray, List.set_cons_zero, List.set_cons_succ]
                refine wpAny_ready (rs := [14, 19]) (by kernel_rfl) (by simp) ?_
                refine AllReady.cons rfl (fun K hK => ?_) (AllReady.cons rfl (fun K hK => ?_) AllReady.nil)
                · go_simp
                  refine hK _ _ ?_
                  try simp only [Act.put, List.setIfInBounds_toArray, List.set_cons_zero, List.set_cons_succ]
                  clear hK K
                  refine wpAny_ready (rs := [19]) (by kernel_rfl) (by simp) ?_
                  refine AllReady.cons rfl (fun K hK => ?_) AllReady.nil
                  go_simp
                  refine hK _ _ ?_
                  try simp only [Act.put, List.setIfInBounds_toArray, List.set_cons_zero, List.set_cons_succ]
                  clear hK K
                  refine wpAny_ready (rs := [20]) (by kernel_rfl) (by simp) ?_
                  refine AllReady.cons rfl (fun K hK => ?_) AllReady.nil
                  go_simp
                  go_at_call 50
                  refine (HFar.out _ ((Below.refl _ _).drew)).mono ?_; rintro e w5 ⟨rfl, hb5⟩
                  refine hK _ _ ?_
                  try simp only [Act.put, List.setIfInBounds_toArray, List.set_cons_zero, List.set_cons_succ]
                  clear hK K
                  refine take_op (i := 21) (d := 52) (v := .bool (decide (f < 0))) rfl rfl (by kernel_rfl) (by kernel_rfl) (by kernel_rfl) hQ (Or.inl ⟨by rfl, fun _ => by first | rfl | (go_simp; done) | (go_simp; rfl)⟩) ?_
                  simp only [Act.put, List.setIfInBounds_toArray, List.set_cons_zero, List.set_cons_succ]
                  refine take_op (i := 22) (d := 53) (v := .bool (decide (f < 0))) rfl rfl (by kernel_rfl) (by kernel_rfl) (by kernel_rfl) hQ (Or.inl ⟨by rfl, fun _ => by first | rfl | (go_simp; done) | (go_simp; rfl)⟩) ?_
                  simp only [Act.put, List.setIfInBounds_toArray, List.set_cons_zero, List.set_cons_succ]
                  refine wpAny_done (by kernel_rfl) (hN _ _ ?_) _
                  have hb5' : Below wr.heap.size wr w5 := ((Below.refl _ _).drew).trans (hb5.mono (Nat.le_refl _))
                  have HB5 := Lib.hid (HB.out.trans (hb5'.mono HB.out.size))
                  have HR5 := Lib.hid (Hrow.out.below hb5')
                  have HM5 := Lib.hid (HMk.out.below hb5' HMk.out.2.2)
                  have hs5 := hb5'.size
                  rw [hfd]
                  clear hb5 hb5' HB Hrow HMk c1 c2 c3
                  obtain ⟨e1, e2, e3⟩ := Hcell.out w5 HB5.out
                  have hs50 := HB5.out.size
                  have hown5 := HR5.out
                  unfold RowRz at hown5
                  have hmlt := HM5.out.2.2
                  go_wp2_with (at_builtin; refine wpList_append_lies _ rfl _ _ 37 rfl w.heap.size 49 ir _ 3 24 Try.underlying37 hir hr0 hr1 hr2 rfl (by decide) _ _ (encRz (pickR l S)) rfl (World.ownsRow.alloc hown5 _) ⟨w5.heap.size, 0, none⟩ 1 1 [.int .i64 ra, .int .i64 rb, .int .i64 rm] rfl rfl (World.news_of_block (cs := #[.int .i64 ra, .int .i64 rb, .int .i64 rm]) (t := 49) (fr := (0, 0)) (heap_alloc_new w5 _)) (by simp [Value.oneCell']) (by decide) (by simp only [maxLen]; omega) (by omega) (by simp; omega) (w5.heap.size + 1) (by simp) ?_; intro g8 cp8 w8 hown8 hgrow hat8 hlt8; have hm8 := (HM5.out.below (B := w5.heap.size) ((Below.refl _ _).alloc (Nat.le_refl _) (.cells #[.int .i64 ra, .int .i64 rb, .int .i64 rm] 49)) hmlt).blk (hgrow.block (w1.heap.size + 1) (by simp; omega) (fun e => by injection e with e; exact hgm (Eq.symm e))) hgrow.size; have cm := hm8.1 i hil; have hfz := hm8.2.1 i)
                  have HB8 := Lib.hid ((HB5.out.alloc hs50 (.cells #[.int .i64 ra, .int .i64 rb, .int .i64 rm] 49)).grown hgrow (by simp; omega) (fun j hj => (hown5.lt j hj).1))
                  have hg8 : g8 ≠ w1.heap.size + 1 := hat8.elim (fun h => by injection h with h; exact fun e => hgm (Eq.trans h e)) (fun h => by omega)
                  have hR8 : RowRz w8 w.heap.size (.slice (some ⟨g8, 0, none⟩) ((pickR l S).length + 1) cp8) (pickR l S ++ [⟨ra, rb, rm⟩]) := RowRz.snoc hown8
                  have hcp8 : (pickR l S).length + 1 ≤ cp8 := by
                    obtain ⟨_, h2⟩ := hown8
                    rcases h2 with ⟨h0, _⟩ | ⟨_, _, _, hv', _, _, h3, _⟩
                    · cases h0
                    · cases hv'; exact h3
                  have HR9 := Lib.hid (RowRz.setFar (p := ⟨w1.heap.size + 1, i, none⟩) hR8 hg8 (.bool true))
                  have HM9 := Lib.hid (show MkAt (w8.setCell ⟨w1.heap.size + 1, i, none⟩ (.bool true)) (w1.heap.size + 1) l.length (fun j => (S ++ [i]).contains j) by rw [contains_snocN]; exact hm8.put hil true)
                  have HB9 := Lib.hid (HB8.out.setCell (p := ⟨w1.heap.size + 1, i, none⟩) hmb (.bool true))
                  have Hlen := Lib.hid (show (pickR l S ++ [(⟨ra, rb, rm⟩ : Rd)]).length = (pickR l S).length + 1 by simp)
                  clear hown8 hgrow hown5 hat8 hm8 cm hfz hR8 HB8
                  go_roundw
                  case rel => exact ⟨i + 1, hil, by go_num, by unfold NmRel; rw [Hst.out, Hps.out, Hlen.out]; exact ⟨g8, cp8, rfl, hcp8, HR9.out, hg8, HM9.out, HB9.out⟩⟩
                  case measure => simp [intOf]; omega
                · go_simp
                  refine hK _ _ ?_
                  try simp only [Act.put, List.setIfInBounds_toArray, List.set_cons_zero, List.set_cons_succ]
                  clear hK K
                  refine wpAny_ready (rs := [14]) (by kernel_rfl) (by simp) ?_
                  refine AllReady.cons rfl (fun K hK => ?_) AllReady.nil
                  go_simp
                  refine hK _ _ ?_
                  try simp only [Act.put, List.setIfInBounds_toArray, List.set_cons_zero, List.set_cons_succ]
                  clear hK K
                  refine wpAny_ready (rs := [20]) (by kernel_rfl) (by simp) ?_
                  refine AllReady.cons rfl (fun K hK => ?_) AllReady.nil
                  go_simp
                  go_at_call 50
                  refine (HFar.out _ ((Below.refl _ _).drew)).mono ?_; rintro e w5 ⟨rfl, hb5⟩
                  refine hK _ _ ?_
                  try simp only [Act.put, List.setIfInBounds_toArray, List.set_cons_zero, List.set_cons_succ]
                  clear hK K
                  refine take_op (i := 21) (d := 52) (v := .bool (decide (f < 0))) rfl rfl (by kernel_rfl) (by kernel_rfl) (by kernel_rfl) hQ (Or.inl ⟨by rfl, fun _ => by first | rfl | (go_simp; done) | (go_simp; rfl)⟩) ?_
                  simp only [Act.put, List.setIfInBounds_toArray, List.set_cons_zero, List.set_cons_succ]
                  refine take_op (i := 22) (d := 53) (v := .bool (decide (f < 0))) rfl rfl (by kernel_rfl) (by kernel_rfl) (by kernel_rfl) hQ (Or.inl ⟨by rfl, fun _ => by first | rfl | (go_simp; done) | (go_simp; rfl)⟩) ?_
                  simp only [Act.put, List.setIfInBounds_toArray, List.set_cons_zero, List.set_cons_succ]
                  refine wpAny_done (by kernel_rfl) (hN _ _ ?_) _
                  have hb5' : Below wr.heap.size wr w5 := ((Below.refl _ _).drew).trans (hb5.mono (Nat.le_refl _))
                  have HB5 := Lib.hid (HB.out.trans (hb5'.mono HB.out.size))
                  have HR5 := Lib.hid (Hrow.out.below hb5')
                  have HM5 := Lib.hid (HMk.out.below hb5' HMk.out.2.2)
                  have hs5 := hb5'.size
                  rw [hfd]
                  clear hb5 hb5' HB Hrow HMk c1 c2 c3
                  obtain ⟨e1, e2, e3⟩ := Hcell.out w5 HB5.out
                  have hs50 := HB5.out.size
                  have hown5 := HR5.out
                  unfold RowRz at hown5
                  have hmlt := HM5.out.2.2
                  go_wp2_with (at_builtin; refine wpList_append_lies _ rfl _ _ 37 rfl w.heap.size 49 ir _ 3 24 Try.underlying37 hir hr0 hr1 hr2 rfl (by decide) _ _ (encRz (pickR l S)) rfl (World.ownsRow.alloc hown5 _) ⟨w5.heap.size, 0, none⟩ 1 1 [.int .i64 ra, .int .i64 rb, .int .i64 rm] rfl rfl (World.news_of_block (cs := #[.int .i64 ra, .int .i64 rb, .int .i64 rm]) (t := 49) (fr := (0, 0)) (heap_alloc_new w5 _)) (by simp [Value.oneCell']) (by decide) (by simp only [maxLen]; omega) (by omega) (by simp; omega) (w5.heap.size + 1) (by simp) ?_; intro g8 cp8 w8 hown8 hgrow hat8 hlt8; have hm8 := (HM5.out.below (B := w5.heap.size) ((Below.refl _ _).alloc (Nat.le_refl _) (.cells #[.int .i64 ra, .int .i64 rb, .int .i64 rm] 49)) hmlt).blk (hgrow.block (w1.heap.size + 1) (by simp; omega) (fun e => by injection e with e; exact hgm (Eq.symm e))) hgrow.size; have cm := hm8.1 i hil; have hfz := hm8.2.1 i)
                  have HB8 := Lib.hid ((HB5.out.alloc hs50 (.cells #[.int .i64 ra, .int .i64 rb, .int .i64 rm] 49)).grown hgrow (by simp; omega) (fun j hj => (hown5.lt j hj).1))
                  have hg8 : g8 ≠ w1.heap.size + 1 := hat8.elim (fun h => by injection h with h; exact fun e => hgm (Eq.trans h e)) (fun h => by omega)
                  have hR8 : RowRz w8 w.heap.size (.slice (some ⟨g8, 0, none⟩) ((pickR l S).length + 1) cp8) (pickR l S ++ [⟨ra, rb, rm⟩]) := RowRz.snoc hown8
                  have hcp8 : (pickR l S).length + 1 ≤ cp8 := by
                    obtain ⟨_, h2⟩ := hown8
                    rcases h2 with ⟨h0, _⟩ | ⟨_, _, _, hv', _, _, h3, _⟩
                    · cases h0
                    · cases hv'; exact h3
                  have HR9 := Lib.hid (RowRz.setFar (p := ⟨w1.heap.size + 1, i, none⟩) hR8 hg8 (.bool true))
                  have HM9 := Lib.hid (show MkAt (w8.setCell ⟨w1.heap.size + 1, i, none⟩ (.bool true)) (w1.heap.size + 1) l.length (fun j => (S ++ [i]).contains j) by rw [contains_snocN]; exact hm8.put hil true)
                  have HB9 := Lib.hid (HB8.out.setCell (p := ⟨w1.heap.size + 1, i, none⟩) hmb (.bool true))
                  have Hlen := Lib.hid (show (pickR l S ++ [(⟨ra, rb, rm⟩ : Rd)]).length = (pickR l S).length + 1 by simp)
                  clear hown8 hgrow hown5 hat8 hm8 cm hfz hR8 HB8
                  go_roundw
                  case rel => exact ⟨i + 1, hil, by go_num, by unfold NmRel; rw [Hst.out, Hps.out, Hlen.out]; exact ⟨g8, cp8, rfl, hcp8, HR9.out, hg8, HM9.out, HB9.out⟩⟩
                  case measure => simp [intOf]; omega
            · have hq : (rm == T) = false := by simpa using hm
              have Hm := Lib.hid (Hmiss.out hm)
              clear Hhit Hmiss hm
              go_wp2
              go_quiet (fail)
              go_wp2
              exact ⟨⟨i + 1, hil, by go_num, by unfold NmRel; rw [Hm.out]; exact ⟨g, cp, by rw [HSo.out], by rw [HSo.out]; exact hcp, by rw [HSo.out]; exact Hrow.out.below ((Below.refl _ _).drewN _), hgm, by rw [HSo.out]; exact HMk.out.drewN _, HB.out.drewN _⟩⟩, by simp [intOf]; omega⟩
          · obtain rfl : i = l.length := by omega
            have HRel := Lib.hid hrel
            clear hrel
            rw [ordT_next] at HRel
            go_wp2
            exact ⟨⟨t + 1, by omega, by have := HT.out; congr 1; omega, HRel.out⟩, by simp [intOf]; omega⟩
      · obtain rfl : t = 99 := by omega
        have hT1 : ¬ T ≤ 99 := by omega
        rw [Hend.out] at hrel
        obtain ⟨g, cp, rfl, hcp, hrow, hgm, hmk', hb⟩ := hrel
        have hmk2 : MkAt wr (w1.heap.size + 1) l.length (fun j => (netS n l).contains j) := hmk'
        have hs0 := hb.size
        have hmlt := hmk2.2.2
        have Hr1 := Lib.hid (RowI.made wr w.heap.size hs0)
        have Hm2 := Lib.hid (hmk2.below ((Below.refl wr.heap.size wr).alloc (Nat.le_refl _) (.cells #[] 3)) hmk2.2.2)
        have Hb2 := Lib.hid (hb.alloc hs0 (.cells #[] 3))
        clear hmk' hmk2 hrow hcp hb hT ht htl
        go_wp2
        go_loopw [10, 11] (fun u i w3 => ∃ k : Nat, k ≤ l.length ∧ i = .int .i64 k ∧ RowI w3 w.heap.size u (netUp n l k) ∧ u.ownBlock ≠ some (w1.heap.size + 1) ∧ MkAt w3 (w1.heap.size + 1) l.length (fun i => (netS n l).contains i) ∧ Below w.heap.size w w3) (fun _ i _ => l.length - (intOf i).toNat)
        case atStart => exact ⟨0, Nat.zero_le _, rfl, Hr1.out, by simp [Value.ownBlock]; omega, Hm2.out, Hb2.out⟩
        case round =>
          clear Hr1 Hm2 Hb2 hmlt hs0
          obtain ⟨k, hk, rfl, hr, hne, hm, hb⟩ := hrel
          have HR := Lib.hid hr
          have HB := Lib.hid hb
          have HNE := Lib.hid hne
          by_cases hkl : k < l.length
          · have hk' : (k : Int) < (l.length : Int) := by omega
            have hk0 : (0 : Int) ≤ (k : Int) := Int.natCast_nonneg _
            have c : wr.cell? ⟨w1.heap.size + 1, k, none⟩ = some (.bool ((netS n l).contains k)) := hm.1 k hkl
            have hpl := netUp_len n l k
            have Hsn := Lib.hid (netUp_succ n l k)
            have HM := Lib.hid hm
            have hown := hr
            unfold RowI at hown
            have hszr := hb.size
            clear hr hm hb hne
            generalize hys : netUp n l k = ys at *
            generalize (netS n l).contains k = q at *
            cases q with
            | true =>
              simp only [↓reduceIte] at Hsn
              go_wp2_with (at_builtin; refine wpList_append_own_at _ rfl _ _ 26 rfl w.heap.size 3 i0 (.int .i64 0) 1 8 Try.underlying26 hinf hz0 hz1 hz2 rfl (by decide) _ _ _ rfl (hown.alloc _) ⟨wr.heap.size, 0, none⟩ 1 1 [.int .i64 k] rfl rfl (cell_one_new _ _ _) (by simp [Value.oneCell']) (by simp only [maxLen]; omega) (by omega) (by simp; omega) ?_; intro v' w8 hown8 hgrow _ hatb)
              have HB8 := Lib.hid ((HB.out.alloc hszr (.cells #[.int .i64 k] 3)).grown hgrow (by simp; omega) (fun j hj => (hown.lt j hj).1))
              have Hr8 := Lib.hid (show RowI w8 w.heap.size v' (netUp n l (k + 1)) by
                rw [Hsn.out]; exact RowI.snoc hown8)
              have hsm := HM.out.2.2
              have HM8 := Lib.hid ((HM.out.below (B := wr.heap.size) ((Below.refl _ _).alloc (Nat.le_refl _) (.cells #[.int .i64 k] 3)) hsm).blk (hgrow.block (w1.heap.size + 1) (by simp; omega) (fun e => HNE.out e.symm)) hgrow.size)
              have Hn8 := Lib.hid (show v'.ownBlock ≠ some (w1.heap.size + 1) from fun e => by
                rcases hatb with h | h
                · exact HNE.out (h.symm.trans e)
                · rw [h] at e; injection e with e; simp at e; omega)
              clear hown8 hgrow hown hatb
              go_wp2
              exact ⟨⟨k + 1, hkl, by go_num, Hr8.out, Hn8.out, HM8.out, HB8.out⟩, by simp [intOf]; omega⟩
            | false =>
              simp only [Bool.false_eq_true, ↓reduceIte, List.append_nil] at Hsn
              go_wp2
              exact ⟨⟨k + 1, hkl, by go_num, by rw [Hsn.out]; exact HR.out, HNE.out, HM.out, HB.out⟩, by simp [intOf]; omega⟩
          · obtain rfl : k = l.length := by omega
            clear hr hm hb hne
            have HI := Lib.hid (IntsOk.row (w := w) true HR.out (Nat.le_refl _) HB.out)
            clear HR
            go_wp2
            go_ret2
            exact HI.out

end Go.Proofs.Ytlkhgnglblgldaa
/- Towns that are joined by some of the roads; roads that join parts; the number of parts; no program. -/
namespace Go.Proofs.Ytlkhgnglblgldaa

/-- Does the j-th road lead from y to z? -/
def joins (l : List Rd) (j : Nat) (y z : Int) : Prop := ((l.getD j rd0).a = y ∧ (l.getD j rd0).b = z) ∨ ((l.getD j rd0).b = y ∧ (l.getD j rd0).a = z)
theorem joins_symm {l : List Rd} {j : Nat} {y z : Int} (h : joins l j y z) : joins l j z y := by
  rcases h with ⟨h1, h2⟩ | ⟨h1, h2⟩
  · exact .inr ⟨h2, h1⟩
  · exact .inl ⟨h2, h1⟩
/-- Joined by the roads of some indexes. -/
inductive Reach (l : List Rd) (S : Nat → Prop) : Int → Int → Prop
  | refl (x : Int) : Reach l S x x
  | step {x y z : Int} {j : Nat} : Reach l S x y → S j → joins l j y z → Reach l S x z
theorem Reach.trans {l S} {x y z : Int} (h : Reach l S x y) (k : Reach l S y z) : Reach l S x z := by
  induction k with
  | refl => exact h
  | step _ hj hs ih => exact .step ih hj hs
theorem Reach.symm {l S} {x y : Int} (h : Reach l S x y) : Reach l S y x := by
  induction h with
  | refl => exact .refl _
  | step _ hj hs ih => exact (Reach.step (.refl _) hj (joins_symm hs)).trans ih
theorem Reach.mono {l} {S S' : Nat → Prop} {x y : Int} (h : Reach l S x y) (hs : ∀ j, S j → S' j) : Reach l S' x y := by
  induction h with
  | refl => exact .refl _
  | step _ hj hjs ih => exact .step ih (hs _ hj) hjs
theorem Reach.one {l} {S : Nat → Prop} {j : Nat} (h : S j) : Reach l S (l.getD j rd0).a (l.getD j rd0).b := .step (.refl _) h (.inl ⟨rfl, rfl⟩)
/-- One more road. -/
theorem Reach.add {l} {S T : Nat → Prop} {i : Nat} (hT : ∀ j, T j → S j ∨ j = i) {x y : Int} (h : Reach l T x y) :
    Reach l S x y ∨ (Reach l S x (l.getD i rd0).a ∧ Reach l S (l.getD i rd0).b y) ∨ (Reach l S x (l.getD i rd0).b ∧ Reach l S (l.getD i rd0).a y) := by
  induction h with
  | refl => exact .inl (.refl _)
  | step _ hj hs ih =>
    rcases hT _ hj with h1 | rfl
    · rcases ih with h | ⟨h, h'⟩ | ⟨h, h'⟩
      · exact .inl (.step h h1 hs)
      · exact .inr (.inl ⟨h, .step h' h1 hs⟩)
      · exact .inr (.inr ⟨h, .step h' h1 hs⟩)
    · rcases hs with ⟨e1, e2⟩ | ⟨e1, e2⟩
      · subst e1 e2
        rcases ih with h | ⟨h, h'⟩ | ⟨h, h'⟩
        · exact .inr (.inl ⟨h, .refl _⟩)
        · exact .inr (.inl ⟨h, .refl _⟩)
        · exact .inl h
      · subst e1 e2
        rcases ih with h | ⟨h, h'⟩ | ⟨h, h'⟩
        · exact .inr (.inr ⟨h, .refl _⟩)
        · exact .inl h
        · exact .inr (.inr ⟨h, .refl _⟩)

/-- Each of the roads joins two parts: without it, its ends are apart. -/
def Bridges (l : List Rd) (S : Nat → Prop) : Prop := ∀ j, S j → ∀ T : Nat → Prop, (∀ i, T i → S i ∧ i ≠ j) → ¬ Reach l T (l.getD j rd0).a (l.getD j rd0).b
theorem Bridges.add {l} {S : Nat → Prop} {i : Nat} (h : Bridges l S) (hi : ¬ S i) (hn : ¬ Reach l S (l.getD i rd0).a (l.getD i rd0).b) : Bridges l (fun j => S j ∨ j = i) := by
  intro j hj T hT hr
  by_cases hji : j = i
  · subst hji
    exact hn (hr.mono fun k hk => by
      obtain ⟨h1, h2⟩ := hT k hk
      rcases h1 with h1 | h1
      · exact h1
      · exact absurd h1 h2)
  · have hjS : S j := by rcases hj with h1 | h1; exact h1; exact absurd h1 hji
    have hT' : ∀ k, T k → (T k ∧ k ≠ i) ∨ k = i := fun k hk => by
      by_cases e : k = i
      · exact .inr e
      · exact .inl ⟨hk, e⟩
    have hsub : ∀ k, (T k ∧ k ≠ i) → S k ∧ k ≠ j := fun k ⟨hk, e⟩ => by
      obtain ⟨h1, h2⟩ := hT k hk
      rcases h1 with h1 | h1
      · exact ⟨h1, h2⟩
      · exact absurd h1 e
    have hS : ∀ {x y : Int}, Reach l (fun k => T k ∧ k ≠ i) x y → Reach l S x y := fun h => h.mono fun k hk => (hsub k hk).1
    have hedge := Reach.one (l := l) hjS
    rcases hr.add (S := fun k => T k ∧ k ≠ i) hT' with h1 | ⟨h1, h2⟩ | ⟨h1, h2⟩
    · exact h j hjS _ hsub h1
    · exact hn (((hS h1).symm.trans hedge).trans (hS h2).symm)
    · exact hn ((hS h2).trans (hedge.symm.trans (hS h1)))

/-! ### The number of parts -/
/-- The least town of its part. -/
def rep (l : List Rd) (S : Nat → Prop) (t : Nat) : Prop := ∀ u, u < t → ¬ Reach l S (u : Int) (t : Int)
open Classical in
noncomputable def parts (l : List Rd) (S : Nat → Prop) (n : Nat) : Nat := (List.range n).countP fun t => decide (rep l S t)
theorem least_of {P : Nat → Prop} : ∀ (k : Nat), P k → ∃ m, m ≤ k ∧ P m ∧ ∀ u, u < m → ¬ P u := by
  intro k
  induction k using Nat.strongRecOn with
  | _ k ih =>
    intro hk
    by_cases h : ∃ u, u < k ∧ P u
    · obtain ⟨u, hu, hp⟩ := h
      obtain ⟨m, h1, h2⟩ := ih u hu hp
      exact ⟨m, by omega, h2⟩
    · exact ⟨k, Nat.le_refl _, hk, fun u hu hp => h ⟨u, hu, hp⟩⟩
theorem rep_of {l} {S : Nat → Prop} (t : Nat) : ∃ p, p ≤ t ∧ Reach l S (p : Int) (t : Int) ∧ rep l S p := by
  obtain ⟨p, h1, h2, h3⟩ := least_of (P := fun p => Reach l S (p : Int) (t : Int)) t (.refl _)
  exact ⟨p, h1, h2, fun u hu hr => h3 u hu (hr.trans h2)⟩
theorem rep_uniq {l} {S : Nat → Prop} {p q : Nat} (hp : rep l S p) (hq : rep l S q) (h : Reach l S (p : Int) (q : Int)) : p = q := by
  rcases Nat.lt_trichotomy p q with h1 | h1 | h1
  · exact absurd h (hq p h1)
  · exact h1
  · exact absurd h.symm (hp q h1)
theorem countP_drop {p q : Nat → Bool} {n z : Nat} (hz : z < n) (hpz : p z = true) (h : ∀ t, t < n → (q t = true ↔ p t = true ∧ t ≠ z)) : (List.range n).countP q + 1 = (List.range n).countP p := by
  induction n with
  | zero => omega
  | succ n ih =>
    rw [List.range_succ, List.countP_append, List.countP_append]
    by_cases e : z = n
    · subst e
      have h1 : (List.range z).countP q = (List.range z).countP p := by
        refine List.countP_congr fun t ht => ?_
        rw [List.mem_range] at ht
        rw [h t (by omega)]
        exact ⟨fun h => h.1, fun h' => ⟨h', by omega⟩⟩
      have h2 : q z = false := by
        rw [Bool.eq_false_iff]; intro h'; exact ((h z (by omega)).1 h').2 rfl
      rw [h1]; simp [hpz, h2]
    · have := ih (by omega) (fun t ht => h t (by omega))
      have h2 : q n = p n := by
        rw [Bool.eq_iff_iff, h n (by omega)]
        exact ⟨fun h => h.1, fun h' => ⟨h', fun e' => e e'.symm⟩⟩
      simp only [List.countP_singleton, h2]
      omega
/-- A road that joins two parts makes one of two. -/
theorem parts_add {l} {S T : Nat → Prop} {i n : Nat} (hT : ∀ j, T j ↔ S j ∨ j = i) (hn : ¬ Reach l S (l.getD i rd0).a (l.getD i rd0).b)
    (ha : 0 ≤ (l.getD i rd0).a ∧ (l.getD i rd0).a < n) (hb : 0 ≤ (l.getD i rd0).b ∧ (l.getD i rd0).b < n) : parts l T n + 1 = parts l S n := by
  obtain ⟨a, ea⟩ : ∃ a : Nat, (l.getD i rd0).a = (a : Int) := ⟨_, (Int.toNat_of_nonneg ha.1).symm⟩
  obtain ⟨b, eb⟩ : ∃ b : Nat, (l.getD i rd0).b = (b : Int) := ⟨_, (Int.toNat_of_nonneg hb.1).symm⟩
  obtain ⟨p, p1, p2, p3⟩ := rep_of (l := l) (S := S) a
  obtain ⟨q, q1, q2, q3⟩ := rep_of (l := l) (S := S) b
  have hST : ∀ {x y : Int}, Reach l S x y → Reach l T x y := fun h => h.mono fun j hj => (hT j).2 (.inl hj)
  have hadd : ∀ {x y : Int}, Reach l T x y → Reach l S x y ∨ (Reach l S x a ∧ Reach l S b y) ∨ (Reach l S x b ∧ Reach l S a y) := fun h => by
    have := h.add (S := S) (i := i) fun j hj => (hT j).1 hj
    rwa [ea, eb] at this
  have hab : Reach l T (a : Int) (b : Int) := by
    have := Reach.one (l := l) (S := T) (j := i) ((hT i).2 (.inr rfl))
    rwa [ea, eb] at this
  rw [ea, eb] at hn
  have hpq : p ≠ q := fun e => by
    subst e; exact hn (p2.symm.trans q2)
  have key : ∀ t, rep l T t ↔ rep l S t ∧ t ≠ max p q := by
    intro t
    constructor
    · intro h
      refine ⟨fun u hu hr => h u hu (hST hr), fun e => ?_⟩
      have hc : Reach l T (p : Int) (q : Int) := ((hST p2).trans hab).trans (hST q2).symm
      rcases Nat.lt_or_gt_of_ne hpq with hlt | hlt
      · rw [Nat.max_eq_right (Nat.le_of_lt hlt)] at e
        subst e; exact h p hlt hc
      · rw [Nat.max_eq_left (Nat.le_of_lt hlt)] at e
        subst e; exact h q hlt hc.symm
    · rintro ⟨h, hne⟩ u hu hr
      rcases hadd hr with h1 | ⟨h1, h2⟩ | ⟨h1, h2⟩
      · exact h u hu h1
      · -- t lies in the part of b, u in that of a
        have e : q = t := rep_uniq q3 h (q2.trans h2)
        have hpu : p ≤ u := by
          rcases Nat.lt_or_ge u p with hlt | hge
          · exact absurd (h1.trans p2.symm) (p3 u hlt)
          · exact hge
        subst e
        exact hne (Nat.max_eq_right (by omega)).symm
      · have e : p = t := rep_uniq p3 h (p2.trans h2)
        have hqu : q ≤ u := by
          rcases Nat.lt_or_ge u q with hlt | hge
          · exact absurd (h1.trans q2.symm) (q3 u hlt)
          · exact hge
        subst e
        exact hne (Nat.max_eq_left (by omega)).symm
  unfold parts
  refine countP_drop (z := max p q) (by omega) ?_ (fun t _ => ?_)
  · simp only [decide_eq_true_eq]
    rcases Nat.lt_or_gt_of_ne hpq with hlt | hlt
    · rw [Nat.max_eq_right (Nat.le_of_lt hlt)]; exact q3
    · rw [Nat.max_eq_left (Nat.le_of_lt hlt)]; exact p3
  · simp only [decide_eq_true_eq]; exact key t
theorem parts_none (l : List Rd) {S : Nat → Prop} (hS : ∀ j, ¬ S j) (n : Nat) : parts l S n = n := by
  unfold parts
  rw [List.countP_eq_length.2, List.length_range]
  intro t _
  simp only [decide_eq_true_eq]
  intro u hu hr
  have : ∀ {x y : Int}, Reach l S x y → x = y := fun h => by
    induction h with
    | refl => rfl
    | step _ hj _ _ => exact absurd hj (hS _)
  have := this hr
  omega
theorem parts_whole {l : List Rd} {S : Nat → Prop} {n : Nat} (hn : 1 ≤ n) (h : ∀ t : Nat, t < n → Reach l S 0 (t : Int)) : parts l S n = 1 := by
  obtain ⟨m, rfl⟩ : ∃ m, n = m + 1 := ⟨n - 1, by omega⟩
  unfold parts
  have h0 : (List.range (m + 1)).countP (fun t => decide (t = 0)) = 1 := by
    induction m with
    | zero => rfl
    | succ m ih =>
      rw [List.range_succ, List.countP_append, ih (by omega) (fun t ht => h t (by omega))]
      simp
  refine Eq.trans ?_ h0
  refine List.countP_congr fun t ht => ?_
  rw [List.mem_range] at ht
  simp only [decide_eq_true_eq]
  constructor
  · intro hr
    rcases Nat.eq_zero_or_pos t with e | e
    · exact e
    · exact absurd (h t ht) (hr 0 e)
  · rintro rfl u hu
    omega

/-! ### Edges -/
theorem pick_edge {l : List Rd} {S : List Nat} {x y m : Int} (h : edge (pickR l S) x y = some m) : ∃ j, j ∈ S ∧ (l.getD j rd0).m = m ∧ joins l j x y := by
  obtain ⟨r, hr, h1, h2, h3⟩ := edge_some h
  obtain ⟨j, hj, rfl⟩ := List.mem_map.1 hr
  refine ⟨j, hj, h1, ?_⟩
  unfold joins
  omega
theorem pick_is {l : List Rd} {S : List Nat} {j : Nat} (hj : j ∈ S) (hlt : (l.getD j rd0).a < (l.getD j rd0).b) {x y : Int} (h : joins l j x y) : ∃ m, edge (pickR l S) x y = some m := by
  cases he : edge (pickR l S) x y with
  | some m => exact ⟨m, rfl⟩
  | none =>
    exfalso
    unfold edge at he
    rw [Option.map_eq_none_iff, List.find?_eq_none] at he
    have := he (l.getD j rd0) (List.mem_map.2 ⟨j, hj, rfl⟩)
    rw [hit_iff _ hlt] at this
    unfold joins at h
    omega
theorem way_reach {l : List Rd} {S : List Nat} {x y d : Int} (h : Way (edge (pickR l S)) x y d) : Reach l (fun j => j ∈ S) x y := by
  induction h with
  | nil => exact .refl _
  | snoc _ he ih =>
    obtain ⟨j, hj, _, hs⟩ := pick_edge he
    exact .step ih hj hs
theorem reach_way {l : List Rd} {S : List Nat} (hf : ∀ j, j ∈ S → (l.getD j rd0).a < (l.getD j rd0).b) {x y : Int} (h : Reach l (fun j => j ∈ S) x y) : ∃ d, Way (edge (pickR l S)) x y d := by
  induction h with
  | refl => exact ⟨0, .nil _⟩
  | step _ hj hs ih =>
    obtain ⟨d, hd⟩ := ih
    obtain ⟨m, hm⟩ := pick_is hj (hf _ hj) hs
    exact ⟨d + m, .snoc hd hm⟩
theorem reachB_iff {n : Int} {g : Int → Int → Option Int} (hg : EdgesOk n g) {a b : Int} (ha : 0 ≤ a ∧ a < n) : reachB n g a b = true ↔ ∃ d, Way g a b d := by
  unfold reachB distN
  rw [if_pos ha]
  cases h : distO g a b with
  | none =>
    have := (distO_none hg.pos).1 h
    simp only [Option.isSome_none, Bool.false_eq_true, false_iff]
    rintro ⟨d, hd⟩; exact this d hd
  | some d =>
    simp only [Option.isSome_some, true_iff]
    exact ⟨d, (distO_some.1 h).1⟩

end Go.Proofs.Ytlkhgnglblgldaa
/- RoadsWay of the model. -/
namespace Go.Proofs.Ytlkhgnglblgldaa
open Go.RowKit Go.Maps

theorem next_least {n : Int} {l : List Rd} (hz : validR n l = true) {b t d : Int} (hb : 0 ≤ b ∧ b < n) (hd : Dist (edge l) b t d) (hne : t ≠ b) {j : Nat} (hj : (j : Int) < n)
    (hno : ∀ i : Nat, i < j → nearP (edge l) (distN n (edge l) b) t i = false) (hy : nearP (edge l) (distN n (edge l) b) t j = true) : nextT n l b t = j := by
  have hm := next_mem hz hb hd hne
  obtain ⟨⟨h0, h1⟩, h2⟩ := mem_nearL.1 hm
  have hjm : (j : Int) ∈ nearL n (edge l) (distN n (edge l) b) t := mem_nearL.2 ⟨⟨by omega, hj⟩, hy⟩
  have hs : (nearL n (edge l) (distN n (edge l) b) t).Pairwise (fun a b => a < b) := (towns_sorted n).filter _
  have hle : nextT n l b t ≤ j := by
    unfold nextT
    cases h : nearL n (edge l) (distN n (edge l) b) t with
    | nil => rw [h] at hjm; cases hjm
    | cons x xs =>
      rw [h] at hjm hs
      rcases List.mem_cons.1 hjm with e | e
      · simp [e]
      · have := (List.pairwise_cons.1 hs).1 _ e
        simp; omega
  rcases Int.lt_or_le (nextT n l b t) j with hlt | hge
  · have := hno (nextT n l b t).toNat (by omega)
    rw [show (((nextT n l b t).toNat : Nat) : Int) = nextT n l b t by omega, h2] at this
    cases this
  · omega

theorem next_head {n : Int} {l : List Rd} (hz : validR n l = true) {b t d : Int} (hb : 0 ≤ b ∧ b < n) (hd : Dist (edge l) b t d) (hne : t ≠ b) {j : Nat}
    (hno : ∀ i : Nat, i < j → nearP (edge l) (distN n (edge l) b) t i = false) : (j : Int) < n := by
  obtain ⟨⟨h0, h1⟩, h2⟩ := mem_nearL.1 (next_mem hz hb hd hne)
  rcases Int.lt_or_le (j : Int) n with h | h
  · exact h
  · have := hno (nextT n l b t).toNat (by omega)
    rw [show (((nextT n l b t).toNat : Nat) : Int) = nextT n l b t by omega, h2] at this
    cases this

theorem find_cases (l : List Rd) (a b : Int) : ∀ m, m ≤ l.length → (∃ k, k < m ∧ hit a b (l.getD k rd0) = true ∧ noHit l a b k) ∨ noHit l a b m
  | 0, _ => .inr (fun j hj => by omega)
  | m + 1, h => by
    rcases find_cases l a b m (by omega) with ⟨k, h1, h2, h3⟩ | h1
    · exact .inl ⟨k, by omega, h2, h3⟩
    · cases hh : hit a b (l.getD m rd0) with
      | true => exact .inl ⟨m, by omega, hh, h1⟩
      | false =>
        refine .inr fun j hj => ?_
        by_cases e : j = m
        · subst e; exact hh
        · exact h1 j (by omega)

theorem l1Find_at (v : Value) (l : List Rd) (a b : Int) (w : World) (hv : RoadsIn w v l) (hl : l.length ≤ 1048576) {k : Nat} (hk : k < l.length) (hh : hit a b (l.getD k rd0) = true) (hn : noHit l a b k) :
    Calls Try.prog 91 #[v, .int .i64 a, .int .i64 b] w fun e w' => e = .returned (.int .i64 k) ∧ w' = w := by
  refine (l1Find_any v l a b w hv hl).mono ?_
  rintro e w' ⟨h, rfl⟩
  rcases h with ⟨k', hk', hh', _, hn', rfl⟩ | ⟨_, hno, rfl⟩
  · obtain rfl : k' = k := by
      rcases Nat.lt_trichotomy k' k with h | h | h
      · have := hn k' h; rw [hh'] at this; cases this
      · exact h
      · have := hn' k h; rw [hh] at this; cases this
    exact ⟨rfl, rfl⟩
  · have := hno k hk; rw [hh] at this; cases this

theorem l1Find_no (v : Value) (l : List Rd) (a b : Int) (w : World) (hv : RoadsIn w v l) (hl : l.length ≤ 1048576) (hn : noHit l a b l.length) :
    Calls Try.prog 91 #[v, .int .i64 a, .int .i64 b] w fun e w' => e = .returned (.int .i64 (-1)) ∧ w' = w := by
  refine (l1Find_any v l a b w hv hl).mono ?_
  rintro e w' ⟨h, rfl⟩
  rcases h with ⟨k', hk', hh', _, hn', rfl⟩ | ⟨_, hno, rfl⟩
  · have := hn k' hk'; rw [hh'] at this; cases this
  · exact ⟨rfl, rfl⟩

/-- In the search for the next town. -/
def NextRel (n : Int) (l : List Rd) (b : Int) (p : Nat) (wr : World) (i : Value) (wq : World) : Prop :=
  ∃ j : Nat, i = .int .i64 j ∧ (∀ i : Nat, i < j → nearP (edge l) (distN n (edge l) b) p i = false) ∧ Below wr.heap.size wr wq

theorem no_next {g : Int → Int → Option Int} {f : Int → Option Int} {p : Int} {j : Nat} (h : ∀ i : Nat, i < j → nearP g f p i = false) (hj : nearP g f p j = false) : ∀ i : Nat, i < j + 1 → nearP g f p i = false := fun i hi => by
  by_cases e : i = j
  · subst e; exact hj
  · exact h i (by omega)

end Go.Proofs.Ytlkhgnglblgldaa
/- What a law's marks leave as it was. -/
namespace Go.Proofs.Ytlkhgnglblgldaa
open Go.RowKit Go.Maps

theorem wayL_len (n : Int) (l : List Rd) (b : Int) : ∀ k t, (wayL n l b k t).length ≤ k + 1
  | 0, t => by simp [wayL]
  | k + 1, t => by
    unfold wayL
    split
    · simp
    · have := wayL_len n l b k (nextT n l b t)
      simp only [List.length_cons]; omega

theorem wayOf_len (n : Int) (l : List Rd) (a b : Int) : (wayOf n l a b).length ≤ 1048576 := by
  unfold wayOf
  split
  · have := wayL_len n l b 800 a; omega
  · simp

end Go.Proofs.Ytlkhgnglblgldaa
/- WayLength, of the model and of the program. -/
namespace Go.Proofs.Ytlkhgnglblgldaa
open Go.RowKit

/-- The length of the first k towns of a way. -/
def wayTo (n : Int) (l : List Rd) (way : List Int) : Nat → Option Int
  | 0 => some 0
  | k + 1 => match wayTo n l way k with
    | none => none
    | some s => if 0 ≤ way.getD k 0 ∧ way.getD k 0 ≤ n - 1 then (if k = 0 then some s else (edge l (way.getD (k - 1) 0) (way.getD k 0)).map (s + ·)) else none

theorem wayTo_bd {n : Int} {l : List Rd} (h : validR n l = true) {way : List Int} : ∀ {k : Nat} {s : Int}, wayTo n l way k = some s → 0 ≤ s ∧ s ≤ 99 * (k : Int)
  | 0, s, hs => by simp [wayTo] at hs; omega
  | k + 1, s, hs => by
    unfold wayTo at hs
    cases hk : wayTo n l way k with
    | none => rw [hk] at hs; cases hs
    | some s0 =>
      have ih := wayTo_bd h hk
      rw [hk] at hs
      simp only at hs
      split at hs
      · split at hs
        · injection hs with hs; omega
        · rw [Option.map_eq_some_iff] at hs
          obtain ⟨m, hm, rfl⟩ := hs
          have := edge_miles h hm
          omega
      · cases hs

theorem wayTo_none {n : Int} {l : List Rd} {way : List Int} {k : Nat} (h : wayTo n l way k = none) : ∀ {j : Nat}, k ≤ j → wayTo n l way j = none
  | 0, hj => by obtain rfl : k = 0 := by omega
                exact h
  | j + 1, hj => by
    by_cases e : k = j + 1
    · subst e; exact h
    · unfold wayTo
      rw [wayTo_none h (show k ≤ j by omega)]

/-- What WayLength is. -/
def wayLenOf (n : Int) (l : List Rd) (way : List Int) : Int := if validR n l = true ∧ way ≠ [] then (wayTo n l way way.length).getD (-1) else -1

def WayRel (n : Int) (l : List Rd) (way : List Int) (w : World) (s i : Value) (wr : World) : Prop :=
  ∃ (k : Nat) (x : Int), k ≤ way.length ∧ i = .int .i64 k ∧ s = .int .i64 x ∧ wayTo n l way k = some x ∧ Below w.heap.size w wr

def WayRel2 (n : Int) (l : List Rd) (way : List Int) (nb : Nat) (bs : Int → Nat) (cnt : Nat) (w : World) (s i : Value) (wr : World) : Prop :=
  ∃ (k : Nat) (x : Int), k + 1 ≤ way.length ∧ i = .int .i64 k ∧ s = .int .i64 x ∧ wayTo n l way (k + 1) = some x ∧ Below w.heap.size w wr ∧ NetAt wr nb n bs cnt (edge l)

theorem wayTo_step {n : Int} {l : List Rd} {way : List Int} {k : Nat} {x : Int} (h : validR n l = true) (hx : wayTo n l way (k + 1) = some x) : wayTo n l way (k + 2) = (edge l (way.getD k 0) (way.getD (k + 1) 0)).map (x + ·) := by
  have e : wayTo n l way (k + 2) = (match wayTo n l way (k + 1) with | none => none | some s => if 0 ≤ way.getD (k + 1) 0 ∧ way.getD (k + 1) 0 ≤ n - 1 then (if k + 1 = 0 then some s else (edge l (way.getD (k + 1 - 1) 0) (way.getD (k + 1) 0)).map (s + ·)) else none) := rfl
  rw [e, hx]
  simp only [Nat.add_sub_cancel, Nat.succ_ne_zero, if_false]
  split
  · rfl
  · rename_i hr
    cases he : edge l (way.getD k 0) (way.getD (k + 1) 0) with
    | none => rfl
    | some m => have := edge_miles h he; omega

end Go.Proofs.Ytlkhgnglblgldaa
/- Pure facts on ways: their lengths, the shortest way. -/
namespace Go.Proofs.Ytlkhgnglblgldaa

def inT (n x : Int) : Prop := 0 ≤ x ∧ x ≤ n - 1
def segE (l : List Rd) (way : List Int) (i : Nat) : Option Int := edge l (way.getD i 0) (way.getD (i + 1) 0)
def sumE (l : List Rd) (way : List Int) : Nat → Int
  | 0 => 0
  | k + 1 => sumE l way k + (segE l way k).getD 0
/-- The first k + 1 towns are a way. -/
def isWay (n : Int) (l : List Rd) (way : List Int) (k : Nat) : Prop := (∀ i, i ≤ k → inT n (way.getD i 0)) ∧ ∀ i, i < k → (segE l way i).isSome = true

theorem wayTo_iff (n : Int) (l : List Rd) (way : List Int) : ∀ (k : Nat) (s : Int), wayTo n l way (k + 1) = some s ↔ isWay n l way k ∧ s = sumE l way k
  | 0, s => by
    simp only [wayTo, isWay, sumE, inT, ite_true]
    constructor
    · intro h
      split at h
      · rename_i hc
        injection h with h
        exact ⟨⟨fun i hi => by (obtain rfl : i = 0 := by omega); exact hc, fun i hi => by omega⟩, h.symm⟩
      · cases h
    · rintro ⟨⟨h1, _⟩, rfl⟩
      rw [if_pos (h1 0 (Nat.le_refl _))]
  | k + 1, s => by
    have ih := wayTo_iff n l way k
    have e : wayTo n l way (k + 1 + 1) = (match wayTo n l way (k + 1) with
      | none => none
      | some s => if 0 ≤ way.getD (k + 1) 0 ∧ way.getD (k + 1) 0 ≤ n - 1 then (if k + 1 = 0 then some s else (edge l (way.getD (k + 1 - 1) 0) (way.getD (k + 1) 0)).map (s + ·)) else none) := rfl
    rw [e]
    constructor
    · intro h
      cases hk : wayTo n l way (k + 1) with
      | none => rw [hk] at h; cases h
      | some s0 =>
        rw [hk] at h
        simp only at h
        obtain ⟨⟨h1, h2⟩, rfl⟩ := (ih s0).1 hk
        split at h
        · rename_i hc
          rw [if_neg (by omega)] at h
          rw [Option.map_eq_some_iff] at h
          obtain ⟨m, hm, rfl⟩ := h
          have hm' : segE l way k = some m := hm
          refine ⟨⟨fun i hi => ?_, fun i hi => ?_⟩, ?_⟩
          · by_cases ei : i = k + 1
            · subst ei; exact hc
            · exact h1 i (by omega)
          · by_cases ei : i = k
            · subst ei; rw [hm']; rfl
            · exact h2 i (by omega)
          · show sumE l way k + m = sumE l way k + (segE l way k).getD 0
            rw [hm']; rfl
        · cases h
    · rintro ⟨⟨h1, h2⟩, rfl⟩
      rw [(ih (sumE l way k)).2 ⟨⟨fun i hi => h1 i (by omega), fun i hi => h2 i (by omega)⟩, rfl⟩]
      simp only
      rw [if_pos (show 0 ≤ way.getD (k + 1) 0 ∧ way.getD (k + 1) 0 ≤ n - 1 from h1 (k + 1) (Nat.le_refl _)), if_neg (by omega)]
      obtain ⟨m, hm⟩ := Option.isSome_iff_exists.1 (h2 k (by omega))
      have hm' : edge l (way.getD (k + 1 - 1) 0) (way.getD (k + 1) 0) = some m := hm
      rw [hm']
      show some (sumE l way k + m) = some (sumE l way k + (segE l way k).getD 0)
      rw [hm]; rfl

theorem wlen_of {n : Int} {l : List Rd} {way : List Int} {k : Nat} (hz : validR n l = true) (hl : way.length = k + 1) (h : isWay n l way k) : wayLenOf n l way = sumE l way k := by
  unfold wayLenOf
  rw [if_pos ⟨hz, by rintro rfl; simp at hl⟩, hl, (wayTo_iff n l way k _).2 ⟨h, rfl⟩]
  rfl
theorem of_wlen {n : Int} {l : List Rd} {way : List Int} (h : 0 ≤ wayLenOf n l way) : validR n l = true ∧ ∃ k, way.length = k + 1 ∧ isWay n l way k ∧ wayLenOf n l way = sumE l way k := by
  unfold wayLenOf at h ⊢
  split at h
  · rename_i hc
    obtain ⟨hz, hne⟩ := hc
    obtain ⟨k, hk⟩ : ∃ k, way.length = k + 1 := ⟨way.length - 1, by have := List.length_pos_iff.2 hne; omega⟩
    rw [if_pos ⟨hz, hne⟩]
    refine ⟨hz, k, hk, ?_⟩
    rw [hk] at h ⊢
    cases hw : wayTo n l way (k + 1) with
    | none => rw [hw] at h; exact absurd h (by decide)
    | some s =>
      obtain ⟨h1, h2⟩ := (wayTo_iff n l way k s).1 hw
      exact ⟨h1, by rw [← h2]; rfl⟩
  · omega

theorem seg_cons (l : List Rd) (t : Int) (r : List Int) (i : Nat) : segE l (t :: r) (i + 1) = segE l r i := by simp [segE]
theorem sum_cons (l : List Rd) (t : Int) (r : List Int) : ∀ k, sumE l (t :: r) (k + 1) = (edge l t (r.getD 0 0)).getD 0 + sumE l r k
  | 0 => by simp [sumE, segE]
  | k + 1 => by
    have ih := sum_cons l t r k
    show sumE l (t :: r) (k + 1) + (segE l (t :: r) (k + 1)).getD 0 = _ + (sumE l r k + (segE l r k).getD 0)
    rw [ih, seg_cons]; omega
theorem isWay_cons {n : Int} {l : List Rd} {t : Int} {r : List Int} {k : Nat} (ht : inT n t) (he : (edge l t (r.getD 0 0)).isSome = true) (h : isWay n l r k) : isWay n l (t :: r) (k + 1) := by
  refine ⟨fun i hi => ?_, fun i hi => ?_⟩
  · cases i with
    | zero => simpa using ht
    | succ i => simpa using h.1 i (by omega)
  · cases i with
    | zero => simpa [segE] using he
    | succ i => rw [seg_cons]; exact h.2 i (by omega)

/-- The shortest way from t on. -/
theorem wayL_facts {n : Int} {l : List Rd} (hz : validR n l = true) {b : Int} (hb : 0 ≤ b ∧ b < n) : ∀ (k : Nat) (t d : Int), (0 ≤ t ∧ t < n) → Dist (edge l) b t d → d ≤ (k : Int) →
    ∃ r : List Int, wayL n l b k t = t :: r ∧ isWay n l (t :: r) r.length ∧ sumE l (t :: r) r.length = d ∧ (t :: r).getLastD 0 = b ∧ (t :: r).Nodup ∧ (∀ x ∈ r, ∃ d', Dist (edge l) b x d' ∧ d' < d) ∧ (t = b → r = [])
  | 0, t, d, ht, hd, hk => by
    have h0 := hd.nonneg (edges_ok hz).pos
    have hd0 : d = 0 := by omega
    have hbt := (hd.zero_iff (edges_ok hz).pos).1 hd0
    exact ⟨[], rfl, ⟨fun i hi => by (obtain rfl : i = 0 := by simpa using hi); simp [inT]; omega, fun i hi => by simp at hi⟩, by simp [sumE, hd0], by simpa using hbt.symm, by simp, (fun x hx => by cases hx), fun _ => rfl⟩
  | k + 1, t, d, ht, hd, hk => by
    by_cases hne : t = b
    · subst hne
      have hd0 := (hd.zero_iff (edges_ok hz).pos).2 rfl
      exact ⟨[], wayL_end n l t (k + 1), ⟨fun i hi => by (obtain rfl : i = 0 := by simpa using hi); simp [inT]; omega, fun i hi => by simp at hi⟩, by simp [sumE, hd0], by simp, by simp, (fun x hx => by cases hx), fun _ => rfl⟩
    · obtain ⟨h1, h2⟩ := mem_nearL.1 (next_mem hz hb hd hne)
      obtain ⟨m, hm, he⟩ := nearP_iff.1 h2
      obtain ⟨d', hd'⟩ := near_dist hz hd hm
      rw [distN_of hb hd, distN_of hb hd'] at he
      simp only [Option.getD_some] at he
      have hmm := edge_miles hz hm
      have hd0 := hd'.nonneg (edges_ok hz).pos
      obtain ⟨r, e1, e2, e3, e4, e5, e6, _⟩ := wayL_facts hz hb k (nextT n l b t) d' h1 hd' (by omega)
      have hnx : ((nextT n l b t :: r).getD 0 0) = nextT n l b t := by simp
      refine ⟨nextT n l b t :: r, by rw [wayL_cons k hne, e1], ?_, ?_, ?_, ?_, ?_, fun e => absurd e hne⟩
      · exact isWay_cons ⟨ht.1, by omega⟩ (by rw [hnx, hm]; rfl) e2
      · rw [List.length_cons, sum_cons, hnx, hm, e3]; simp; omega
      · rw [List.getLastD_cons]
        cases r with
        | nil => simpa using e4
        | cons y ys => rw [List.getLastD_cons] at e4 ⊢; rw [List.getLastD_cons] at e4 ⊢; exact e4
      · rw [List.nodup_cons]
        refine ⟨fun hx => ?_, e5⟩
        rw [List.mem_cons] at hx
        rcases hx with hx | hx
        · exact hmm.2.2.2.2.2.2 hx
        · obtain ⟨d2, h3, h4⟩ := e6 t hx
          have := hd.uniq h3; omega
      · intro x hx
        rw [List.mem_cons] at hx
        rcases hx with rfl | hx
        · exact ⟨d', hd', by omega⟩
        · obtain ⟨d2, h3, h4⟩ := e6 x hx
          exact ⟨d2, h3, by omega⟩

theorem wayL_fuel {n : Int} {l : List Rd} (hz : validR n l = true) {b : Int} (hb : 0 ≤ b ∧ b < n) : ∀ (k j : Nat) (t d : Int), (0 ≤ t ∧ t < n) → Dist (edge l) b t d → d ≤ (k : Int) → k ≤ j → wayL n l b k t = wayL n l b j t
  | 0, j, t, d, ht, hd, hk, _ => by
    have h0 := hd.nonneg (edges_ok hz).pos
    have hbt := (hd.zero_iff (edges_ok hz).pos).1 (by omega)
    subst hbt
    rw [wayL_end, wayL_end]
  | k + 1, j, t, d, ht, hd, hk, hj => by
    by_cases hne : t = b
    · subst hne; rw [wayL_end, wayL_end]
    · obtain ⟨j', rfl⟩ : ∃ j', j = j' + 1 := ⟨j - 1, by omega⟩
      obtain ⟨h1, d', hd', hlt, h0⟩ := next_dist hz hb hd hne
      rw [wayL_cons k hne, wayL_cons j' hne, wayL_fuel hz hb k j' _ d' h1 hd' (by omega) (by omega)]

/-- What FnRoadsWay asks. -/
theorem way_law {n : Int} {l : List Rd} {a b : Int} (h : wayOk n l a b = true) : ∃ r : List Int, wayOf n l a b = a :: r ∧ (a :: r).Nodup ∧ wayLenOf n l (a :: r) = farOf n l a b ∧ (a :: r).getLastD 0 = b ∧ (a = b → r = []) ∧
    (∀ x s, r = x :: s → wayOk n l x b = true ∧ wayOf n l x b = r) ∧ (r = [] → a = b) ∧ (∀ x ∈ a :: r, 0 ≤ x ∧ x < n) ∧ (0 ≤ b ∧ b < n) := by
  have hzr : validR n l = true ∧ reachB n (edge l) a b = true := by simpa [wayOk] using h
  obtain ⟨hz, hr⟩ := hzr
  obtain ⟨ha, hb, d, hd⟩ := reach_in hz hr
  have hd8 := (edges_ok hz).dist hd
  obtain ⟨r, e1, e2, e3, e4, e5, e6, e7⟩ := wayL_facts hz hb 800 a d ha hd (by omega)
  refine ⟨r, by unfold wayOf; rw [if_pos h]; exact e1, e5, ?_, e4, e7, fun x s hrx => ?_, fun e => ?_, fun x hx => ?_, hb⟩
  · rw [wlen_of hz (by simp) e2, e3, far_of_dist hz ha (hd.symm (edge_sym l))]
  · by_cases hab : a = b
    · rw [e7 hab] at hrx; cases hrx
    · obtain ⟨h1, d', hd', hlt, h0⟩ := next_dist hz hb hd hab
      have hx : x = nextT n l b a := by
        rw [show (800 : Nat) = 799 + 1 from rfl, wayL_cons 799 hab] at e1
        injection e1 with _ e1
        obtain ⟨r', e8, _⟩ := wayL_facts hz hb 799 (nextT n l b a) d' h1 hd' (by omega)
        rw [e8, hrx] at e1
        injection e1 with e1 _
        exact e1.symm
      have hok : wayOk n l x b = true := by
        unfold wayOk
        rw [hz, Bool.true_and]
        unfold reachB
        rw [distN_of (hx ▸ h1) (hx ▸ hd'.symm (edge_sym l))]
        rfl
      refine ⟨hok, ?_⟩
      unfold wayOf
      rw [if_pos hok, hx, ← wayL_fuel hz hb 799 800 _ d' h1 hd' (by omega) (by omega)]
      rw [show (800 : Nat) = 799 + 1 from rfl, wayL_cons 799 hab] at e1
      injection e1 with _ e1
  · subst e; simpa using e4
  · obtain ⟨i, hi, rfl⟩ := List.getElem_of_mem hx
    have := e2.1 i (by simp at hi; omega)
    unfold inT at this
    rw [List.getD_eq_getElem?_getD, List.getElem?_eq_getElem hi] at this
    simp only [Option.getD_some] at this
    omega

end Go.Proofs.Ytlkhgnglblgldaa
/- RoadsMiddle, of the model and of the program. -/
namespace Go.Proofs.Ytlkhgnglblgldaa
open Go.RowKit Go.Maps

/-- What holds while the greatest is looked for. -/
def GrRel (f : Int → Option Int) (F r c : Nat) (D : DataW Unit) (w : World) (gi : Nat) (u : Value) (wr : World) : Prop :=
  ∃ (left : Lit → Bool) (m : Int), wr.ranges Try.prog 3 intElem F r c D left gi ∧ u = .int .i64 m ∧ 0 ≤ m ∧ m ≤ 1000 ∧ (m = 0 ∨ ∃ x, f x = some m) ∧ (∀ x d, f x = some d → left (.int .i64 x) = false → d ≤ m) ∧ Below w.heap.size w wr

/-- The greatest of a map's numbers, 0 if there is none. -/
def GrOut (f : Int → Option Int) (w : World) (e : Ending) (w' : World) : Prop :=
  ∃ m : Int, e = .returned (.int .i64 m) ∧ 0 ≤ m ∧ (m = 0 ∨ ∃ x, f x = some m) ∧ (∀ x d, f x = some d → d ≤ m) ∧ Below w.heap.size w w'

/-- The first of the least. -/
def bestTo (g : Nat → Int) : Nat → Nat
  | 0 => 0
  | k + 1 => if g k < g (bestTo g k) then k else bestTo g k

theorem bestTo_le (g : Nat → Int) : ∀ k, bestTo g k ≤ k
  | 0 => Nat.le_refl _
  | k + 1 => by have := bestTo_le g k; unfold bestTo; split <;> omega

theorem bestTo_lt (g : Nat → Int) : ∀ {k}, 0 < k → bestTo g k < k
  | k + 1, _ => by have := bestTo_le g k; unfold bestTo; split <;> omega

theorem bestTo_one (g : Nat → Int) : bestTo g 1 = 0 := by unfold bestTo; split <;> simp [bestTo] at *

noncomputable def mostN (n : Int) (l : List Rd) (i : Nat) : Int := mostOf n l (i : Int)

/-- What RoadsMiddle gives. -/
noncomputable def midVal (n : Int) (l : List Rd) : Value :=
  if wholeOf n l = true then .tuple #[.int .i64 ((bestTo (mostN n l) n.toNat : Nat) : Int), .int .i64 (mostN n l (bestTo (mostN n l) n.toNat)), .bool true] else .tuple #[.int .i64 0, .int .i64 0, .bool false]


theorem whole_valid {n : Int} {l : List Rd} (h : wholeOf n l = true) : validR n l = true := by
  unfold wholeOf at h; rw [Bool.and_eq_true] at h; exact h.1

def MidRel (n : Int) (l : List Rd) (w : World) (u i : Value) (wr : World) : Prop := ∃ k : Nat, (k : Int) ≤ n ∧ i = .int .i64 k ∧ u = .int .i64 (bestTo (mostN n l) k : Nat) ∧ Below w.heap.size w wr

theorem whole_all {n : Int} {l : List Rd} (h : wholeOf n l = true) {s t : Int} (hs : 0 ≤ s ∧ s < n) (ht : 0 ≤ t ∧ t < n) : ∃ d, distO (edge l) s t = some d := by
  have hz := whole_valid h
  have hp := (edges_ok hz).pos
  have hsym : Sym (edge l) := fun x y => edge_symm l x y
  unfold wholeOf at h
  rw [hz, whole_iff hz] at h
  simp only [Bool.true_and, List.all_eq_true, List.mem_range] at h
  have g : ∀ x, 0 ≤ x ∧ x < n → ∃ d, Dist (edge l) 0 x d := fun x hx => by
    have := h x.toNat (by omega)
    rw [Int.toNat_of_nonneg hx.1] at this
    obtain ⟨d, hd⟩ := Option.isSome_iff_exists.1 this
    exact ⟨d, distO_some.1 hd⟩
  obtain ⟨d1, h1⟩ := g s hs
  obtain ⟨d2, h2⟩ := g t ht
  obtain ⟨d, hd⟩ := dist_exists hp ⟨_, (h1.1.rev hsym).trans h2.1⟩
  exact ⟨d, distO_some.2 hd⟩

theorem great_most {n : Int} {l : List Rd} (h : wholeOf n l = true) {s m : Int} (hs : 0 ≤ s ∧ s < n) (hm0 : 0 ≤ m) (h1 : m = 0 ∨ ∃ x, distN n (edge l) s x = some m) (h2 : ∀ x d, distN n (edge l) s x = some d → d ≤ m) : m = mostOf n l s := by
  have hz := whole_valid h
  have hN : ∀ x, distN n (edge l) s x = distO (edge l) s x := fun x => by unfold distN; rw [if_pos hs]
  refine Int.le_antisymm ?_ ?_
  · rcases h1 with rfl | ⟨x, hx⟩
    · exact mostTo_nonneg _ _
    · rw [hN] at hx
      have hx0 := (edges_ok hz).town (distO_some.1 hx) hs
      have := mostTo_ge (dst l s) (k := n.toNat) (i := x.toNat) (by omega)
      unfold mostOf
      have e : dst l s ((x.toNat : Nat) : Int) = m := by unfold dst; rw [Int.toNat_of_nonneg hx0.1, hx]; rfl
      omega
  · unfold mostOf
    refine mostTo_le _ hm0 (fun i hi => ?_)
    obtain ⟨d, hd⟩ := whole_all h hs (t := i) (by omega)
    have := h2 i d (by rw [hN]; exact hd)
    unfold dst; rw [hd]; exact this

theorem distN_bd {n : Int} {l : List Rd} (hz : validR n l = true) {s : Int} : ∀ x d, distN n (edge l) s x = some d → W64 x ∧ 0 ≤ d ∧ d ≤ 1000 := fun x d h => by
  unfold distN at h
  split at h
  · rename_i hs
    have hd := distO_some.1 h
    have h1 := (edges_ok hz).dist hd
    have h2 := (edges_ok hz).town hd hs
    have := (edges_ok hz).n8
    exact ⟨by unfold W64; omega, by omega, by omega⟩
  · cases h

def MidRel2 (n : Int) (l : List Rd) (nb : Nat) (bs : Int → Nat) (cnt : Nat) (w : World) (u y i : Value) (wr : World) : Prop :=
  ∃ k : Nat, 1 ≤ k ∧ (k : Int) ≤ n ∧ i = .int .i64 k ∧ u = .int .i64 (bestTo (mostN n l) k : Nat) ∧ y = .int .i64 (mostN n l (bestTo (mostN n l) k)) ∧ Below w.heap.size w wr ∧ NetAt wr nb n bs cnt (edge l)

end Go.Proofs.Ytlkhgnglblgldaa
/- Pure facts for FnMiddle. -/
namespace Go.Proofs.Ytlkhgnglblgldaa

theorem bestTo_min (g : Nat → Int) : ∀ {k i : Nat}, i < k → g (bestTo g k) ≤ g i
  | k + 1, i, hi => by
    unfold bestTo
    split
    · rename_i h
      by_cases e : i = k
      · subst e; exact Int.le_refl _
      · have := bestTo_min g (show i < k by omega); omega
    · rename_i h
      by_cases e : i = k
      · subst e; omega
      · exact bestTo_min g (by omega)
theorem bestTo_first (g : Nat → Int) : ∀ {k i : Nat}, i < k → i < bestTo g k → g (bestTo g k) < g i
  | k + 1, i, hi, hb => by
    unfold bestTo at hb ⊢
    split
    · rename_i h
      rw [if_pos h] at hb
      have := bestTo_min g (show i < k by omega); omega
    · rename_i h
      rw [if_neg h] at hb
      by_cases e : i = k
      · subst e; have := bestTo_le g i; omega
      · exact bestTo_first g (by omega) hb

theorem whole_far {n : Int} {l : List Rd} (h : wholeOf n l = true) {s t : Int} (hs : 0 ≤ s ∧ s < n) (ht : 0 ≤ t ∧ t < n) : 0 ≤ farOf n l s t ∧ farOf n l s t = dst l s t := by
  obtain ⟨d, hd⟩ := whole_all h hs ht
  have hz := whole_valid h
  rw [farOf_in hz hs]
  unfold dst
  rw [hd]
  exact ⟨(dist_bd hz hd).1, rfl⟩

/-- What FnMiddle asks. -/
theorem mid_law {n : Int} {l : List Rd} (h : wholeOf n l = true) (hn : 1 ≤ n) :
    bestTo (mostN n l) n.toNat < n.toNat ∧ 0 ≤ mostN n l (bestTo (mostN n l) n.toNat) ∧ mostN n l (bestTo (mostN n l) n.toNat) ≤ 100000 ∧
    (∀ a b : Nat, (a : Int) < n → (b : Int) < n → 0 ≤ farOf n l a b ∧ farOf n l a b = dst l a b ∧ farOf n l a b ≤ 2 * mostN n l (bestTo (mostN n l) n.toNat)) ∧
    (∀ a : Nat, (a : Int) < n → mostN n l (bestTo (mostN n l) n.toNat) ≤ mostN n l a) ∧
    (∀ a : Nat, a < bestTo (mostN n l) n.toNat → mostN n l (bestTo (mostN n l) n.toNat) < mostN n l a) := by
  have hB := bestTo_lt (mostN n l) (show 0 < n.toNat by omega)
  have hz := whole_valid h
  refine ⟨hB, (mostOf_bd hz _).1, (mostOf_bd hz _).2, fun a b ha hb => ?_, fun a ha => bestTo_min _ (by omega), fun a ha => bestTo_first _ (by omega) ha⟩
  generalize bestTo (mostN n l) n.toNat = B at *
  have hBn : 0 ≤ (B : Int) ∧ (B : Int) < n := by omega
  obtain ⟨h1, e1⟩ := whole_far h (s := (a : Int)) (t := (b : Int)) (by omega) (by omega)
  obtain ⟨h2, e2⟩ := whole_far h (s := (B : Int)) (t := (a : Int)) hBn (by omega)
  obtain ⟨h3, e3⟩ := whole_far h (s := (B : Int)) (t := (b : Int)) hBn (by omega)
  have g2 : dst l B a ≤ mostN n l B := mostTo_ge (dst l B) (show a < n.toNat by omega)
  have g3 : dst l B b ≤ mostN n l B := mostTo_ge (dst l B) (show b < n.toNat by omega)
  have ht := (far_tri (show 0 ≤ farOf n l a B by rw [far_symm]; exact h2) h3).2
  rw [far_symm n l B a] at ht
  exact ⟨h1, e1, by omega⟩

end Go.Proofs.Ytlkhgnglblgldaa
/- The shortest net: its roads are bridges that join all towns, one fewer than the towns; on a road's way in it no road is longer; no program. -/
namespace Go.Proofs.Ytlkhgnglblgldaa

theorem Bridges.congr {l : List Rd} {S T : Nat → Prop} (h : Bridges l S) (e : ∀ j, T j ↔ S j) : Bridges l T := fun j hj T' hT' => h j ((e j).1 hj) T' fun i hi => ⟨(e i).1 (hT' i hi).1, (hT' i hi).2⟩
theorem ord_step {l : List Rd} {k : Nat} (h : k < l.length) : (orderM l).take (k + 1) = (orderM l).take k ++ [(orderM l).getD k 0] ∧ (orderM l).getD k 0 < l.length ∧ ((orderM l).take (k + 1)).Nodup ∧ (∀ i, i ∈ (orderM l).take (k + 1) → i < l.length) ∧
    (∀ j, j ∈ (orderM l).take k → (l.getD j rd0).m ≤ (l.getD ((orderM l).getD k 0) rd0).m) := by
  have hk : k < (orderM l).length := by rw [orderM_length]; exact h
  have e : (orderM l).getD k 0 = (orderM l)[k] := by simp [List.getD, hk]
  have ht : (orderM l).take (k + 1) = (orderM l).take k ++ [(orderM l).getD k 0] := by rw [List.take_succ_eq_append_getElem hk, e]
  refine ⟨ht, ?_, (orderM_nodup l).sublist (List.take_sublist _ _), fun i hi => orderM_mem.1 (List.mem_of_mem_take hi), fun j hj => ?_⟩
  · rw [e]; exact orderM_mem.1 (List.getElem_mem hk)
  · have hs := (orderM_sorted l).sublist (List.take_sublist (k + 1) _)
    rw [ht] at hs
    have := (List.pairwise_append.1 hs).2.2 j hj _ (List.mem_singleton.2 rfl)
    rw [leM_iff] at this
    omega

/-- What holds of those taken, S, of an order's first ones, o. -/
structure KInv (n : Int) (l : List Rd) (o S : List Nat) : Prop where
  sub : ∀ i, i ∈ S → i ∈ o
  done : ∀ i, i ∈ o → ∃ T : Nat → Prop, (∀ j, T j → j ∈ S ∧ (l.getD j rd0).m ≤ (l.getD i rd0).m) ∧ Reach l T (l.getD i rd0).a (l.getD i rd0).b
  bridges : Bridges l (fun j => j ∈ S)
  cnt : parts l (fun j => j ∈ S) n.toNat + S.length = n.toNat
theorem road_fits {n : Int} {l : List Rd} (hz : validR n l = true) {i : Nat} (hi : i < l.length) : 0 ≤ (l.getD i rd0).a ∧ (l.getD i rd0).a < (l.getD i rd0).b ∧ (l.getD i rd0).b < n ∧ 1 ≤ (l.getD i rd0).m ∧ (l.getD i rd0).m ≤ 99 :=
  (fits_iff _ _).1 ((okAt_iff n l i).1 (okTo_at n l (valid_bounds hz).2.2.2 hi)).1
theorem kinv {n : Int} {l : List Rd} (hz : validR n l = true) : ∀ k, k ≤ l.length → KInv n l ((orderM l).take k) (netTo n l ((orderM l).take k))
  | 0, _ => by
    have e : netTo n l ((orderM l).take 0) = [] := by simp [netTo]
    rw [e]
    refine ⟨fun i hi => ?_, fun i hi => ?_, fun j hj => ?_, ?_⟩
    · cases hi
    · simp at hi
    · cases hj
    · rw [parts_none l (S := fun j => j ∈ ([] : List Nat)) (fun j hj => by cases hj)]; rfl
  | k + 1, hk => by
    have ih := kinv hz k (by omega)
    obtain ⟨h1, h2, h3, h4, h5⟩ := ord_step (l := l) (k := k) (by omega)
    have hst := netTo_snoc n l ((orderM l).take k) ((orderM l).getD k 0)
    rw [← h1] at hst
    have hnd0 : ((orderM l).take k).Nodup := (orderM_nodup l).sublist (List.take_sublist _ _)
    obtain ⟨s1, s2, s3⟩ := net_inv (n := n) (l := l) hnd0 (fun j hj => h4 j (by rw [h1]; exact List.mem_append_left _ hj))
    have hE := edges_ok (pickR_valid hz s1 s2 s3)
    have hft := road_fits hz h2
    rw [h1] at h3
    have hni : (orderM l).getD k 0 ∉ (orderM l).take k := fun hm => (List.nodup_append.1 h3).2.2 _ hm _ (List.mem_singleton.2 rfl) rfl
    generalize (orderM l).getD k 0 = i at *
    generalize netTo n l ((orderM l).take k) = S at *
    cases hr : reachB n (edge (pickR l S)) (l.getD i rd0).a (l.getD i rd0).b with
    | true =>
      rw [stepK_yes hr] at hst
      rw [hst, h1]
      refine ⟨fun j hj => List.mem_append_left _ (ih.sub j hj), fun j hj => ?_, ih.bridges, ih.cnt⟩
      rcases List.mem_append.1 hj with hj | hj
      · exact ih.done j hj
      · rw [List.mem_singleton.1 hj]
        obtain ⟨d, hd⟩ := (reachB_iff hE (by omega)).1 hr
        exact ⟨fun j => j ∈ S, fun j hj => ⟨hj, h5 j (ih.sub j hj)⟩, way_reach hd⟩
    | false =>
      rw [stepK_no hr] at hst
      rw [hst, h1]
      have hni' : i ∉ S := fun hm => hni (ih.sub i hm)
      have hnr : ¬ Reach l (fun j => j ∈ S) (l.getD i rd0).a (l.getD i rd0).b := fun h => by
        obtain ⟨d, hd⟩ := reach_way (fun j hj => (road_fits hz (s2 j hj)).2.1) h
        rw [(reachB_iff hE (by omega)).2 ⟨d, hd⟩] at hr; cases hr
      have hmem : ∀ j, j ∈ S ++ [i] ↔ j ∈ S ∨ j = i := fun j => by simp
      refine ⟨fun j hj => ?_, fun j hj => ?_, (ih.bridges.add hni' hnr).congr hmem, ?_⟩
      · rcases List.mem_append.1 hj with hj | hj
        · exact List.mem_append_left _ (ih.sub j hj)
        · exact List.mem_append_right _ hj
      · rcases List.mem_append.1 hj with hj | hj
        · obtain ⟨T, hT, hr'⟩ := ih.done j hj
          exact ⟨T, fun k hk => ⟨List.mem_append_left _ (hT k hk).1, (hT k hk).2⟩, hr'⟩
        · rw [List.mem_singleton.1 hj]
          exact ⟨fun j => j = i, fun j hj => by subst hj; exact ⟨by simp, Int.le_refl _⟩, Reach.one rfl⟩
      · have h7 : parts l (fun j => j ∈ S ++ [i]) n.toNat + 1 = parts l (fun j => j ∈ S) n.toNat := parts_add (n := n.toNat) hmem hnr (by omega) (by omega)
        have h6 : parts l (fun j => j ∈ S) n.toNat + S.length = n.toNat := ih.cnt
        rw [List.length_append, List.length_singleton]; omega
theorem kinv_all {n : Int} {l : List Rd} (hz : validR n l = true) : KInv n l (orderM l) (netS n l) := by
  have := kinv hz l.length (Nat.le_refl _)
  rwa [show (orderM l).take l.length = orderM l by rw [← orderM_length l, List.take_length]] at this

theorem reach_minmax {l : List Rd} {S : Nat → Prop} {y z : Int} (h : Reach l S (min y z) (max y z)) : Reach l S y z := by
  rcases Int.le_total y z with hyz | hyz
  · rwa [Int.min_eq_left hyz, Int.max_eq_right hyz] at h
  · rw [Int.min_eq_right hyz, Int.max_eq_left hyz] at h
    exact h.symm
/-- Those taken, ascending. -/
noncomputable def upN (n : Int) (l : List Rd) : List Nat := (List.range l.length).filter fun i => (netS n l).contains i
theorem netUp_upN (n : Int) (l : List Rd) : netUp n l l.length = (upN n l).map fun (i : Nat) => (i : Int) := rfl
theorem upN_mem {n : Int} {l : List Rd} {i : Nat} : i ∈ upN n l ↔ i ∈ netS n l := by
  unfold upN
  rw [List.mem_filter, List.mem_range, List.contains_iff_mem]
  exact ⟨fun h => h.2, fun h => ⟨(netS_inv n l).2.1 i h, h⟩⟩
theorem upN_nodup (n : Int) (l : List Rd) : (upN n l).Nodup := List.nodup_range.sublist List.filter_sublist
theorem upN_lt {n : Int} {l : List Rd} {i : Nat} (h : i ∈ upN n l) : i < l.length := (netS_inv n l).2.1 i (upN_mem.1 h)
theorem upN_len (n : Int) (l : List Rd) : (upN n l).length = (netS n l).length := by
  have := congrArg List.length (netUp_sort n l)
  rw [List.length_mergeSort, List.length_map, netUp_upN, List.length_map] at this
  exact this.symm
theorem up_valid {n : Int} {l : List Rd} (hz : validR n l = true) : validR n (pickR l (upN n l)) = true :=
  pickR_valid hz (upN_nodup n l) (fun i hi => upN_lt hi) (by rw [upN_len]; exact (netS_inv n l).2.2)
theorem up_reach {n : Int} {l : List Rd} (h : wholeOf n l = true) {s t : Int} (hs : 0 ≤ s ∧ s < n) (ht : 0 ≤ t ∧ t < n) : Reach l (fun j => j ∈ upN n l) s t := by
  have hz : validR n l = true := by unfold wholeOf at h; rw [Bool.and_eq_true] at h; exact h.1
  obtain ⟨_, _, _, hd⟩ := far_facts (whole_far h hs ht).1
  have hk := kinv_all hz
  have key : ∀ {x y d : Int}, Way (edge l) x y d → Reach l (fun j => j ∈ upN n l) x y := by
    intro x y d hw
    induction hw with
    | nil => exact .refl _
    | snoc _ he ih =>
      obtain ⟨r, hr, _, h2, h3⟩ := edge_some he
      obtain ⟨i, hi, rfl⟩ := List.getElem_of_mem hr
      obtain ⟨T, hT, hR⟩ := hk.done i (orderM_mem.2 hi)
      have e : l.getD i rd0 = l[i] := by simp [List.getD, hi]
      rw [e] at hR
      have hR' := hR.mono (S' := fun j => j ∈ upN n l) fun j hj => upN_mem.2 (hT j hj).1
      rw [h2, h3] at hR'
      exact ih.trans (reach_minmax hR')
  exact key hd.1
theorem up_len {n : Int} {l : List Rd} (h : wholeOf n l = true) : ((upN n l).length : Int) = n - 1 := by
  have hz : validR n l = true := by unfold wholeOf at h; rw [Bool.and_eq_true] at h; exact h.1
  have hn1 := (valid_bounds hz).1
  have hk := (kinv_all hz).cnt
  have h1 : parts l (fun j => j ∈ netS n l) n.toNat = 1 := parts_whole (by omega) fun t ht => (up_reach h (s := 0) (t := (t : Int)) (by omega) (by omega)).mono fun j hj => upN_mem.1 hj
  rw [upN_len]; omega
theorem up_lt {n : Int} {l : List Rd} (hz : validR n l = true) : ∀ j, j ∈ upN n l → (l.getD j rd0).a < (l.getD j rd0).b := fun j hj => (road_fits hz (upN_lt hj)).2.1
theorem up_whole {n : Int} {l : List Rd} (h : wholeOf n l = true) : wholeOf n (pickR l (upN n l)) = true := by
  have hz : validR n l = true := by unfold wholeOf at h; rw [Bool.and_eq_true] at h; exact h.1
  have hv := up_valid hz
  have hn1 := (valid_bounds hz).1
  unfold wholeOf
  rw [hv, whole_iff hv, Bool.true_and, List.all_eq_true]
  intro i hi
  rw [List.mem_range] at hi
  obtain ⟨d, hd⟩ := reach_way (up_lt hz) (up_reach h (s := 0) (t := (i : Int)) (by omega) (by omega))
  obtain ⟨d', hd'⟩ := dist_exists (edges_ok hv).pos ⟨d, hd⟩
  rw [distO_some.2 hd']; rfl
theorem pickR_getD {l : List Rd} {U : List Nat} {k : Nat} (hk : k < U.length) : (pickR l U).getD k rd0 = l.getD (U.getD k 0) rd0 := by
  simp [pickR, List.getD, hk]
theorem getD_memU {U : List Nat} {k : Nat} (hk : k < U.length) : U.getD k 0 ∈ U := by simp [List.getD, hk]
theorem up_need {n : Int} {l : List Rd} (hz : validR n l = true) : (needOf n (pickR l (upN n l))).length = (upN n l).length := by
  have hv := up_valid hz
  have hb := (kinv_all hz).bridges
  unfold needOf
  rw [if_pos hv]
  unfold needTo
  rw [List.length_map, pickR_len]
  rw [List.filter_eq_self.2, List.length_range]
  intro k hk
  rw [List.mem_range] at hk
  have hj := getD_memU hk
  have hft := road_fits hz (upN_lt hj)
  unfold needB
  rw [pickR_getD hk]
  cases hr : reachB n (edge ((pickR l (upN n l)).take k ++ (pickR l (upN n l)).drop (k + 1))) (l.getD ((upN n l).getD k 0) rd0).a (l.getD ((upN n l).getD k 0) rd0).b with
  | false => rfl
  | true =>
    exfalso
    have hE := edges_ok (valid_erase hv k)
    obtain ⟨d, hd⟩ := (reachB_iff hE (by omega)).1 hr
    have e : (pickR l (upN n l)).take k ++ (pickR l (upN n l)).drop (k + 1) = pickR l ((upN n l).take k ++ (upN n l).drop (k + 1)) := by
      simp [pickR, List.map_take, List.map_drop]
    rw [e] at hd
    refine hb _ (upN_mem.1 hj) _ (fun i hi => ?_) (way_reach hd)
    have hsp : upN n l = (upN n l).take k ++ (upN n l).getD k 0 :: (upN n l).drop (k + 1) := by
      have e2 : (upN n l).getD k 0 = (upN n l)[k] := by simp [List.getD, hk]
      rw [e2, List.getElem_cons_drop hk, List.take_append_drop]
    have hnd := upN_nodup n l
    rw [hsp] at hnd
    have h1 := List.nodup_append.1 hnd
    have h2 := List.nodup_cons.1 h1.2.1
    rcases List.mem_append.1 hi with hi | hi
    · exact ⟨upN_mem.1 (List.mem_of_mem_take hi), fun e3 => h1.2.2 i hi _ (List.mem_cons_self ..) e3⟩
    · exact ⟨upN_mem.1 (List.mem_of_mem_drop hi), fun e3 => h2.1 (e3 ▸ hi)⟩
theorem up_ok {n : Int} {l : List Rd} (h : wholeOf n l = true) {i : Nat} (hi : i < l.length) : wayOk n (pickR l (upN n l)) (l.getD i rd0).a (l.getD i rd0).b = true := by
  have hz : validR n l = true := by unfold wholeOf at h; rw [Bool.and_eq_true] at h; exact h.1
  have hv := up_valid hz
  have hft := road_fits hz hi
  unfold wayOk
  rw [hv, Bool.true_and]
  refine (reachB_iff (edges_ok hv) (by omega)).2 (reach_way (up_lt hz) (up_reach h (by omega) (by omega)))

theorem walk_reach {l : List Rd} {S : Nat → Prop} {W : List Int} {p : Nat} : ∀ q, p ≤ q → (∀ r, p ≤ r → r < q → ∃ j, S j ∧ joins l j (W.getD r 0) (W.getD (r + 1) 0)) → Reach l S (W.getD p 0) (W.getD q 0) := by
  intro q
  induction q with
  | zero => intro h _; obtain rfl : p = 0 := by omega
            exact .refl _
  | succ q ih =>
    intro h hs
    by_cases e : p = q + 1
    · subst e; exact .refl _
    · obtain ⟨j, h1, h2⟩ := hs q (by omega) (by omega)
      exact .step (ih (by omega) fun r hr hr' => hs r hr (by omega)) h1 h2
theorem nodup_getD {W : List Int} (h : W.Nodup) {i j : Nat} (hi : i < W.length) (hj : j < W.length) (e : W.getD i 0 = W.getD j 0) : i = j := by
  rw [show W.getD i 0 = W[i] by simp [List.getD, hi], show W.getD j 0 = W[j] by simp [List.getD, hj]] at e
  exact (List.getElem_inj h).1 e
/-- On the way of a road in the net no road is longer. -/
theorem up_miles {n : Int} {l : List Rd} (h : wholeOf n l = true) {i : Nat} (hi : i < l.length) {k : Nat} (hk : 1 ≤ k) (hkl : k < (wayOf n (pickR l (upN n l)) (l.getD i rd0).a (l.getD i rd0).b).length) :
    directOf n (pickR l (upN n l)) ((wayOf n (pickR l (upN n l)) (l.getD i rd0).a (l.getD i rd0).b).getD (k - 1) 0) ((wayOf n (pickR l (upN n l)) (l.getD i rd0).a (l.getD i rd0).b).getD k 0) ≤ (l.getD i rd0).m := by
  have hz : validR n l = true := by unfold wholeOf at h; rw [Bool.and_eq_true] at h; exact h.1
  have hv := up_valid hz
  have hok := up_ok h hi
  have hI := kinv_all hz
  obtain ⟨r, ew, hnd, hlen, hlast, _, _, hr0, hin, hbn⟩ := way_law hok
  have hfar : 0 ≤ farOf n (pickR l (upN n l)) (l.getD i rd0).a (l.getD i rd0).b := by
    unfold wayOk at hok; rw [Bool.and_eq_true] at hok; exact far_pos hv hok.2
  rw [ew] at hkl ⊢
  obtain ⟨_, K, hK, ⟨_, hseg⟩, _⟩ := of_wlen (l := pickR l (upN n l)) (way := (l.getD i rd0).a :: r) (by rw [hlen]; exact hfar)
  have h0 : ((l.getD i rd0).a :: r).getD 0 0 = (l.getD i rd0).a := rfl
  have hlst : ((l.getD i rd0).a :: r).getD K 0 = (l.getD i rd0).b := by
    rw [← hlast]
    have : ∀ (x : Int) (s : List Int) (d : Int), (x :: s).getLastD d = (x :: s).getD s.length 0 := by
      intro x s
      induction s generalizing x with
      | nil => intro d; rfl
      | cons y s ih => intro d; rw [List.getLastD_cons, ih y x]; simp
    rw [this]
    simp only [List.length_cons] at hK
    congr 1; omega
  generalize hW : (l.getD i rd0).a :: r = W at *
  have hs : ∀ q, q < K → ∃ j m, j ∈ upN n l ∧ (l.getD j rd0).m = m ∧ edge (pickR l (upN n l)) (W.getD q 0) (W.getD (q + 1) 0) = some m ∧ joins l j (W.getD q 0) (W.getD (q + 1) 0) := fun q hq => by
    have := hseg q hq
    unfold segE at this
    cases he : edge (pickR l (upN n l)) (W.getD q 0) (W.getD (q + 1) 0) with
    | none => rw [he] at this; cases this
    | some m =>
      obtain ⟨j, h1, h2, h3⟩ := pick_edge he
      exact ⟨j, m, h1, h2, rfl, h3⟩
  obtain ⟨j, m, hj, hjm, hje, hjj⟩ := hs (k - 1) (by omega)
  rw [show k - 1 + 1 = k by omega] at hje hjj
  unfold directOf
  rw [if_pos hv, hje]
  show m ≤ _
  by_cases hle : m ≤ (l.getD i rd0).m
  · exact hle
  · exfalso
    -- no other step of the way goes over the road j
    have hoth : ∀ q, q < K → q ≠ k - 1 → ∃ j', (j' ∈ upN n l ∧ j' ≠ j) ∧ joins l j' (W.getD q 0) (W.getD (q + 1) 0) := fun q hq hqk => by
      obtain ⟨j', m', h1, _, _, h4⟩ := hs q hq
      refine ⟨j', ⟨h1, fun e => ?_⟩, h4⟩
      subst e
      unfold joins at h4 hjj
      have inj := fun {a b : Nat} (ha : a < W.length) (hb : b < W.length) (e : W.getD a 0 = W.getD b 0) => nodup_getD hnd ha hb e
      rcases h4 with ⟨a1, a2⟩ | ⟨a1, a2⟩ <;> rcases hjj with ⟨b1, b2⟩ | ⟨b1, b2⟩
      · have := inj (by omega) (by omega) (a1.symm.trans b1); omega
      · have e1 := inj (by omega) (by omega) (a1.symm.trans b2); have e2 := inj (by omega) (by omega) (a2.symm.trans b1); omega
      · have e1 := inj (by omega) (by omega) (a1.symm.trans b2); have e2 := inj (by omega) (by omega) (a2.symm.trans b1); omega
      · have := inj (by omega) (by omega) (a1.symm.trans b1); omega
    have r1 : Reach l (fun j' => j' ∈ upN n l ∧ j' ≠ j) (W.getD 0 0) (W.getD (k - 1) 0) := walk_reach (k - 1) (Nat.zero_le _) fun q _ hq => hoth q (by omega) (by omega)
    have r2 : Reach l (fun j' => j' ∈ upN n l ∧ j' ≠ j) (W.getD k 0) (W.getD K 0) := walk_reach K (by omega) fun q hq hq' => hoth q hq' (by omega)
    obtain ⟨T, hT, hR⟩ := hI.done i (orderM_mem.2 hi)
    have r3 : Reach l (fun j' => j' ∈ upN n l ∧ j' ≠ j) (l.getD i rd0).a (l.getD i rd0).b := hR.mono fun j' hj' => ⟨upN_mem.2 (hT j' hj').1, fun e => by
      have := (hT j' hj').2
      rw [e, hjm] at this
      exact hle this⟩
    rw [h0] at r1
    rw [hlst] at r2
    have r4 : Reach l (fun j' => j' ∈ upN n l ∧ j' ≠ j) (W.getD (k - 1) 0) (W.getD k 0) := (r1.symm.trans r3).trans r2.symm
    refine hI.bridges j (upN_mem.1 hj) (fun j' => j' ∈ upN n l ∧ j' ≠ j) (fun i hi => ⟨upN_mem.1 hi.1, hi.2⟩) ?_
    rcases hjj with ⟨e1, e2⟩ | ⟨e1, e2⟩
    · rw [e1, e2]; exact r4
    · rw [e1, e2]; exact r4.symm

end Go.Proofs.Ytlkhgnglblgldaa
/- The laws' sameInts. -/
namespace Go.Proofs.Ytlkhgnglblgldaa
open Go.RowKit

set_option maxHeartbeats 400000 in
theorem sameInts_any (v v' : Value) (l l' : List Int) (w : World) (hv : IntsIn w v l) (hv' : IntsIn w v' l') (hl : l.length ≤ 1048576) :
    Calls Try.prog 12 #[v, v'] w (EqIOut (l = l') w) := by
  obtain ⟨a, cap, rfl, hcap, ha⟩ := hv
  clear hcap
  obtain ⟨a', cap', rfl, hcap', ha'⟩ := hv'
  clear hcap'
  by_cases hle : l.length = l'.length
  · have Ha := Lib.hid ha; clear ha
    have Ha' := Lib.hid ha'; clear ha'
    have h1 : ((l.length : Int) != (l'.length : Int)) = false := by simp [hle]
    have Hle := Lib.hid hle; clear hle
    go_enter Try.func12, Try.ntmps12
    go_wp2
    clear h1
    go_loopw [5] (fun i wr => EqIRel l l' w i wr) (fun i _ => l.length - (intOf i).toNat)
    case atStart => exact ⟨0, Nat.zero_le _, rfl, fun i hi => by omega, Below.refl _ _⟩
    case round =>
      obtain ⟨k, hk, rfl, heq, hbel⟩ := hrel
      have Heq := Lib.hid heq; clear heq
      by_cases hlt : k < l.length
      · have hlt' : k < l'.length := Hle.out ▸ hlt
        obtain ⟨b, o, rfl, hb, hrw⟩ := Ha.out (by intro h; simp [h] at hlt)
        obtain ⟨b', o', rfl, hb', hrw'⟩ := Ha'.out (by intro h; simp [h] at hlt')
        have c0 := (hrw.below hbel hb) k hlt
        have c0' := (hrw'.below hbel hb') k hlt'
        have Hrw := Lib.hid hrw; clear hrw
        have Hrw' := Lib.hid hrw'; clear hrw'
        have hk0 : (0 : Int) ≤ (k : Int) := Int.natCast_nonneg _
        have hk1 : (k : Int) < (l.length : Int) := by omega
        have hk1' : (k : Int) < (l'.length : Int) := by omega
        generalize hx : l.getD k 0 = x at *
        generalize hy : l'.getD k 0 = y at *
        have Hx := Lib.hid hx; clear hx
        have Hy := Lib.hid hy; clear hy
        by_cases hq : (x != y) = true
        · go_wp2
          go_quiet (fail)
          go_wp2
          go_ret
          refine ⟨⟨false, rfl, ?_⟩, hbel.drewN _⟩
          simp only [Bool.false_eq_true, false_iff]
          rintro rfl
          rw [← Hx.out, ← Hy.out] at hq
          simp at hq
        · have hq' : (x != y) = false := by simpa using hq
          clear hq
          go_wp2
          go_quiet (fail)
          go_wp2
          refine ⟨⟨k + 1, hlt, by go_num, fun i hi => ?_, hbel.drewN _⟩, by simp [intOf]; omega⟩
          by_cases hik : i = k
          · subst hik; rw [Hx.out, Hy.out]; simpa using hq'
          · exact Heq.out i (by omega)
      · obtain rfl : k = l.length := by omega
        go_wp2
        go_ret
        exact ⟨⟨true, rfl, by simp only [true_iff]; exact eqITo_all Hle.out Heq.out⟩, hbel⟩
  · have h1 : ((l.length : Int) != (l'.length : Int)) = true := by simp; omega
    have Hle := Lib.hid hle; clear hle
    have Ha := Lib.hid ha; clear ha
    have Ha' := Lib.hid ha'; clear ha'
    go_enter Try.func12, Try.ntmps12
    go_wp2
    go_ret
    exact ⟨⟨false, rfl, by simp; rintro rfl; exact Hle.out rfl⟩, Below.refl _ _⟩

end Go.Proofs.Ytlkhgnglblgldaa
