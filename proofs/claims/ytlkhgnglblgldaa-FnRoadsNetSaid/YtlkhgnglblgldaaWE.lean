/- The model's l1Far. -/
import Derived.Test.YtlkhgnglblgldaaW5
import Derived.Test.YtlkhgnglblgldaaI
import Derived.Test.YtlkhgnglblgldaaK
import Derived.BigRegion
import Derived.OwnWalk
import Derived.Deep.DeepCutAuto
namespace Go.Proofs.Ytlkhgnglblgldaa
open Go.RowKit

def FarOut (n : Int) (l : List Rd) (s : Int) (w : World) (e : Ending) (w' : World) : Prop :=
  ∃ (b cap : Nat) (o : List Int), e = .returned (.slice (some ⟨b, 0, none⟩) o.length cap) ∧ (o.length : Int) = n ∧ o.length ≤ cap ∧ w.heap.size ≤ b ∧ b < w'.heap.size ∧ IntAt w' b 0 o ∧ (∀ t, 0 ≤ t → t < n → fO o t = (distO (edge l) s t).getD 100000) ∧ Below w.heap.size w w'

def FillRel (n : Int) (w : World) (v i : Value) (wr : World) : Prop :=
  ∃ k : Nat, (k : Int) ≤ n ∧ i = .int .i64 k ∧ wr.ownsRow w.heap.size 3 1 v k (List.replicate k (.int .i64 100000)) ∧ Below w.heap.size w wr

theorem own_ints {w : World} {B k : Nat} {v : Value} {xs : List Int} (h : w.ownsRow B 3 1 v k (xs.map (.int .i64))) (hx : xs.length = k) (hk : 0 < k) :
    ∃ g cap, v = .slice (some ⟨g, 0, none⟩) k cap ∧ B ≤ g ∧ g < w.heap.size ∧ k ≤ cap ∧ IntAt w g 0 xs ∧ Room w g k := by
  obtain ⟨_, h2⟩ := h
  rcases h2 with ⟨_, h0⟩ | ⟨g, cap, cur, rfl, hg, hh, hn, hcap, hsz, htake⟩
  · omega
  · have hcell : ∀ i, i < k → ∃ u, cur[i]? = some u := fun i hi => ⟨_, Array.getElem?_eq_getElem (by omega)⟩
    refine ⟨g, cap, rfl, hg, (Array.getElem?_eq_some_iff.1 hh).1, hn, fun i hi => ?_, fun j hj => ?_, fun o => by simp [World.frozen?, hh]⟩
    · rw [cell_of_row w g _ cur _ (0, 0) hh, Nat.zero_add]
      have e : (cur.toList.take (k * 1))[i]? = (xs.map (Value.int .i64))[i]? := by rw [htake]
      rw [List.getElem?_take, if_pos (by omega)] at e
      have e2 : cur[i]? = (xs.map (Value.int .i64))[i]? := by simpa using e
      rw [e2]; simp [List.getD, hi]
    · obtain ⟨u, hu⟩ := hcell j hj
      exact ⟨u, by rw [cell_of_row w g _ cur _ (0, 0) hh]; exact hu⟩

theorem int_set {w : World} {g k : Nat} {xs : List Int} (h : IntAt w g 0 xs) (hr : Room w g k) {p : Nat} (hp : p < xs.length) (x : Int) (hk : xs.length ≤ k := by simp) : IntAt (w.setCell ⟨g, p, none⟩ (.int .i64 x)) g 0 (xs.set p x) := by
  intro i hi
  simp only [List.length_set] at hi
  rw [Nat.zero_add]
  by_cases e : i = p
  · subst e
    obtain ⟨u, hu⟩ := hr.1 i (by omega)
    rw [World.cell?_setCell_same _ _ _ hu]
    simp [List.getD, hi]
  · rw [World.cell?_setCell_other _ _ _ _ (by intro e'; injection e'; omega)]
    have := h i hi
    rw [Nat.zero_add] at this
    rw [this]
    simp [List.getD, show ¬ p = i from fun h => e h.symm]

def BfRel (l : List Rd) (s : Int) (w : World) (g k : Nat) (i : Value) (wq : World) : Prop :=
  ∃ (R : Nat) (o : List Int), R ≤ k ∧ i = .int .i64 R ∧ o.length = k ∧ IntAt wq g 0 o ∧ Room wq g k ∧ BF (edge l) s (WayN (edge l) R s) (fO o) ∧ Below w.heap.size w wq ∧ g < wq.heap.size

def BfRel2 (l : List Rd) (s : Int) (w : World) (g k R : Nat) (i : Value) (wq : World) : Prop :=
  ∃ (j : Nat) (o : List Int), j ≤ l.length ∧ i = .int .i64 j ∧ o.length = k ∧ IntAt wq g 0 o ∧ Room wq g k ∧ BF (edge l) s (Cov l s R j) (fO o) ∧ Below w.heap.size w wq ∧ g < wq.heap.size

/-- Behind the first half of a road's step. -/
def CutOut (w : World) (g k pa pb : Nat) (rm oa1 ob : Int) (o1 : List Int) (s11 : Value) (wx : World) : Prop :=
  ∃ X : Nat, s11 = .pointer (some ⟨X, 0, none⟩) ∧ wx.cell? ⟨X, 0, none⟩ = some (.int .i64 pa) ∧ wx.cell? ⟨X, 1, none⟩ = some (.int .i64 pb) ∧ wx.cell? ⟨X, 2, none⟩ = some (.int .i64 rm) ∧ IntAt wx g 0 (o1.set pa oa1) ∧ Room wx g k ∧ Below w.heap.size w wx ∧ g < wx.heap.size ∧
    wx.cell? ⟨g, pa, none⟩ = some (.int .i64 oa1) ∧ wx.cell? ⟨g, pb, none⟩ = some (.int .i64 ob) ∧ wx.frozen? ⟨g, pb, none⟩ = false ∧ g ≠ X

theorem bf_range {n : Int} {l : List Rd} (hz : validR n l = true) {s : Int} {C : Int → Int → Prop} {f : Int → Int} (h : BF (edge l) s C f) (t : Int) : 0 ≤ f t ∧ f t ≤ 100000 := by
  refine ⟨?_, h.le t⟩
  rcases h.way t with h1 | h1
  · omega
  · exact h1.nonneg (fun x y m he => (edge_miles hz he).2.2.2.2.1)

theorem far_step {n : Int} {l : List Rd} {s : Int} {R j pa pb : Nat} {o1 : List Int} {rm oa ob oa1 : Int} (hv : okTo n l l.length = true) (hj : j < l.length) (h : BF (edge l) s (Cov l s R j) (fO o1))
    (ha : (l.getD j rd0).a = (pa : Int)) (hb : (l.getD j rd0).b = (pb : Int)) (hm : (l.getD j rd0).m = rm) (hoa : o1.getD pa 0 = oa) (hob : o1.getD pb 0 = ob) (hla : pa < o1.length) (hlb : pb < o1.length)
    (h1 : (if ob + rm < oa then ob + rm else oa) = oa1) : BF (edge l) s (Cov l s R (j + 1)) (fO ((o1.set pa oa1).set pb (if oa1 + rm < ob then oa1 + rm else ob))) := by
  have hpp : pa ≠ pb := by
    have := ((fits_iff n _).1 ((okAt_iff n l j).1 (okTo_at n l hv hj)).1).2.1
    omega
  refine bf_step hv hj h (f1 := fO (o1.set pa oa1)) (fun t => ?_) (fun t => ?_)
  · rw [fO_set o1 hla, ha, hb, hm, fO_nat o1 hla, fO_nat o1 hlb, hoa, hob, ← h1]
    by_cases e : t = (pa : Int)
    · rw [if_pos e, if_pos e]; split <;> omega
    · rw [if_neg e, if_neg e]
  · rw [fO_set _ (by simpa using hlb), ha, hb, hm, fO_nat _ (by simpa using hlb), fO_nat _ (by simpa using hla)]
    have g1 : (o1.set pa oa1).getD pa 0 = oa1 := by simp [List.getD, hla]
    have g2 : (o1.set pa oa1).getD pb 0 = ob := by rw [← hob]; simp [List.getD, hpp]
    rw [g1, g2]
    by_cases e : t = (pb : Int)
    · rw [if_pos e, if_pos e]; split <;> omega
    · rw [if_neg e, if_neg e]

theorem cut_mk {w wr : World} {g k pa pb : Nat} {rm oa ob v : Int} {o1 : List Int} (hv : (if ob + rm < oa then ob + rm else oa) = v) (hint : IntAt wr g 0 o1) (hroom : Room wr g k) (hlen : o1.length = k) (hbel : Below w.heap.size w wr) (hgb : w.heap.size ≤ g) (hg : g < wr.heap.size)
    (da : wr.cell? ⟨g, pa, none⟩ = some (.int .i64 oa)) (db : wr.cell? ⟨g, pb, none⟩ = some (.int .i64 ob)) (fb : wr.frozen? ⟨g, pb, none⟩ = false) (hab : pa < pb) (hbk : pb < k) :
    CutOut w g k pa pb rm (if ob + rm < oa then ob + rm else oa) ob o1 (.pointer (some ⟨wr.heap.size, 0, none⟩)) (((wr.setCell ⟨g, pa, none⟩ (.int .i64 v)).alloc (.cells #[.int .i64 pa, .int .i64 pb, .int .i64 rm] 49)).drew) := by
  rw [hv]
  have hs : wr.heap.size = (wr.setCell ⟨g, pa, none⟩ (.int .i64 v)).heap.size := by simp
  have i1 := int_set hint hroom (p := pa) (by omega) v (by omega)
  have r1 := hroom.setCell ⟨g, pa, none⟩ (.int .i64 v)
  have b1 := hbel.setCell (p := ⟨g, pa, none⟩) hgb (.int .i64 v)
  have y0 : (wr.setCell ⟨g, pa, none⟩ (.int .i64 v)).cell? ⟨g, pa, none⟩ = some (.int .i64 v) := World.cell?_setCell_same _ _ _ da
  have y1 : (wr.setCell ⟨g, pa, none⟩ (.int .i64 v)).cell? ⟨g, pb, none⟩ = some (.int .i64 ob) := by
    rw [World.cell?_setCell_other _ _ _ _ (by intro e'; injection e'; omega)]; exact db
  have y2 : (wr.setCell ⟨g, pa, none⟩ (.int .i64 v)).frozen? ⟨g, pb, none⟩ = false := by rw [World.frozen?_setCell]; exact fb
  rw [hs] at hg ⊢
  generalize wr.setCell ⟨g, pa, none⟩ (.int .i64 v) = wz at *
  have bz : Below wz.heap.size wz ((wz.alloc (.cells #[.int .i64 pa, .int .i64 pb, .int .i64 rm] 49)).drew) := ((Below.refl _ _).alloc (Nat.le_refl _) _).drew
  refine ⟨_, rfl, by simp, by simp, by simp, i1.below bz hg, r1.below bz hg, b1.trans (bz.mono b1.size), by simp; omega, keepCell bz y0, keepCell bz y1, ?_, by omega⟩
  rw [bz.frozen (p := ⟨g, pb, none⟩) hg]; exact y2

set_option maxRecDepth 100000 in
set_option maxHeartbeats 600000 in
theorem l1Far_any (n : Int) (v : Value) (l : List Rd) (s : Int) (w : World) (hv : RoadsIn w v l) (hz : validR n l = true) (hs0 : 0 ≤ s) (hs1 : s < n) :
    Calls Try.prog 62 #[.int .i64 n, v, .int .i64 s] w (FarOut n l s w) := by
  obtain ⟨hn1, hn8, h16, hok⟩ := valid_bounds hz
  obtain ⟨i0, hi, hz0, hz1, hz2⟩ := info_parts Try.info3
  have Hv := Lib.hid hv; clear hv
  have Hz := Lib.hid hz; clear hz
  have Hok := Lib.hid hok; clear hok
  go_enter Try.func62, Try.ntmps62
  go_wp2
  go_loopw [7, 8] (fun u i wr => FillRel n w u i wr) (fun _ i _ => (n - intOf i).toNat)
  case atStart =>
    refine ⟨0, by omega, rfl, ?_, (Below.refl _ _).alloc (Nat.le_refl _) _⟩
    exact World.ownsRow_made w _ 0 (Nat.le_refl _) (by unfold maxLen; omega) rfl
  case round =>
    obtain ⟨k, hk, rfl, hown, hbel⟩ := hrel
    by_cases hlt : (k : Int) < n
    · have hk8 : k < 8 := by omega
      go_wp2_with (at_builtin; refine wpList_append_own _ rfl _ _ 26 rfl w.heap.size 3 i0 (.int .i64 0) 1 8 Try.underlying26 hi hz0 hz1 hz2 rfl (by decide) _ _ _ rfl (hown.alloc _) ⟨wr.heap.size, 0, none⟩ 1 1 [.int .i64 100000] rfl rfl (cell_one_new _ _ _) (by simp [Value.oneCell']) (by unfold maxLen; omega) (by omega) (by have := hbel.size; simp; omega) ?_; intro v' w1 hown' hgrow _)
      have hb1 : Below w.heap.size w w1 := (hbel.alloc hbel.size _).grown hgrow (by have := hbel.size; simp; omega) (fun j hj => (hown.lt j hj).1)
      have hown2 : w1.ownsRow w.heap.size 3 1 v' (k + 1) (List.replicate (k + 1) (.int .i64 100000)) := by rw [List.replicate_succ']; exact hown'
      go_roundw
      case rel => exact ⟨k + 1, by omega, by go_num, hown2, hb1⟩
      case measure => simp [intOf]; omega
    · obtain rfl : n = k := by omega
      have hrep : (List.replicate k (.int .i64 100000) : List Value) = (List.replicate k (100000 : Int)).map (.int .i64) := by simp
      rw [hrep] at hown
      obtain ⟨g, cap, rfl, hgb, hgl, hkc, hia, hroom⟩ := own_ints hown (by simp) (by omega)
      obtain ⟨p, rfl⟩ : ∃ p : Nat, s = p := ⟨s.toNat, by omega⟩
      have hpk : p < k := by omega
      have hcellp := hroom.1 p hpk
      obtain ⟨u0, hu0⟩ := hcellp
      have hfz := hroom.2 p
      have hia0 : IntAt (wr.setCell ⟨g, p, none⟩ (.int .i64 0)) g 0 ((List.replicate k (100000 : Int)).set p 0) := int_set hia hroom (by simp; exact hpk) 0
      have Hia0 := Lib.hid hia0; clear hia0 hia hrep
      have hroom0 := hroom.setCell ⟨g, p, none⟩ (.int .i64 0)
      have Hroom0 := Lib.hid hroom0; clear hroom0 hroom
      have hb0 : Below w.heap.size w (wr.setCell ⟨g, p, none⟩ (.int .i64 0)) := hbel.setCell hgb _
      have Hb0 := Lib.hid hb0; clear hb0 hown
      go_wp2
      go_loopw [9] (fun i wq => BfRel l (p : Int) w g k i wq) (fun i _ => k - (intOf i).toNat)
      case atStart =>
        refine ⟨0, (List.replicate k (100000 : Int)).set p 0, Nat.zero_le _, rfl, by simp, Hia0.out, Hroom0.out, BF.start ?_ (fun t ht => ?_), Hb0.out, by simpa using hgl⟩
        · rw [fO_set _ (by simp; exact hpk), if_pos rfl]
        · rw [fO_set _ (by simp; exact hpk), if_neg ht]
          unfold fO
          split
          · rename_i h
            simp only [List.length_replicate] at h
            simp [List.getD, show t.toNat < k by omega]
          · rfl
      case round =>
        clear hu0 hfz
        obtain ⟨R, o, hR, rfl, holen, hint, hroom, hbf, hbelq, hgq⟩ := hrel
        by_cases hRk : R < k
        · have Holen := Lib.hid holen
          have Hbf := Lib.hid (bf_begin hbf); clear hbf
          have Hint := Lib.hid hint; clear hint
          have Hroom := Lib.hid hroom; clear hroom
          have hRn : (R : Int) < (k : Int) := by omega
          clear holen
          obtain ⟨wo, rfl⟩ : ∃ wo : World, wo = wr := ⟨_, rfl⟩
          go_wp2
          go_loopw [10] (fun i wq => BfRel2 l (p : Int) w g k R i wq) (fun i _ => l.length - (intOf i).toNat)
          case atStart => exact ⟨0, o, Nat.zero_le _, rfl, Holen.out, Hint.out, Hroom.out, Hbf.out, hbelq, hgq⟩
          case round =>
            obtain ⟨j, o1, hj, rfl, holen1, hint1, hroom1, hbf1, hbel1, hg1⟩ := hrel
            by_cases hjl : j < l.length
            · have hrow := Hv.out.below hbel1
              obtain ⟨ar, capr, rfl, har⟩ := hrow
              obtain ⟨br, orr, rfl, hbr, hrr⟩ := har (by intro h; simp [h] at hjl)
              obtain ⟨c0, c1, c2⟩ := hrr j hjl
              have Hrr := Lib.hid hrr; clear hrr
              have Har := Lib.hid har; clear har
              have hff := (fits_iff _ _).1 ((okAt_iff _ l j).1 (okTo_at _ l Hok.out hjl)).1
              obtain ⟨f1, f2, f3, f4, f5⟩ := hff
              obtain ⟨pa, hpa⟩ : ∃ q : Nat, (l.getD j rd0).a = q := ⟨(l.getD j rd0).a.toNat, by omega⟩
              obtain ⟨pb, hpb⟩ : ∃ q : Nat, (l.getD j rd0).b = q := ⟨(l.getD j rd0).b.toNat, by omega⟩
              have hab : pa < pb := by omega
              have hbk : pb < k := by omega
              rw [hpa] at c0
              rw [hpb] at c1
              have Hpa := Lib.hid hpa; clear hpa
              have Hpb := Lib.hid hpb; clear hpb
              have da := hint1 pa (by omega)
              have db := hint1 pb (by omega)
              rw [Nat.zero_add] at da db
              have fa := hroom1.2 pa
              have fb := hroom1.2 pb
              have Hint1 := Lib.hid hint1; clear hint1
              have Hroom1 := Lib.hid hroom1; clear hroom1
              have Holen1 := Lib.hid holen1; clear holen1
              have Hbf1 := Lib.hid hbf1; clear hbf1
              generalize hgm : (l.getD j rd0).m = rm at *
              have Hgm := Lib.hid hgm; clear hgm
              generalize hoa : o1.getD pa 0 = oa at *
              generalize hob : o1.getD pb 0 = ob at *
              have Hoa := Lib.hid hoa; clear hoa
              have Hob := Lib.hid hob; clear hob
              have hoab : 0 ≤ oa ∧ oa ≤ 100000 := by have h := bf_range Hz.out Hbf1.out (pa : Int); rwa [fO_nat o1 (by have := Holen1.out; omega), Hoa.out] at h
              have hobb : 0 ≤ ob ∧ ob ≤ 100000 := by have h := bf_range Hz.out Hbf1.out (pb : Int); rwa [fO_nat o1 (by have := Holen1.out; omega), Hob.out] at h
              have nab : pa ≠ pb := by omega
              have pa0 : (0 : Int) ≤ (pa : Int) := by omega
              have pb0 : (0 : Int) ≤ (pb : Int) := by omega
              have pak : (pa : Int) < (k : Int) := by omega
              have pbk : (pb : Int) < (k : Int) := by omega
              go_upto_region 14 with (fail)
              go_cut [11] (fun s11 wx => CutOut w g k pa pb rm (if ob + rm < oa then ob + rm else oa) ob o1 s11 wx)
              case first =>
                go_region
                go_wp2_with fail
                · have hif : (if ob + rm < oa then ob + rm else oa) = ob + rm := if_pos (by assumption)
                  go_meet
                  exact cut_mk hif Hint1.out Hroom1.out Holen1.out hbel1 hgb hg1 da db fb hab hbk
                · have hif : (if ob + rm < oa then ob + rm else oa) = oa := if_neg (by omega)
                  go_meet
                  exact cut_mk hif Hint1.out Hroom1.out Holen1.out hbel1 hgb hg1 da db fb hab hbk
              case rest =>
                obtain ⟨X, rfl, x0, x1, x2, hi2, hr2, hb2, hg2, y0, y1, y2, hgX⟩ := hcut
                have Hi2 := Lib.hid hi2; clear hi2
                have Hr2 := Lib.hid hr2; clear hr2
                generalize hoa1 : (if ob + rm < oa then ob + rm else oa) = oa1 at y0 Hi2
                have hoa1b : 0 ≤ oa1 ∧ oa1 ≤ 100000 := by rw [← hoa1]; split <;> omega
                have Hoa1 := Lib.hid hoa1; clear hoa1
                obtain ⟨t0, t1⟩ := hoa1b
                clear da db fa fb c0 c1 c2
                go_wp2
                go_region
                go_wp2
                refine ⟨⟨j + 1, (o1.set pa oa1).set pb (if oa1 + rm < ob then oa1 + rm else ob), hjl, by go_num, by simp; exact Holen1.out, ?_, ?_, ?_, ?_, ?_⟩, by simp [intOf]; omega⟩
                · have h := int_set Hi2.out Hr2.out (p := pb) (by simp; have := Holen1.out; omega) (if oa1 + rm < ob then oa1 + rm else ob) (by simp; have := Holen1.out; omega)
                  exact fun i hi => h i hi
                · exact (Hr2.out.setCell ⟨g, pb, none⟩ (.int .i64 (if oa1 + rm < ob then oa1 + rm else ob))).below ((Below.refl (g + 1) _).drew) (by omega)
                · exact far_step Hok.out hjl Hbf1.out Hpa.out Hpb.out Hgm.out Hoa.out Hob.out (by have := Holen1.out; omega) (by have := Holen1.out; omega) Hoa1.out
                · exact (hb2.setCell (p := ⟨g, pb, none⟩) hgb _).drew
                · simpa using hg2
            · obtain rfl : j = l.length := by omega
              have hbr := bf_round hbf1
              have Hbr := Lib.hid hbr; clear hbr hbf1
              have Hint1 := Lib.hid hint1; clear hint1
              have Hroom1 := Lib.hid hroom1; clear hroom1
              have Holen1 := Lib.hid holen1; clear holen1
              obtain ⟨ar, capr, rfl, har⟩ := Hv.out
              have Har := Lib.hid har; clear har
              go_wp2
              exact ⟨⟨R + 1, o1, hRk, by go_num, Holen1.out, Hint1.out, Hroom1.out, Hbr.out, hbel1, hg1⟩, by simp [intOf]; omega⟩
        · obtain rfl : R = k := by omega
          have Hbf := Lib.hid hbf; clear hbf
          have Hint := Lib.hid hint; clear hint
          have Holen := Lib.hid holen; clear holen hroom
          go_wp2
          go_ret
          have he := fun x y m (h : edge l x y = some m) => edge_miles Hz.out h
          have hd := fun t => Hbf.out.done (n := R) (by omega) (fun x y m h => (he x y m h).2.2.2.2.1) (fun x y m h => (he x y m h).2.2.2.2.2.1) (fun x y m h => by have := he x y m h; omega) t
          refine ⟨g, cap, o, by rw [Holen.out]; rfl, by rw [Holen.out], by rw [Holen.out]; exact hkc, hgb, hgq, Hint.out, fun t _ _ => (hd t).1, hbelq⟩

end Go.Proofs.Ytlkhgnglblgldaa
