/- The model's l1Far. -/
import Derived.Test.YtfdaaeapfeajjaaW5
import Derived.Test.YtfdaaeapfeajjaaI
import Derived.Test.YtfdaaeapfeajjaaK
import Derived.BigRegion
import Derived.OwnWalk
import Derived.Deep.DeepCutAuto
namespace Go.Proofs.Ytfdaaeapfeajjaa
open Go.RowKit

def FarOut (n : Int) (l : List Rd) (s : Int) (w : World) (e : Ending) (w' : World) : Prop :=
  ∃ (b cap : Nat) (o : List Int), e = .returned (.slice (some ⟨b, 0, none⟩) o.length cap) ∧ (o.length : Int) = n ∧ o.length ≤ cap ∧ w.heap.size ≤ b ∧ b < w'.heap.size ∧ IntAt w' b 0 o ∧ (∀ t, 0 ≤ t → t < n → fO o t = (distO (edge l) s t).getD 100000) ∧ Below w.heap.size w w'

def FillRel (n : Int) (w : World) (v i : Value) (wr : World) : Prop :=
  ∃ k : Nat, (k : Int) ≤ n ∧ i = .int .i64 k ∧ wr.ownsRow w.heap.size 3 1 v k (List.replicate k (.int .i64 100000)) ∧ Below w.heap.size w wr

theorem own_ints {w : World} {B k : Nat} {v : Value} {xs : List Int} (h : w.ownsRow B 3 1 v k (xs.map (.int .i64))) (hx : xs.length = k) (hk : 0 < k) :
    ∃ g cap, v = .slice (some ⟨g, 0, none⟩) k cap ∧ B ≤ g ∧ g < w.heap.size ∧ k ≤ cap ∧ IntAt w g 0 xs ∧ Room w g k := by
  obtain ⟨_, h2⟩ := h
  rcases h2 with ⟨_, h0⟩ | ⟨g, cap, cur, rfl, hg, hh, hn, hcap, hsz, htake⟩
  · omega
  · have hcell : ∀ i, i < k → ∃ u, cur[i]? = some u := fun i hi => ⟨_, Array.getElem?_eq_getElem (by omega)⟩
    refine ⟨g, cap, rfl, hg, (Array.getElem?_eq_some_iff.1 hh).1, hn, fun i hi => ?_, fun j hj => ?_, fun o => by simp [World.frozen?, hh]⟩
    · rw [cell_of_row w g _ cur _ (0, 0) hh, Nat.zero_add]
      have e : (cur.toList.take (k * 1))[i]? = (xs.map (Value.int .i64))[i]? := by rw [htake]
      rw [List.getElem?_take, if_pos (by omega)] at e
      have e2 : cur[i]? = (xs.map (Value.int .i64))[i]? := by simpa using e
      rw [e2]; simp [List.getD, hi]
    · obtain ⟨u, hu⟩ := hcell j hj
      exact ⟨u, by rw [cell_of_row w g _ cur _ (0, 0) hh]; exact hu⟩

theorem int_set {w : World} {g k : Nat} {xs : List Int} (h : IntAt w g 0 xs) (hr : Room w g k) {p : Nat} (hp : p < xs.length) (x : Int) (hk : xs.length ≤ k := by simp) : IntAt (w.setCell ⟨g, p, none⟩ (.int .i64 x)) g 0 (xs.set p x) := by
  intro i hi
  simp only [List.length_set] at hi
  rw [Nat.zero_add]
  by_cases e : i = p
  · subst e
    obtain ⟨u, hu⟩ := hr.1 i (by omega)
    rw [World.cell?_setCell_same _ _ _ hu]
    simp [List.getD, hi]
  · rw [World.cell?_setCell_other _ _ _ _ (by intro e'; injection e'; omega)]
    have := h i hi
    rw [Nat.zero_add] at this
    rw [this]
    simp [List.getD, show ¬ p = i from fun h => e h.symm]

def BfRel (l : List Rd) (s : Int) (w : World) (g k : Nat) (i : Value) (wq : World) : Prop :=
  ∃ (R : Nat) (o : List Int), R ≤ k ∧ i = .int .i64 R ∧ o.length = k ∧ IntAt wq g 0 o ∧ Room wq g k ∧ BF (edge l) s (WayN (edge l) R s) (fO o) ∧ Below w.heap.size w wq ∧ g < wq.heap.size

def BfRel2 (l : List Rd) (s : Int) (w : World) (g k R : Nat) (i : Value) (wq : World) : Prop :=
  ∃ (j : Nat) (o : List Int), j ≤ l.length ∧ i = .int .i64 j ∧ o.length = k ∧ IntAt wq g 0 o ∧ Room wq g k ∧ BF (edge l) s (Cov l s R j) (fO o) ∧ Below w.heap.size w wq ∧ g < wq.heap.size

/-- Behind the first half of a road's step. -/
def CutOut (w : World) (g k pa pb : Nat) (rm oa1 ob : Int) (o1 : List Int) (s11 : Value) (wx : World) : Prop :=
  ∃ X : Nat, s11 = .pointer (some ⟨X, 0, none⟩) ∧ wx.cell? ⟨X, 0, none⟩ = some (.int .i64 pa) ∧ wx.cell? ⟨X, 1, none⟩ = some (.int .i64 pb) ∧ wx.cell? ⟨X, 2, none⟩ = some (.int .i64 rm) ∧ IntAt wx g 0 (o1.set pa oa1) ∧ Room wx g k ∧ Below w.heap.size w wx ∧ g < wx.heap.size ∧
    wx.cell? ⟨g, pa, none⟩ = some (.int .i64 oa1) ∧ wx.cell? ⟨g, pb, none⟩ = some (.int .i64 ob) ∧ wx.frozen? ⟨g, pb, none⟩ = false ∧ g ≠ X

theorem bf_range {n : Int} {l : List Rd} (hz : validR n l = true) {s : Int} {C : Int → Int → Prop} {f : Int → Int} (h : BF (edge l) s C f) (t : Int) : 0 ≤ f t ∧ f t ≤ 100000 := by
  refine ⟨?_, h.le t⟩
  rcases h.way t with h1 | h1
  · omega
  · exact h1.nonneg (fun x y m he => (edge_miles hz he).2.2.2.2.1)

theorem far_step {n : Int} {l : List Rd} {s : Int} {R j pa pb : Nat} {o1 : List Int} {rm oa ob oa1 : Int} (hv : okTo n l l.length = true) (hj : j < l.length) (h : BF (edge l) s (Cov l s R j) (fO o1))
    (ha : (l.getD j rd0).a = (pa : Int)) (hb : (l.getD j rd0).b = (pb : Int)) (hm : (l.getD j rd0).m = rm) (hoa : o1.getD pa 0 = oa) (hob : o1.getD pb 0 = ob) (hla : pa < o1.length) (hlb : pb < o1.length)
    (h1 : (if ob + rm < oa then ob + rm else oa) = oa1) : BF (edge l) s (Cov l s R (j + 1)) (fO ((o1.set pa oa1).set pb (if oa1 + rm < ob then oa1 + rm else ob))) := by
  have hpp : pa ≠ pb := by
    have := ((fits_iff n _).1 ((okAt_iff n l j).1 (okTo_at n l hv hj)).1).2.1
    omega
  refine bf_step hv hj h (f1 := fO (o1.set pa oa1)) (fun t => ?_) (fun t => ?_)
  · rw [fO_set o1 hla, ha, hb, hm, fO_nat o1 hla, fO_nat o1 hlb, hoa, hob, ← h1]
    by_cases e : t = (pa : Int)
    · rw [if_pos e, if_pos e]; split <;> omega
    · rw [if_neg e, if_neg e]
  · rw [fO_set _ (by simpa using hlb), ha, hb, hm, fO_nat _ (by simpa using hlb), fO_nat _ (by simpa using hla)]
    have g1 : (o1.set pa oa1).getD pa 0 = oa1 := by simp [List.getD, hla]
    have g2 : (o1.set pa oa1).getD pb 0 = ob := by rw [← hob]; simp [List.getD, hpp]
    rw [g1, g2]
    by_cases e : t = (pb : Int)
    · rw [if_pos e, if_pos e]; split <;> omega
    · rw [if_neg e, if_neg e]

theorem cut_mk {w wr : World} {g k pa pb : Nat} {rm oa ob v : Int} {o1 : List Int} (hv : (if ob + rm < oa then ob + rm else oa) = v) (hint : IntAt wr g 0 o1) (hroom : Room wr g k) (hlen : o1.length = k) (hbel : Below w.heap.size w wr) (hgb : w.heap.size ≤ g) (hg : g < wr.heap.size)
    (da : wr.cell? ⟨g, pa, none⟩ = some (.int .i64 oa)) (db : wr.cell? ⟨g, pb, none⟩ = some (.int .i64 ob)) (fb : wr.frozen? ⟨g, pb, none⟩ = false) (hab : pa < pb) (hbk : pb < k) :
    CutOut w g k pa pb rm (if ob + rm < oa then ob + rm else oa) ob o1 (.pointer (some ⟨wr.heap.size, 0, none⟩)) (((wr.setCell ⟨g, pa, none⟩ (.int .i64 v)).alloc (.cells #[.int .i64 pa, .int .i64 pb, .int .i64 rm] 50)).drew) := by
  rw [hv]
  have hs : wr.heap.size = (wr.setCell ⟨g, pa, none⟩ (.int .i64 v)).heap.size := by simp
  have i1 := int_set hint hroom (p := pa) (by omega) v (by omega)
  have r1 := hroom.setCell ⟨g, pa, none⟩ (.int .i64 v)
  have b1 := hbel.setCell (p := ⟨g, pa, none⟩) hgb (.int .i64 v)
  have y0 : (wr.setCell ⟨g, pa, none⟩ (.int .i64 v)).cell? ⟨g, pa, none⟩ = some (.int .i64 v) := World.cell?_setCell_same _ _ _ da
  have y1 : (wr.setCell ⟨g, pa, none⟩ (.int .i64 v)).cell? ⟨g, pb, none⟩ = some (.int .i64 ob) := by
    rw [World.cell?_setCell_other _ _ _ _ (by intro e'; injection e'; omega)]; exact db
  have y2 : (wr.setCell ⟨g, pa, none⟩ (.int .i64 v)).frozen? ⟨g, pb, none⟩ = false := by rw [World.frozen?_setCell]; exact fb
  rw [hs] at hg ⊢
  generalize wr.setCell ⟨g, pa, none⟩ (.int .i64 v) = wz at *
  have bz : Below wz.heap.size wz ((wz.alloc (.cells #[.int .i64 pa, .int .i64 pb, .int .i64 rm] 50)).drew) := ((Below.refl _ _).alloc (Nat.le_refl _) _).drew
  refine ⟨_, rfl, by simp, by simp, by simp, i1.below bz hg, r1.below bz hg, b1.trans (bz.mono b1.size), by simp; omega, keepCell bz y0, keepCell bz y1, ?_, by omega⟩
  rw [bz.frozen (p := ⟨g, pb, none⟩) hg]; exact y2

end Go.Proofs.Ytfdaaeapfeajjaa
