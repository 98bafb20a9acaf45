/- slices.Sort on a slice of the call's own; the towns next to a town. -/
import Derived.Test.YtlkhgnglblgldaaWC
import Derived.Test.YtlkhgnglblgldaaR
import Derived.Test.YtlkhgnglblgldaaI
import Derived.Test.YtlkhgnglblgldaaS
import Derived.Sort.OwnSortedInts
import Derived.BigRegion
import Derived.OwnWalk
namespace Go.Proofs.Ytlkhgnglblgldaa
open Go.RowKit Go.Maps Go.Sort

/-- The library's order. -/
def leI : Int → Int → Bool := fun x y => decide (x ≤ y)

theorem sort_own {w : World} {B cap g : Nat} {zs : List Int} (h : w.ownsRow B 3 1 (.slice (some ⟨g, 0, none⟩) zs.length cap) zs.length (zs.map (Value.int .i64))) (hl : zs.length < 1000000) :
    Calls Try.prog 47 #[.slice (some ⟨g, 0, none⟩) zs.length cap] w fun e w' => e = .returned (.tuple #[]) ∧ w'.ownsRow B 3 1 (.slice (some ⟨g, 0, none⟩) zs.length cap) zs.length ((zs.mergeSort leI).map (Value.int .i64)) ∧ w.grownBy w' (some g) := by
  obtain ⟨_, h2⟩ := h
  rcases h2 with ⟨h0, _⟩ | ⟨g', cap', cur, he, hg, hh, hn, hcap, hsz, htake⟩
  · cases h0
  · cases he
    have hH := holds_of_blockI hh (ss := zs) (by simpa using htake)
    refine (Try.slices_Sort_int g 0 cap zs w hH (Array.getElem?_eq_some_iff.1 hh).1 (by omega)).mono ?_
    rintro e w' ⟨rfl, n, os, rfl⟩
    refine ⟨rfl, ?_, grownBy_sortedI _⟩
    exact ownsRow_sortedI (ss := zs) (ts := zs.mergeSort leI) (by simp) hg hh hn hcap hsz

def NearOut (n : Int) (g : Int → Int → Option Int) (f : Int → Option Int) (t : Int) (w : World) (e : Ending) (w' : World) : Prop :=
  ∃ b cap, e = .returned (.slice (some ⟨b, 0, none⟩) (nearL n g f t).length cap) ∧ w'.ownsRow w.heap.size 3 1 (.slice (some ⟨b, 0, none⟩) (nearL n g f t).length cap) (nearL n g f t).length ((nearL n g f t).map (Value.int .i64)) ∧ Below w.heap.size w w'

def NearRel (g : Int → Int → Option Int) (f : Int → Option Int) (t : Int) (b cnt : Nat) (D : DataW Unit) (w : World) (gi : Nat) (v : Value) (wq : World) : Prop :=
  ∃ (left : Lit → Bool) (xs : List Int) (g0 cap : Nat), v = .slice (some ⟨g0, 0, none⟩) xs.length cap ∧ wq.ranges Try.prog 3 intElem b (w.heap.size + 1) cnt D left gi ∧ wq.ownsRow w.heap.size 3 1 v xs.length (xs.map (Value.int .i64)) ∧
    xs.Nodup ∧ (∀ x, x ∈ xs ↔ (nearP g f t x = true ∧ left (.int .i64 x) = false)) ∧ xs.length + gi ≤ Maps.size D ∧ Below w.heap.size w wq

theorem near_start {g : Int → Int → Option Int} {f : Int → Option Int} {t : Int} {D : DataW Unit} (hD : ∀ x, W64 x → Maps.has D (.int .i64 x) = ((g t x).map dI).isSome) (hw : ∀ u m, g t u = some m → W64 u) :
    ∀ x, x ∈ ([] : List Int) ↔ (nearP g f t x = true ∧ Maps.has D (.int .i64 x) = false) := fun x => by
  constructor
  · intro h; cases h
  · rintro ⟨h1, h2⟩
    obtain ⟨m, hm, _⟩ := nearP_iff.1 h1
    rw [hD x (hw x m hm), hm] at h2; simp at h2

theorem near_yes {g : Int → Int → Option Int} {f : Int → Option Int} {t : Int} {xs : List Int} {left : Lit → Bool} {y : Int} (h : ∀ x, x ∈ xs ↔ (nearP g f t x = true ∧ left (.int .i64 x) = false)) (hy : nearP g f t y = true) :
    ∀ x, x ∈ xs ++ [y] ↔ (nearP g f t x = true ∧ (left (.int .i64 x) && !(Lit.int .i64 x).sameKey (.int .i64 y)) = false) := fun x => by
  rw [List.mem_append, List.mem_singleton, h, sameKeyI]
  by_cases e : x = y
  · subst e; simp [hy]
  · simp [e]

theorem near_no {g : Int → Int → Option Int} {f : Int → Option Int} {t : Int} {xs : List Int} {left : Lit → Bool} {y : Int} (h : ∀ x, x ∈ xs ↔ (nearP g f t x = true ∧ left (.int .i64 x) = false)) (hy : nearP g f t y = false) :
    ∀ x, x ∈ xs ↔ (nearP g f t x = true ∧ (left (.int .i64 x) && !(Lit.int .i64 x).sameKey (.int .i64 y)) = false) := fun x => by
  rw [h, sameKeyI]
  by_cases e : x = y
  · subst e; simp [hy]
  · simp [e]

theorem near_done {n : Int} {g : Int → Int → Option Int} {f : Int → Option Int} {t : Int} {xs : List Int} {left : Lit → Bool} (he : EdgesOk n g) (h : ∀ x, x ∈ xs ↔ (nearP g f t x = true ∧ left (.int .i64 x) = false)) (hl : ∀ kl, left kl = false) (hd : xs.Nodup) :
    xs.mergeSort leI = nearL n g f t := by
  refine sort_near hd fun x => ?_
  rw [h]
  constructor
  · rintro ⟨h1, _⟩
    obtain ⟨m, hm, _⟩ := nearP_iff.1 h1
    have := he.bd _ _ _ hm
    exact ⟨⟨this.2.2.1, this.2.2.2.1⟩, h1⟩
  · rintro ⟨_, h1⟩; exact ⟨h1, hl _⟩

theorem nodup_snoc {xs : List Int} {y : Int} (h : xs.Nodup) (hy : y ∉ xs) : (xs ++ [y]).Nodup := by
  rw [List.nodup_append]
  exact ⟨h, by simp, fun a ha b hb e => by rw [List.mem_singleton] at hb; subst hb; subst e; exact hy ha⟩

theorem own_shape {w : World} {B k : Nat} {v : Value} {xs : List Value} (h : w.ownsRow B 3 1 v (k + 1) xs) : ∃ g cap, v = .slice (some ⟨g, 0, none⟩) (k + 1) cap := by
  obtain ⟨_, h2⟩ := h
  rcases h2 with ⟨_, h0⟩ | ⟨g, cap, cur, rfl, _⟩
  · omega
  · exact ⟨g, cap, rfl⟩

set_option maxRecDepth 100000 in
set_option maxHeartbeats 600000 in
theorem nearer_any (n : Int) (g : Int → Int → Option Int) (f : Int → Option Int) (t : Int) (nb : Nat) (bs : Int → Nat) (cnt F c : Nat) (w : World) (h : NetAt w nb n bs cnt g) (he : EdgesOk n g) (ht0 : 0 ≤ t) (ht1 : t < n) (hc : cnt ≤ 32)
    (hF : MapIs w intElem F c (fun t => (f t).map dI)) (hf : ∀ x, 0 ≤ (f x).getD 0 ∧ (f x).getD 0 ≤ 1000) :
    Calls Try.prog 65 #[.map (some nb), .int .i64 t, .map (some F)] w (NearOut n g f t w) := by
  obtain ⟨i0, hi, hz0, hz1, hz2⟩ := info_parts Try.info3
  have hn8 := he.n8
  have wt : W64 t := by unfold W64; omega
  have hb1 : Below w.heap.size w (w.alloc (.cells #[] 3)) := (Below.refl _ w).alloc (Nat.le_refl _) _
  have hnet1 := h.below hb1
  have hF1 := hF.below hb1 hF.lt
  obtain ⟨D, hD2, hDf⟩ := hnet1.inner t ht0 ht1
  have HDf := Lib.hid hDf; clear hDf
  have He := Lib.hid he; clear he
  have Hf := Lib.hid hf; clear hf
  have hbst : bs t < w.heap.size := (h.inner t ht0 ht1).lt
  have hFlt := hF.lt
  have HF := Lib.hid hF; clear hF
  have Hnet := Lib.hid h; clear h
  go_enter Try.func65, Try.ntmps65
  go_wp2_with (first | (at_lookup; refine wp_lookNet _ rfl _ _ rfl rfl _ rfl hnet1 ht0 ht1 hn8 ?_) | (at_range; refine wpList_range_own _ rfl _ 89 rfl 3 3 keyInt Try.underlying89 intElem (bs t) cnt D rfl hD2 ?_; intro w3 hrg0 hg3 hs3))
  have hb3 : Below w.heap.size w w3 := hb1.grown hg3 hb1.size (fun j hj => by cases hj)
  have hown0 : (w.alloc (.cells #[] 3)).ownsRow w.heap.size 3 1 (.slice (some ⟨w.heap.size, 0, none⟩) 0 0) 0 [] := World.ownsRow_made w _ 0 (Nat.le_refl _) (by unfold maxLen; omega) rfl
  have hown3 := hown0.kept hg3 (.inr (by simp [Value.ownBlock]))
  have hsz0 : (w.alloc (.cells #[] 3)).heap.size = w.heap.size + 1 := by simp
  rw [hsz0] at hrg0
  have hstart := near_start (f := f) (fun u hu => (HDf.out u hu).1) (fun u m hum => by have := He.out.bd _ _ _ hum; have := He.out.n8; unfold W64; omega)
  have Hstart := Lib.hid hstart; clear hstart
  have hsz : Maps.size D ≤ 32 := Nat.le_trans hD2.size_le hc
  clear hown0 hnet1 hD2 hF1 hg3
  go_loopg [7] (Maps.size D) (fun gi v wq => NearRel g f t (bs t) cnt D w gi v wq)
  case atStart => exact ⟨_, [], w.heap.size, 0, rfl, hrg0, hown3, List.nodup_nil, Hstart.out, by simp, hb3⟩
  case round =>
    obtain ⟨left, xs, g0, cap, rfl, hrg, hown, hnd, hmem, hlen, hbel⟩ := hrel
    have Hmem := Lib.hid hmem; clear hmem
    have Hnd := Lib.hid hnd; clear hnd
    go_wp2_with (at_next; refine wpList_next_ranges_ii _ rfl _ rfl 3 3 .i64 .i64 keyInt Try.underlying3 Try.underlying3 (bs t) (w.heap.size + 1) cnt _ _ _ rfl hrg ?_ ?_)
    · intro hc0 hl0
      have hd := near_done He.out Hmem.out hl0 Hnd.out
      have Hd := Lib.hid hd; clear hd
      go_wp2_with fail
      refine (sort_own hown (by omega)).mono ?_
      rintro e w1 ⟨rfl, hown1, hgr1⟩
      have hb4 : Below w.heap.size w w1 := hbel.grown hgr1 hbel.size (fun j hj => by injection hj with hj; subst hj; exact (hown.lt _ rfl).1)
      have hln : xs.length = (nearL n g f t).length := by rw [← Hd.out]; simp
      rw [Hd.out, hln] at hown1
      go_wp2
      go_ret
      refine ⟨g0, cap, ?_, hown1, hb4⟩
      rfl
    · intro y d w4 cnt4 hwy hwc hly hat hrg4 hlt4 hg4 hs4 hen
      have wy := of_wf hwy
      have hgy : g t y = some d := entry_some (HDf.out y wy).2 hat
      have hbd := He.out.bd _ _ _ hgy
      have hnp := nearP_some (f := f) hgy
      have Hnp := Lib.hid hnp; clear hnp
      have hb4 : Below w.heap.size w w4 := hbel.grown hg4 hbel.size (fun j hj => by injection hj with hj; omega)
      have hF4 := HF.out.below hb4 hFlt
      have hown4 := hown.kept hg4 (.inr (fun e => row_ne_iter hown hrg e.symm))
      have hp := Hf.out y
      have hq := Hf.out t
      generalize hpe : (f y).getD 0 = p at *
      generalize hqe : (f t).getD 0 = q at *
      have Hpe := Lib.hid hpe; clear hpe
      have Hqe := Lib.hid hqe; clear hqe
      clear hat
      have hsD : Maps.size D ≤ 32 := hsz
      have hcw : ∀ (j : Nat) (u : Value), [Value.int .i64 y][j]? = some u → (w4.alloc (.cells #[.int .i64 y] 3)).cell? ((⟨wr.heap.size, 0, none⟩ : Addr).add j) = some u := by rw [← hs4]; exact cell_one_new _ _ _
      go_wp2_with (first | (at_builtin; refine wpList_append_own _ rfl _ _ 26 rfl w.heap.size 3 i0 (.int .i64 0) 1 8 Try.underlying26 hi hz0 hz1 hz2 rfl (by decide) _ _ _ rfl (hown4.alloc _) ⟨wr.heap.size, 0, none⟩ 1 1 [.int .i64 y] rfl rfl hcw (by simp [Value.oneCell']) (by unfold maxLen; omega) (by omega) (by have := hbel.size; simp; omega) ?_; intro v' w5 hown' hgrow _) | (at_lookup; refine wp_look _ rfl _ _ rfl F c f rfl hF4 y wy rfl ?_; rw [Hpe.out]) | (at_lookup; refine wp_look _ rfl _ _ rfl F c f rfl hF4 t wt rfl ?_; rw [Hqe.out]))
      · have hbe : (p + d == q) = true := by assumption
        have hpq : p + d = q := by simpa using hbe
        have hny : nearP g f t y = true := by rw [Hnp.out]; simp [hpq]
        have hyx : y ∉ xs := fun h => by rw [((Hmem.out y).1 h).2] at hly; cases hly
        have hg0 := (hown4.lt g0 rfl).1
        have hne := row_ne_iter hown hrg
        have hb5 : Below w.heap.size w w5 := (hb4.alloc hb4.size _).grown hgrow (by have := hb4.size; simp; omega) (fun j hj => (hown4.lt j hj).1)
        have ht5 : Touch (fun j => j = g0) w4 w5 := (Touch.of_below ((Below.refl _ _).alloc (Nat.le_refl _) _)).trans (Touch.grown (S := fun j => j = g0) hgrow rfl)
        have hrg5 := ranges_touch hrg4 ht5 (by omega) (fun e => hne (by rw [e]; rfl))
        obtain ⟨g1, cap1, rfl⟩ := own_shape hown'
        go_roundg cnt4
        case measure => exact hlt4
        case rel => exact ⟨_, xs ++ [y], g1, cap1, by simp, hrg5, by simpa using hown', nodup_snoc Hnd.out hyx, near_yes Hmem.out hny, by simp; omega, hb5⟩
      · have hbe : (p + d == q) = false := by assumption
        have hpq : ¬ p + d = q := by simpa using hbe
        have hny : nearP g f t y = false := by rw [Hnp.out]; simp [hpq]
        go_roundg cnt4
        case measure => exact hlt4
        case rel => exact ⟨_, xs, g0, cap, rfl, hrg4, hown4, Hnd.out, near_no Hmem.out hny, by omega, hb4⟩

end Go.Proofs.Ytlkhgnglblgldaa
