/- RosterMinutes, model and program. -/
import Derived.Test.YtmcapcclnkicbaaUS
import Derived.Test.YtmcapcclnkicbaaUT
import Derived.StillTailTactics
import Derived.Laws.OwnMore
namespace Go.Proofs.Ytmcapcclnkicbaa
open Go.RowKit

/-- The minutes of team t's runs of the first j. -/
def minTo (l : List Rn) (r : List Int) (t : Int) : Nat → Int
  | 0 => 0
  | j + 1 => minTo l r t j + if r.getD j 0 = t then (l.getD j rn0).b - (l.getD j rn0).a else 0

def minL (l : List Rn) (r : List Int) (k : Nat) : List Int := (List.range 12).map fun (t : Nat) => minTo l r (t : Int) k
def minutesL (l : List Rn) (rest : Int) (r : List Int) : List Int := if rosU l rest r = true then minL l r r.length else []

theorem minL_len (l : List Rn) (r : List Int) (k : Nat) : (minL l r k).length = 12 := by simp [minL]
theorem minL_at {l : List Rn} {r : List Int} {k t : Nat} (h : t < 12) : (minL l r k).getD t 0 = minTo l r (t : Int) k := by simp [minL, List.getD, h]
theorem minL_succ {l : List Rn} {r : List Int} {k n : Nat} (h : r.getD k 0 = (n : Int)) (hn : n < 12) : minL l r (k + 1) = (minL l r k).set n (minTo l r (n : Int) k + ((l.getD k rn0).b - (l.getD k rn0).a)) := by
  refine List.ext_getElem (by simp [minL_len]) fun t h1 h2 => ?_
  rw [minL_len] at h1
  rw [List.getElem_set]
  simp only [minL, List.getElem_map, List.getElem_range]
  show (minTo l r (t : Int) k + if r.getD k 0 = (t : Int) then (l.getD k rn0).b - (l.getD k rn0).a else 0) = _
  by_cases e : n = t
  · subst e; rw [if_pos h, if_pos rfl]
  · rw [if_neg (by rw [h]; omega), if_neg e]; omega

theorem minTo_bd {l : List Rn} {r : List Int} (hz : validU l = true) (t : Int) : ∀ (j : Nat), j ≤ l.length → 0 ≤ minTo l r t j ∧ minTo l r t j ≤ 10000 * (j : Int)
  | 0, _ => ⟨by show (0 : Int) ≤ 0; omega, by show (0 : Int) ≤ 10000 * ((0 : Nat) : Int); omega⟩
  | j + 1, hj => by
    have ih := minTo_bd (r := r) hz t j (by omega)
    have h3 := validU_at hz (show j < l.length by omega)
    unfold minTo
    split <;> omega

theorem min_start {w : World} {g t0 : Nat} {l : List Rn} {r : List Int} (h : Whole w g t0 (madeCells #[.int .i64 0] 12)) :
    IntAt w g 0 (minL l r 0) := by
  intro i hi
  rw [minL_len] at hi
  rw [minL_at hi, Nat.zero_add]
  show w.cell? ⟨g, i, none⟩ = some (.int .i64 0)
  refine h.cell ?_
  rw [← Array.getElem?_toList, toList_madeCells_one, List.getElem?_replicate, if_pos hi]

theorem IntsOk.no {w w' : World} {g : Nat} (hg : w.heap.size ≤ g) (hl : g < w'.heap.size) (hb : Below w.heap.size w w') : IntsOk [] false w (.returned (.tuple #[.slice (some ⟨g, 0, none⟩) 0 0, .bool false])) w' :=
  ⟨some ⟨g, 0, none⟩, 0, rfl, Nat.le_refl _, fun h => absurd rfl h, fun j hj => by obtain ⟨o, ho⟩ := hj; cases ho; exact ⟨hg, hl⟩, hb⟩

def MnRel (l : List Rn) (r : List Int) (w : World) (g : Nat) (kv : Value) (wr : World) : Prop :=
  ∃ k : Nat, k ≤ r.length ∧ kv = .int .i64 k ∧ IntAt wr g 0 (minL l r k) ∧ Room wr g 12 ∧ g < wr.heap.size ∧ Below w.heap.size w wr

set_option maxRecDepth 100000 in
set_option maxHeartbeats 1000000 in
theorem minutes2_any (v vr : Value) (l : List Rn) (r : List Int) (rest : Int) (w : World) (hv : RnIn w v l) (hr : IntsIn w vr r) (hl : l.length ≤ 1048576) (hlr : r.length ≤ 1048576) :
    Calls Try.prog 48 #[v, .int .i64 rest, vr] w (IntsOk (minutesL l rest r) (rosU l rest r) w) := by
  have Hok := Lib.hid (roster2_any v vr l r rest w hv hr hl hlr)
  obtain ⟨i0, hi0, hz0, hz1, hz2⟩ := info_parts Try.info3
  have hmk : ∀ W, (Instr.makeSlice 29 (.int .i64 12) (.int .i64 12)).run Try.prog W = .ok (.slice (some ⟨W.heap.size, 0, none⟩) 12 12) (W.alloc (.cells (madeCells #[.int .i64 0] (12 * i0.size)) 3)) := fun W =>
    run_make_rowN (P := Try.prog) 29 3 i0 _ Try.underlying29 hi0 hz0 .i64 .i64 12 12 (Nat.le_refl _) (by rw [hz2]; omega) (by omega) W
  rw [hz1] at hmk
  simp only [Nat.mul_one] at hmk
  cases hz : rosU l rest r with
  | true =>
    obtain ⟨hok, hle, hto⟩ := rosU_iff.1 hz
    obtain ⟨hzv, r0, r6⟩ := okR_parts.1 hok
    have h12 := (validU_iff.1 hzv).1
    obtain ⟨a, cap, rfl, hcap, ha⟩ := hv
    obtain ⟨ar, capr, rfl, hcapr, har⟩ := hr
    clear hcap hcapr
    have Har := Lib.hid har; clear har
    have Ha := Lib.hid ha; clear ha
    have Hle := Lib.hid hle; clear hle
    have Hto := Lib.hid hto; clear hto
    have Hzv := Lib.hid hzv; clear hzv hok
    have Hz := Lib.hid hz
    have Hml := Lib.hid (show minutesL l rest r = minL l r r.length from if_pos hz); clear hz
    go_enter Try.func48, Try.ntmps48
    go_wp2_with fail
    refine (Hok.out).mono ?_; rintro e w1 ⟨rfl, hw1⟩
    rw [Hz.out]
    have HW1 := Lib.hid hw1; clear hw1
    have HWH := Lib.hid (Whole.made w1 3 (madeCells #[.int .i64 0] 12))
    go_wp2
    go_loopw [20] (fun kv wr => MnRel l r w w1.heap.size kv wr) (fun kv _ => r.length - (intOf kv).toNat)
    case atStart => exact ⟨0, Nat.zero_le _, rfl, min_start HWH.out, by have h := HWH.out.room; rwa [size_madeCells] at h, by simp, HW1.out.alloc HW1.out.size _⟩
    case round =>
      obtain ⟨k, hk, rfl, hmn, hroom, hg, hbel⟩ := hrel
      by_cases hlt : k < r.length
      · have hk0 : (0 : Int) ≤ (k : Int) := Int.natCast_nonneg _
        have hk2 : (k : Int) < (r.length : Int) := by omega
        have hk4 : k < l.length := by rw [← Hle.out]; exact hlt
        have hk3 : (k : Int) < (l.length : Int) := by omega
        obtain ⟨br, or', rfl, hbr0, hri⟩ := Har.out (by rintro rfl; simp at hlt)
        obtain ⟨b, o, rfl, hb0, hrw⟩ := Ha.out (by rintro rfl; simp at hk4)
        have d0 := (hri.below hbel hbr0) k hlt
        obtain ⟨c0, c1⟩ := (hrw.below hbel hb0) k hk4
        have hT := okT_iff.1 (okTTo_at Hto.out hlt)
        obtain ⟨t0, t1, _⟩ := hT
        have Hms := Lib.hid (fun (n : Nat) => minL_succ (l := l) (r := r) (k := k) (n := n))
        have hat := validU_at Hzv.out hk4
        obtain ⟨h1, h2, h3, _⟩ := hat
        have Hbel := Lib.hid hbel
        generalize (l.getD k rn0).a = xa at *
        generalize (l.getD k rn0).b = xb at *
        generalize hy : r.getD k 0 = y at *
        have Hy := Lib.hid hy; clear hy hbel hri hrw
        obtain ⟨n, rfl⟩ : ∃ n : Nat, y = (n : Int) := ⟨y.toNat, by omega⟩
        have hn : n < 12 := by omega
        have e0 := hmn n (by rw [minL_len]; exact hn)
        rw [minL_at hn, Nat.zero_add] at e0
        have hbd := minTo_bd (r := r) Hzv.out (n : Int) k (by omega)
        have Hst := Lib.hid (show IntAt (wr.setCell ⟨w1.heap.size, n, none⟩ (.int .i64 (minTo l r (n : Int) k + (xb - xa)))) w1.heap.size 0 (minL l r (k + 1)) by
          rw [Hms.out n rfl hn]; exact IntAt.set hmn hroom (by rw [minL_len]; omega) (by rw [minL_len]; exact hn) _)
        have f0 := hroom.2 n
        have Hroom := Lib.hid hroom; clear hroom hmn
        have hne : b ≠ w1.heap.size := by have := HW1.out.size; omega
        generalize minTo l r (n : Int) k = fx at *
        have hw1 : IntKind.i64.wrap (xb - xa) = xb - xa := IntWalk.i64_in _ (by omega)
        have hw2 : IntKind.i64.wrap (fx + (xb - xa)) = fx + (xb - xa) := IntWalk.i64_in _ (by omega)
        go_wp2
        go_still_tail 17, (by kernel_rfl)
        go_wp2
        exact ⟨⟨k + 1, hlt, by go_num, Hst.out, Hroom.out.setCell _ _, by simpa using hg, (Hbel.out.setCell HW1.out.size _).drew⟩, by simp [intOf]; omega⟩
      · obtain rfl : k = r.length := by omega
        have hk9 : (l.length : Int) ≤ (r.length : Int) := by rw [Hle.out]; exact Int.le_refl _
        have Hi := Lib.hid hmn; clear hmn
        have Hr := Lib.hid hroom; clear hroom
        go_wp2
        go_ret2
        rw [Hml.out]
        refine ⟨some ⟨w1.heap.size, 0, none⟩, 12, by rw [minL_len]; rfl, by rw [minL_len]; exact Nat.le_refl _, fun _ => ⟨w1.heap.size, rfl, hg, Hi.out, by rw [minL_len]; exact Hr.out⟩, fun j hj => by obtain ⟨o, ho⟩ := hj; cases ho; exact ⟨HW1.out.size, hg⟩, hbel⟩
  | false =>
    clear hv hr
    have Hz := Lib.hid hz
    have Hml := Lib.hid (show minutesL l rest r = [] from if_neg (by rw [hz]; simp)); clear hz
    go_enter Try.func48, Try.ntmps48
    go_wp2_with fail
    refine (Hok.out).mono ?_; rintro e w1 ⟨rfl, hb⟩
    rw [Hz.out]
    go_wp2
    go_ret2
    rw [Hml.out]
    exact IntsOk.no hb.size (by simp) (hb.alloc hb.size _)

set_option maxRecDepth 100000 in
set_option maxHeartbeats 1000000 in
theorem minutes1_any (v vr : Value) (l : List Rn) (r : List Int) (rest : Int) (w : World) (hv : RnIn w v l) (hr : IntsIn w vr r) (hl : l.length ≤ 1048576) (hlr : r.length ≤ 1048576) :
    Calls Try.prog 47 #[v, .int .i64 rest, vr] w (IntsOk (minutesL l rest r) (rosU l rest r) w) := by
  have Hok := Lib.hid (Calls.gives (roster1_any v vr l r rest w hv hr hl hlr))
  obtain ⟨i0, hi0, hz0, hz1, hz2⟩ := info_parts Try.info3
  have hmk : ∀ W, (Instr.makeSlice 29 (.int .i64 12) (.int .i64 12)).run Try.prog W = .ok (.slice (some ⟨W.heap.size, 0, none⟩) 12 12) (W.alloc (.cells (madeCells #[.int .i64 0] (12 * i0.size)) 3)) := fun W =>
    run_make_rowN (P := Try.prog) 29 3 i0 _ Try.underlying29 hi0 hz0 .i64 .i64 12 12 (Nat.le_refl _) (by rw [hz2]; omega) (by omega) W
  rw [hz1] at hmk
  simp only [Nat.mul_one] at hmk
  cases hz : rosU l rest r with
  | true =>
    obtain ⟨hok, hle, hto⟩ := rosU_iff.1 hz
    obtain ⟨hzv, r0, r6⟩ := okR_parts.1 hok
    have h12 := (validU_iff.1 hzv).1
    obtain ⟨a, cap, rfl, hcap, ha⟩ := hv
    obtain ⟨ar, capr, rfl, hcapr, har⟩ := hr
    clear hcap hcapr
    have Har := Lib.hid har; clear har
    have Ha := Lib.hid ha; clear ha
    have Hle := Lib.hid hle; clear hle
    have Hto := Lib.hid hto; clear hto
    have Hzv := Lib.hid hzv; clear hzv hok
    have Hz := Lib.hid hz
    have Hml := Lib.hid (show minutesL l rest r = minL l r r.length from if_pos hz); clear hz
    go_enter Try.func47, Try.ntmps47
    go_wp2_with fail
    refine (Hok.out).mono ?_; rintro e w1 ⟨rfl, hw1⟩
    rw [Hz.out]
    have HW1 := Lib.hid hw1; clear hw1
    have HWH := Lib.hid (Whole.made w1 3 (madeCells #[.int .i64 0] 12))
    go_wp2
    go_loopw [9] (fun kv wr => MnRel l r w w1.heap.size kv wr) (fun kv _ => r.length - (intOf kv).toNat)
    case atStart => exact ⟨0, Nat.zero_le _, rfl, min_start HWH.out, by have h := HWH.out.room; rwa [size_madeCells] at h, by simp, HW1.out.alloc HW1.out.size _⟩
    case round =>
      obtain ⟨k, hk, rfl, hmn, hroom, hg, hbel⟩ := hrel
      by_cases hlt : k < r.length
      · have hk0 : (0 : Int) ≤ (k : Int) := Int.natCast_nonneg _
        have hk2 : (k : Int) < (r.length : Int) := by omega
        have hk4 : k < l.length := by rw [← Hle.out]; exact hlt
        have hk3 : (k : Int) < (l.length : Int) := by omega
        obtain ⟨br, or', rfl, hbr0, hri⟩ := Har.out (by rintro rfl; simp at hlt)
        obtain ⟨b, o, rfl, hb0, hrw⟩ := Ha.out (by rintro rfl; simp at hk4)
        have d0 := (hri.below hbel hbr0) k hlt
        obtain ⟨c0, c1⟩ := (hrw.below hbel hb0) k hk4
        have hT := okT_iff.1 (okTTo_at Hto.out hlt)
        obtain ⟨t0, t1, _⟩ := hT
        have Hms := Lib.hid (fun (n : Nat) => minL_succ (l := l) (r := r) (k := k) (n := n))
        have hat := validU_at Hzv.out hk4
        obtain ⟨h1, h2, h3, _⟩ := hat
        have Hbel := Lib.hid hbel
        generalize (l.getD k rn0).a = xa at *
        generalize (l.getD k rn0).b = xb at *
        generalize hy : r.getD k 0 = y at *
        have Hy := Lib.hid hy; clear hy hbel hri hrw
        obtain ⟨n, rfl⟩ : ∃ n : Nat, y = (n : Int) := ⟨y.toNat, by omega⟩
        have hn : n < 12 := by omega
        have e0 := hmn n (by rw [minL_len]; exact hn)
        rw [minL_at hn, Nat.zero_add] at e0
        have hbd := minTo_bd (r := r) Hzv.out (n : Int) k (by omega)
        have Hst := Lib.hid (show IntAt (wr.setCell ⟨w1.heap.size, n, none⟩ (.int .i64 (minTo l r (n : Int) k + xb - xa))) w1.heap.size 0 (minL l r (k + 1)) by
          rw [Hms.out n rfl hn, show minTo l r (n : Int) k + xb - xa = minTo l r (n : Int) k + (xb - xa) by omega]; exact IntAt.set hmn hroom (by rw [minL_len]; omega) (by rw [minL_len]; exact hn) _)
        have f0 := hroom.2 n
        have Hroom := Lib.hid hroom; clear hroom hmn
        have hne : b ≠ w1.heap.size := by have := HW1.out.size; omega
        generalize minTo l r (n : Int) k = fx at *
        have hw1 : IntKind.i64.wrap (fx + xb) = fx + xb := IntWalk.i64_in _ (by omega)
        have hw2 : IntKind.i64.wrap (fx + xb - xa) = fx + xb - xa := IntWalk.i64_in _ (by omega)
        go_wp2
        go_still_tail 25, (by kernel_rfl)
        go_wp2
        exact ⟨⟨k + 1, hlt, by go_num, Hst.out, Hroom.out.setCell _ _, by simpa using hg, (Hbel.out.setCell HW1.out.size _).drew⟩, by simp [intOf]; omega⟩
      · obtain rfl : k = r.length := by omega
        have hk9 : (l.length : Int) ≤ (r.length : Int) := by rw [Hle.out]; exact Int.le_refl _
        have Hi := Lib.hid hmn; clear hmn
        have Hr := Lib.hid hroom; clear hroom
        go_wp2
        go_ret2
        rw [Hml.out]
        refine ⟨some ⟨w1.heap.size, 0, none⟩, 12, by rw [minL_len]; rfl, by rw [minL_len]; exact Nat.le_refl _, fun _ => ⟨w1.heap.size, rfl, hg, Hi.out, by rw [minL_len]; exact Hr.out⟩, fun j hj => by obtain ⟨o, ho⟩ := hj; cases ho; exact ⟨HW1.out.size, hg⟩, hbel⟩
  | false =>
    clear hv hr
    have Hz := Lib.hid hz
    have Hml := Lib.hid (show minutesL l rest r = [] from if_neg (by rw [hz]; simp)); clear hz
    go_enter Try.func47, Try.ntmps47
    go_wp2_with fail
    refine (Hok.out).mono ?_; rintro e w1 ⟨rfl, hb⟩
    rw [Hz.out]
    go_wp2
    go_ret2
    rw [Hml.out]
    exact IntsOk.no hb.size (by simp) (hb.alloc hb.size _)

end Go.Proofs.Ytmcapcclnkicbaa
