/- slices.Delete of one gate of a row of the call's own. -/
import Derived.Test.YthhllpnbmelidaaGDP
import Derived.Test.YthhllpnbmelidaaGDM
import Derived.Test.YthhllpnbmelidaaHD
import Derived.Deep.LoopGhost
import Derived.Deep.RegionLaw
import Derived.Lib.SliceRun
import Derived.Lib.SlicesDelete
import Derived.Shelf.RegionOpenPlain
import Derived.WalkKit
import Derived.Lib.Walk
namespace Go.Proofs.Ythhllpnbmelidaa
open Go.RowKit
set_option linter.unusedVariables false
set_option linter.unusedSimpArgs false

theorem clearG (w : World) (ty : TypeId) (b o c : Nat) (hc : ∀ j, j < 3 → (w.cell? ⟨b, o + j, none⟩).isSome = true) (hf : ∀ j, j < 3 → w.frozen? ⟨b, o + j, none⟩ = false) :
    (Builtin.clear_ #[25] ty #[.slice (some ⟨b, o, none⟩) 1 c]).run Try.prog w = .ok (.tuple #[]) (w.setCells b o [.int .i64 0, .int .i64 0, .int .i64 0]) := by
  have hv : ∀ w, (zeroValue 33).run Try.prog w = .ok (.agg #[.int .i64 0, .int .i64 0, .int .i64 0]) w := Try.zeroValue33
  have hst := run_storeCells_cells (P := Try.prog) b o [.int .i64 0, .int .i64 0, .int .i64 0] 0 w (by simpa using hc) (by simpa using hf) (by intro v hv'; simp at hv'; subst hv'; rfl)
  simp only [Nat.add_zero] at hst
  have hzc : (Builtin.zeroCells (Value.agg #[.int .i64 0, .int .i64 0, .int .i64 0]).cells 1).toList = [.int .i64 0, .int .i64 0, .int .i64 0] := by kernel_rfl
  simp [Builtin.clear_, run_underlying Try.underlying25, hv, hzc, hst]

set_option maxRecDepth 100000 in
set_option maxHeartbeats 2000000 in
theorem deleteG_any (B g cap k m : Nat) (l : List Gt) (w : World) (h : RowGt w B (.slice (some ⟨g, 0, none⟩) l.length cap) l) (hm : l.length = k + 1 + m) (hl : l.length ≤ 1048577) :
    Calls Try.prog 74 #[.slice (some ⟨g, 0, none⟩) (k + 1 + m) cap, .int .i64 (k : Nat), .int .i64 ((k : Int) + 1)] w fun e w' => e = .returned (.slice (some ⟨g, 0, none⟩) (k + m) cap) ∧ RowGt w' B (.slice (some ⟨g, 0, none⟩) (k + m) cap) (dropG l k) ∧ Touch (fun j => j = g) w w' := by
  obtain ⟨i0, hi0, hz0, hz1, hz2⟩ := info_parts infoGt
  have hown : w.drew.ownsRow B 33 3 (.slice (some ⟨g, 0, none⟩) l.length cap) l.length (encGt l) := by unfold RowGt at h; exact h.drew
  have hcap : k + 1 + m ≤ cap := by
    rcases hown.2 with ⟨h0, _⟩ | ⟨_, _, _, he, _, _, hc, _⟩
    · cases h0
    · cases he; omega
  have hat : GtAt w.drew g 0 l := fun i hi => by
    have e := encGt_get l i hi
    have hi3 : i * 3 + 2 < l.length * 3 := by omega
    rw [Nat.zero_add, hown.cellAt (i * 3) (by omega), hown.cellAt (i * 3 + 1) (by omega), hown.cellAt (i * 3 + 2) (by omega)]
    exact e
  have hgl : g < w.drew.heap.size := (hown.lt g rfl).2
  obtain ⟨A, hA⟩ : ∃ A, A = tailG g 0 cap (k + 1) := ⟨_, rfl⟩
  obtain ⟨news, hnews⟩ : ∃ news, news = encGt (l.drop (k + 1)) := ⟨_, rfl⟩
  have s1 : Hid (news.length = m * 3) := by rw [hnews, encGt_len, List.length_drop, hm, Nat.add_sub_cancel_left]; rfl
  have hsrc : Hid (∀ j u, news[j]? = some u → w.drew.cell? (A.add j) = some u) := by
    rw [hnews, hA]
    exact Lib.hid (tailG_news hat hgl (by omega) (show k + 1 ≤ l.length by omega) (Nat.le_refl _) _ (Below.refl _ _))
  have s2 : Hid (∀ u ∈ news, u.oneCell' = true) := by rw [hnews]; exact Lib.hid (encGt_one _)
  have s3 : Hid (∀ t, t < news.length → (w.drew.cell? ⟨g, 0 + k * 3 + t, none⟩).isSome = true ∧ w.drew.frozen? ⟨g, 0 + k * 3 + t, none⟩ = false) := Lib.hid (fun t ht => by
    rw [s1.out] at ht
    have hlt : k * 3 + t < (encGt l).length := by rw [encGt_len]; omega
    rw [Nat.zero_add]
    refine ⟨?_, hown.frozenAt _⟩
    rw [hown.cellAt _ (by omega), List.getElem?_eq_getElem hlt]
    rfl)
  obtain ⟨W1, hW1⟩ : ∃ W1, W1 = w.drew.setCells g (0 + k * 3) news := ⟨_, rfl⟩
  have hst := (stored_many news (k * 3) w.drew _ hown).1
  have hcl : ∀ ty, (Builtin.clear_ #[25] ty #[.slice (some ⟨g, (k + m) * 3, none⟩) 1 (cap - (k + m))]).run Try.prog W1 = .ok (.tuple #[]) (W1.setCells g ((k + m) * 3) [.int .i64 0, .int .i64 0, .int .i64 0]) := fun ty => by
    rw [hW1, Nat.zero_add]
    refine clearG _ ty g ((k + m) * 3) _ (fun j hj => ?_) (fun j hj => hst.frozenAt _)
    have hlt : (k + m) * 3 + j < (putL (encGt l) (k * 3) news).length := by rw [putL_len, encGt_len]; omega
    rw [hst.cellAt _ (by omega), List.getElem?_eq_getElem hlt]
    rfl
  have hdone := drop_row (zs := [.int .i64 0, .int .i64 0, .int .i64 0]) (show RowGt w.drew B (.slice (some ⟨g, 0, none⟩) l.length cap) l from hown) (show k < l.length by omega)
  rw [← hnews, show l.length - 1 = k + m by omega, ← Nat.zero_add (k * 3), ← hW1] at hdone
  have Hd := Lib.hid hdone
  have hW : Hid (W1 = w.drew.setCells g (0 + k * 3) news) := Lib.hid hW1
  have hsa : ∀ wx, (Instr.slice 25 (.slice (some ⟨g, 0, none⟩) (k + 1 + m) cap) none (some (.int .i64 (k : Int))) none).run Try.prog wx = .ok (.slice (some ⟨g, 0, none⟩) k cap) wx := fun wx => by
    rw [run_slice_h wx 25 (some ⟨g, 0, none⟩) (k + 1 + m) cap rfl .i64 (k : Int) (by omega) (by omega), ← headG_is]; rfl
  have hsb : ∀ wx, (Instr.slice 25 (.slice (some ⟨g, 0, none⟩) (k + 1 + m) cap) (some (.int .i64 ((k : Int) + 1))) none none).run Try.prog wx = .ok (.slice (some A) m (cap - (k + 1))) wx := fun wx => by
    rw [run_slice_l wx 25 (some ⟨g, 0, none⟩) (k + 1 + m) cap rfl .i64 ((k : Int) + 1) (by omega) (by omega), hA]
    have := tailG_is g 0 (k + 1 + m) cap (k + 1)
    rw [Nat.add_sub_cancel_left] at this
    rw [← this]; rfl
  have hcapn : ¬ cap = k + m := by omega
  have hsd : ∀ wx, (Instr.slice 25 (.slice (some ⟨g, 0, none⟩) (k + m) cap) (some (.int .i64 ((k : Int) + (m : Int)))) (some (.int .i64 ((k : Int) + 1 + (m : Int)))) none).run Try.prog wx = .ok (.slice (some ⟨g, (k + m) * 3, none⟩) 1 (cap - (k + m))) wx := fun wx => by
    rw [run_slice_lh wx 25 (some ⟨g, 0, none⟩) (k + m) cap rfl .i64 .i64 ((k : Int) + (m : Int)) ((k : Int) + 1 + (m : Int)) (by omega) (by omega) (by omega)]
    have := tailG_is g 0 (k + 1 + m) cap (k + m)
    unfold tailG at this
    rw [if_neg hcapn, Nat.zero_add, show k + 1 + m - (k + m) = 1 by omega] at this
    rw [← this, show ((k : Int) + (m : Int)).toNat = k + m by omega, show ((k : Int) + 1 + (m : Int)).toNat = k + 1 + m by omega]; rfl
  have hk0 : (0 : Int) ≤ (k : Int) := Int.natCast_nonneg _
  have hm0 : (0 : Int) ≤ (m : Int) := Int.natCast_nonneg _
  have hcapI : (k : Int) + 1 + m ≤ (cap : Int) := by omega
  have hkc : k ≤ cap := by omega
  have hkc1 : k + 1 ≤ cap := by omega
  have hne : ¬ (k : Int) = (k : Int) + 1 := by omega
  have mixed : Try.prog.follows .mixedOrders = true := by kernel_rfl
  clear hown hat hst hnews hA hW1 hdone h
  go_enter Try.func74, Try.ntmps74
  go_wp2_with fail
  go_region_law_o (refine step_append_room rfl (.tmp 22) (.tmp 25) 25 rfl 33 i0 3 Try.underlying25 hi0 hz1 g 0 k cap (by simp [Act.eval, Act.put]) A m (cap - (k + 1)) news (by simp [Act.eval, Act.put]) s1.out hsrc.out s2.out (by omega) s3.out ?_; rw [← hW.out])
  go_wp2
  go_ret
  exact ⟨rfl, Hd.out.1, (Touch.of_below (Below.refl w.heap.size w).drew).trans Hd.out.2⟩

end Go.Proofs.Ythhllpnbmelidaa
