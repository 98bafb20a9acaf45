/- slices.Grow and slices.Concat of two parts, of parcels. -/
import Derived.Test.YtmdcpigobfhckaaFA
import Derived.Lib.AppendZeros
import Derived.WalkKit
import Derived.WalkSpells
import Derived.WalkLawsBesides
import Derived.IntWalk
import Derived.Outline
namespace Go.Proofs.Ytmdcpigobfhckaa
open Go.RowKit

/-- The first i parts behind one another. -/
def catTo (pl : Nat → List Fr) : Nat → List Fr
  | 0 => []
  | i + 1 => catTo pl i ++ pl i
theorem catTo_len (pl : Nat → List Fr) (i : Nat) : (catTo pl (i + 1)).length = (catTo pl i).length + (pl i).length := by simp [catTo]
theorem catTo_mono (pl : Nat → List Fr) {i j : Nat} (h : i ≤ j) : (catTo pl i).length ≤ (catTo pl j).length := by
  induction j with
  | zero => obtain rfl : i = 0 := by omega
            exact Nat.le_refl _
  | succ j ih =>
    by_cases e : i = j + 1
    · subst e; exact Nat.le_refl _
    · have := ih (by omega); rw [catTo_len]; omega

set_option maxHeartbeats 800000 in
/-- Grow of nothing. -/
theorem grow0_any (n : Nat) (w : World) (h0 : 0 < n) (hm : n ≤ 2097152) :
    Calls Try.prog 100 #[.slice none 0 0, .int .i64 n] w fun e w' => ∃ v, e = .returned v ∧ RowFr w' w.heap.size v [] ∧ Below w.heap.size w w' := by
  obtain ⟨i0, hi0, hz0, hz1, hz2⟩ := info_parts infoFr
  have hg1 := grownCap_ge w n 0 41
  have hg2 := grownCap_le_maxLen w n 0 41 (by unfold maxLen; omega)
  have happ := Lib.run_append_nil_zeros (P := Try.prog) w 25 3 25 41 i0 (.agg #[.int .i64 0, .int .i64 0, .int .i64 0]) .i64 .i64 Try.underlying25 Try.underlying3 hi0 hz0 n h0 (by omega) (by omega) (by rw [hz2]; omega)
  have hn0 : ((n : Int) > 0) := by omega
  have hnn : ¬ ((n : Int) < 0) := by omega
  generalize hcp : grownCap w n 0 41 = cp at *
  obtain ⟨M, hM⟩ : ∃ M, M = Builtin.zeroCells (Value.agg #[.int .i64 0, .int .i64 0, .int .i64 0]).cells n ++ Builtin.zeroCells (Value.agg #[.int .i64 0, .int .i64 0, .int .i64 0]).cells (cp - n) := ⟨_, rfl⟩
  have hMs : M.size = cp * 3 := by
    rw [hM, Array.size_append, size_zeroCells, size_zeroCells]
    show n * 3 + (cp - n) * 3 = cp * 3
    omega
  rw [← hM] at happ
  clear hM
  have hrow : RowFr (w.drew.alloc (.cells M 41)) w.heap.size (.slice (some ⟨w.heap.size, 0, none⟩) 0 cp) [] :=
    ⟨rfl, .inr ⟨w.heap.size, cp, M, rfl, Nat.le_refl _, heap_alloc_new w.drew _, Nat.zero_le _, hg2, hMs, by simp; rfl⟩⟩
  have hbel : Below w.heap.size w (w.drew.alloc (.cells M 41)) := ((Below.refl _ _).drew).alloc (Nat.le_refl _) _
  have Hrow := Lib.hid hrow; have Hbel := Lib.hid hbel
  clear hrow hbel hcp hg2 hMs
  go_enter Try.func100, Try.ntmps100
  go_wp2_with (at_builtin; refine Lib.wpList_append_run _ rfl _ _ _ _ rfl _ _ rfl rfl _ _ happ ?_)
  go_wp2
  go_ret
  exact ⟨_, rfl, Hrow.out, Hbel.out⟩

set_option maxHeartbeats 800000 in
theorem grow00_any (w : World) :
    Calls Try.prog 100 #[.slice none 0 0, .int .i64 (0 : Nat)] w fun e w' => ∃ v, e = .returned v ∧ RowFr w' w.heap.size v [] ∧ Below w.heap.size w w' := by
  go_enter Try.func100, Try.ntmps100
  go_wp2
  go_ret
  exact ⟨_, rfl, ⟨rfl, .inl ⟨rfl, rfl⟩⟩, Below.refl _ _⟩
theorem growN_any (n : Nat) (w : World) (hm : n ≤ 2097152) :
    Calls Try.prog 100 #[.slice none 0 0, .int .i64 n] w fun e w' => ∃ v, e = .returned v ∧ RowFr w' w.heap.size v [] ∧ Below w.heap.size w w' := by
  rcases Nat.eq_zero_or_pos n with h | h
  · subst h; exact grow00_any w
  · exact grow0_any n w h hm

/-- Two slices lie from ⟨g, 0⟩ on; each part's cells can be appended. -/
structure Parts (w : World) (g : Nat) (pa : Nat → Addr) (pc : Nat → Nat) (pl : Nat → List Fr) : Prop where
  lt : g < w.heap.size
  cell : ∀ i, i < 2 → w.cell? ⟨g, i, none⟩ = some (.slice (some (pa i)) (pl i).length (pc i))
  blk : ∀ i, i < 2 → pl i ≠ [] → (pa i).block < w.heap.size
  news : ∀ i, i < 2 → ∀ j u, (encFr (pl i))[j]? = some u → w.cell? ((pa i).add j) = some u

theorem add_block (a : Addr) (j : Nat) : (a.add j).block = a.block := by
  unfold Addr.add; split <;> rfl

theorem Parts.below {w w' : World} {g : Nat} {pa : Nat → Addr} {pc : Nat → Nat} {pl : Nat → List Fr} (h : Parts w g pa pc pl) (hb : Below w.heap.size w w') : Parts w' g pa pc pl where
  lt := Nat.lt_of_lt_of_le h.lt hb.size
  cell i hi := (hb.cell (p := ⟨g, i, none⟩) h.lt).trans (h.cell i hi)
  blk i hi hn := Nat.lt_of_lt_of_le (h.blk i hi hn) hb.size
  news i hi j u hj := by
    have hn : pl i ≠ [] := by rintro e; rw [e] at hj; simp [encFr] at hj
    exact (hb.cell (p := (pa i).add j) (by rw [add_block]; exact h.blk i hi hn)).trans (h.news i hi j u hj)

def CcRel (g : Nat) (pa : Nat → Addr) (pc : Nat → Nat) (pl : Nat → List Fr) (w : World) (v iv : Value) (wr : World) : Prop :=
  ∃ i : Nat, i ≤ 2 ∧ iv = .int .i64 i ∧ RowFr wr w.heap.size v (catTo pl i) ∧ Parts wr g pa pc pl ∧ Below w.heap.size w wr

def CsRel (pl : Nat → List Fr) (w : World) (v iv : Value) (wr : World) : Prop :=
  ∃ i : Nat, i ≤ 2 ∧ iv = .int .i64 i ∧ v = .int .i64 (catTo pl i).length ∧ wr = w

set_option maxRecDepth 100000 in
set_option maxHeartbeats 1000000 in
theorem concat_any (g : Nat) (pa : Nat → Addr) (pc : Nat → Nat) (pl : Nat → List Fr) (w : World) (hp : Parts w g pa pc pl) (hm : (catTo pl 2).length ≤ 1048577) :
    Calls Try.prog 77 #[.slice (some ⟨g, 0, none⟩) 2 2] w fun e w' => ∃ v, e = .returned v ∧ RowFr w' w.heap.size v (catTo pl 2) ∧ Below w.heap.size w w' := by
  obtain ⟨i0, hi0, hz0, hz1, hz2⟩ := info_parts infoFr
  have Hp := Lib.hid hp; clear hp
  go_enter Try.func77, Try.ntmps77
  go_wp2
  go_loopw [3, 11] (fun v i wr => CsRel pl w v i wr) (fun _ i _ => 2 - (intOf i).toNat)
  case atStart => exact ⟨0, Nat.zero_le _, rfl, rfl, rfl⟩
  case round =>
    obtain ⟨i, hi, rfl, rfl, hw⟩ := hrel
    obtain rfl : w = wr := hw.symm
    by_cases hlt : i < 2
    · have c0 := Hp.out.cell i hlt
      have hlen := catTo_len pl i
      have hmono := catTo_mono pl (show i + 1 ≤ 2 by omega)
      generalize (catTo pl i).length = n0 at *
      generalize (pl i).length = n1 at *
      have hnn : ¬ (((n0 : Int) + (n1 : Int)) < 0) := by omega
      go_wp2
      exact ⟨⟨i + 1, hlt, by go_num, by rw [hlen]; go_num, rfl⟩, by simp [intOf]; omega⟩
    · obtain rfl : i = 2 := by omega
      generalize hn : (catTo pl 2).length = n at *
      go_wp2_with fail
      refine (growN_any n _ (by omega)).mono ?_; rintro e w1 ⟨v, rfl, hrow, hb⟩
      have Hrow := Lib.hid hrow; have Hb := Lib.hid hb; clear hrow hb
      go_wp2
      go_loopw [6, 27] (fun v i wr => CcRel g pa pc pl w v i wr) (fun _ i _ => 2 - (intOf i).toNat)
      case atStart => exact ⟨0, Nat.zero_le _, rfl, Hrow.out, Hp.out.below Hb.out, Hb.out⟩
      case round =>
        obtain ⟨i, hi, rfl, hown, hp, hbel⟩ := hrel
        by_cases hlt : i < 2
        · have c0 := hp.cell i hlt
          have hnews := hp.news i hlt
          have hlen := catTo_len pl i
          have hmono := catTo_mono pl (show i + 1 ≤ 2 by omega)
          have hs1 := hbel.size
          have Hp2 := Lib.hid hp; clear hp
          unfold RowFr at hown
          go_wp2_with (at_builtin; refine wpList_append_own _ rfl _ _ 25 rfl w.heap.size 41 i0 _ 3 24 Try.underlying25 hi0 hz0 hz1 hz2 rfl (by omega) _ _ (encFr (catTo pl i)) rfl hown (pa i) (pl i).length (pc i) (encFr (pl i)) rfl (encFr_len _) hnews (encFr_one _) (by unfold maxLen; omega) (by omega) (by omega) ?_; intro v' w2 hown2 hgrow _)
          have B6 : Below w.heap.size w w2 := hbel.grown hgrow (by omega) (fun j hj => (hown.lt j hj).1)
          have hown7 : RowFr w2 w.heap.size v' (catTo pl (i + 1)) := RowFr.more hown2
          have hp7 : Parts w2 g pa pc pl := Hp.out.below B6
          have Hown7 := Lib.hid hown7
          have HB6 := Lib.hid B6
          have Hp7 := Lib.hid hp7
          clear hown7 B6 hown2 hgrow hown hbel hp7 hnews c0
          go_wp2
          exact ⟨⟨i + 1, hlt, by go_num, Hown7.out, Hp7.out, HB6.out⟩, by simp [intOf]; omega⟩
        · obtain rfl : i = 2 := by omega
          have Hown := Lib.hid hown
          have HB := Lib.hid hbel
          clear hown hbel hp
          go_wp2
          go_ret
          exact ⟨_, rfl, Hown.out, HB.out⟩

end Go.Proofs.Ytmdcpigobfhckaa
