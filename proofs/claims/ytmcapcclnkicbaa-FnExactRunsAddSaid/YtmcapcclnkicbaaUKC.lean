/- slices.Concat of three parts. -/
import Derived.Test.YtmcapcclnkicbaaUK
namespace Go.Proofs.Ytmcapcclnkicbaa
open Go.RowKit

/-- Three slices lie from ⟨g, 0⟩ on; each part's cells can be appended. -/
structure Parts (w : World) (g : Nat) (pa : Nat → Addr) (pc : Nat → Nat) (pl : Nat → List Rn) : Prop where
  lt : g < w.heap.size
  cell : ∀ i, i < 3 → w.cell? ⟨g, i, none⟩ = some (.slice (some (pa i)) (pl i).length (pc i))
  blk : ∀ i, i < 3 → pl i ≠ [] → (pa i).block < w.heap.size
  news : ∀ i, i < 3 → ∀ j u, (encRn (pl i))[j]? = some u → w.cell? ((pa i).add j) = some u

theorem add_block (a : Addr) (j : Nat) : (a.add j).block = a.block := by
  unfold Addr.add; split <;> rfl

theorem Parts.below {w w' : World} {g : Nat} {pa : Nat → Addr} {pc : Nat → Nat} {pl : Nat → List Rn} (h : Parts w g pa pc pl) (hb : Below w.heap.size w w') : Parts w' g pa pc pl where
  lt := Nat.lt_of_lt_of_le h.lt hb.size
  cell i hi := (hb.cell (p := ⟨g, i, none⟩) h.lt).trans (h.cell i hi)
  blk i hi hn := Nat.lt_of_lt_of_le (h.blk i hi hn) hb.size
  news i hi j u hj := by
    have hn : pl i ≠ [] := by rintro e; rw [e] at hj; simp [encRn] at hj
    exact (hb.cell (p := (pa i).add j) (by rw [add_block]; exact h.blk i hi hn)).trans (h.news i hi j u hj)

def CcRel (g : Nat) (pa : Nat → Addr) (pc : Nat → Nat) (pl : Nat → List Rn) (w : World) (v iv : Value) (wr : World) : Prop :=
  ∃ i : Nat, i ≤ 3 ∧ iv = .int .i64 i ∧ RowRn wr w.heap.size v (catTo pl i) ∧ Parts wr g pa pc pl ∧ Below w.heap.size w wr

def CsRel (pl : Nat → List Rn) (w : World) (v iv : Value) (wr : World) : Prop :=
  ∃ i : Nat, i ≤ 3 ∧ iv = .int .i64 i ∧ v = .int .i64 (catTo pl i).length ∧ wr = w

set_option maxRecDepth 100000 in
set_option maxHeartbeats 1000000 in
theorem concat_any (g : Nat) (pa : Nat → Addr) (pc : Nat → Nat) (pl : Nat → List Rn) (w : World) (hp : Parts w g pa pc pl) (h0 : 0 < (catTo pl 3).length) (hm : (catTo pl 3).length ≤ 1048577) :
    Calls Try.prog 62 #[.slice (some ⟨g, 0, none⟩) 3 3] w fun e w' => ∃ v, e = .returned v ∧ RowRn w' w.heap.size v (catTo pl 3) ∧ Below w.heap.size w w' := by
  obtain ⟨i0, hi0, hz0, hz1, hz2⟩ := info_parts infoRn
  have Hp := Lib.hid hp; clear hp
  go_enter Try.func62, Try.ntmps62
  go_wp2
  go_loopw [3, 11] (fun v i wr => CsRel pl w v i wr) (fun _ i _ => 3 - (intOf i).toNat)
  case atStart => exact ⟨0, Nat.zero_le _, rfl, rfl, rfl⟩
  case round =>
    obtain ⟨i, hi, rfl, rfl, hw⟩ := hrel
    obtain rfl : w = wr := hw.symm
    by_cases hlt : i < 3
    · have c0 := Hp.out.cell i hlt
      have hlen := catTo_len pl i
      have hmono := catTo_mono pl (show i + 1 ≤ 3 by omega)
      generalize (catTo pl i).length = n0 at *
      generalize (pl i).length = n1 at *
      have hnn : ¬ (((n0 : Int) + (n1 : Int)) < 0) := by omega
      go_wp2
      exact ⟨⟨i + 1, hlt, by go_num, by rw [hlen]; go_num, rfl⟩, by simp [intOf]; omega⟩
    · obtain rfl : i = 3 := by omega
      generalize hn : (catTo pl 3).length = n at *
      go_wp2_with fail
      refine (grow0_any n _ h0 (by omega)).mono ?_; rintro e w1 ⟨v, rfl, hrow, hb⟩
      have Hrow := Lib.hid hrow; have Hb := Lib.hid hb; clear hrow hb
      go_wp2
      go_loopw [6, 27] (fun v i wr => CcRel g pa pc pl w v i wr) (fun _ i _ => 3 - (intOf i).toNat)
      case atStart => exact ⟨0, Nat.zero_le _, rfl, Hrow.out, Hp.out.below Hb.out, Hb.out⟩
      case round =>
        obtain ⟨i, hi, rfl, hown, hp, hbel⟩ := hrel
        by_cases hlt : i < 3
        · have c0 := hp.cell i hlt
          have hnews := hp.news i hlt
          have hlen := catTo_len pl i
          have hmono := catTo_mono pl (show i + 1 ≤ 3 by omega)
          have hs1 := hbel.size
          have Hp2 := Lib.hid hp; clear hp
          unfold RowRn at hown
          go_wp2_with (at_builtin; refine wpList_append_own _ rfl _ _ 25 rfl w.heap.size 48 i0 _ 2 16 Try.underlying25 hi0 hz0 hz1 hz2 rfl (by omega) _ _ (encRn (catTo pl i)) rfl hown (pa i) (pl i).length (pc i) (encRn (pl i)) rfl (encRn_len _) hnews (encRn_one _) (by unfold maxLen; omega) (by omega) (by omega) ?_; intro v' w2 hown2 hgrow _)
          have B6 : Below w.heap.size w w2 := hbel.grown hgrow (by omega) (fun j hj => (hown.lt j hj).1)
          have hown7 : RowRn w2 w.heap.size v' (catTo pl (i + 1)) := RowRn.more hown2
          have hp7 : Parts w2 g pa pc pl := Hp.out.below B6
          have Hown7 := Lib.hid hown7
          have HB6 := Lib.hid B6
          have Hp7 := Lib.hid hp7
          clear hown7 B6 hown2 hgrow hown hbel hp7 hnews c0
          go_wp2
          exact ⟨⟨i + 1, hlt, by go_num, Hown7.out, Hp7.out, HB6.out⟩, by simp [intOf]; omega⟩
        · obtain rfl : i = 3 := by omega
          have Hown := Lib.hid hown
          have HB := Lib.hid hbel
          clear hown hbel hp
          go_wp2
          go_ret
          exact ⟨_, rfl, Hown.out, HB.out⟩

end Go.Proofs.Ytmcapcclnkicbaa
