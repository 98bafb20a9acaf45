/- slices.Grow and slices.Concat of two parts, of numbers. -/
import Derived.Test.YthhllpnbmelidaaIZ
import Derived.Lib.AppendZeros
import Derived.WalkKit
import Derived.WalkSpells
import Derived.WalkLawsBesides
import Derived.IntWalk
import Derived.Outline
namespace Go.Proofs.Ythhllpnbmelidaa
open Go.RowKit

theorem encI_len (l : List Int) : (l.map (Value.int .i64)).length = l.length * 1 := by simp
theorem encI_one (l : List Int) : ∀ u ∈ l.map (Value.int .i64), u.oneCell' = true := by
  intro u hu
  obtain ⟨x, _, rfl⟩ := List.mem_map.1 hu
  rfl
theorem RowI.more {w : World} {B : Nat} {v : Value} {l l' : List Int} (h : w.ownsRow B 3 1 v (l.length + l'.length) (l.map (Value.int .i64) ++ l'.map (Value.int .i64))) : RowI w B v (l ++ l') := by
  unfold RowI
  rw [List.length_append, List.map_append]
  exact h

/-- The first i parts behind one another. -/
def catI (pl : Nat → List Int) : Nat → List Int
  | 0 => []
  | i + 1 => catI pl i ++ pl i
theorem catI_len (pl : Nat → List Int) (i : Nat) : (catI pl (i + 1)).length = (catI pl i).length + (pl i).length := by simp [catI]
theorem catI_mono (pl : Nat → List Int) {i j : Nat} (h : i ≤ j) : (catI pl i).length ≤ (catI pl j).length := by
  induction j with
  | zero => obtain rfl : i = 0 := by omega
            exact Nat.le_refl _
  | succ j ih =>
    by_cases e : i = j + 1
    · subst e; exact Nat.le_refl _
    · have := ih (by omega); rw [catI_len]; omega

/-- Two slices lie from ⟨g, 0⟩ on; each part's cells can be appended. -/
structure PartsI (w : World) (g : Nat) (pa : Nat → Addr) (pc : Nat → Nat) (pl : Nat → List Int) : Prop where
  lt : g < w.heap.size
  cell : ∀ i, i < 2 → w.cell? ⟨g, i, none⟩ = some (.slice (some (pa i)) (pl i).length (pc i))
  blk : ∀ i, i < 2 → pl i ≠ [] → (pa i).block < w.heap.size
  news : ∀ i, i < 2 → ∀ j u, ((pl i).map (Value.int .i64))[j]? = some u → w.cell? ((pa i).add j) = some u

theorem addI_block (a : Addr) (j : Nat) : (a.add j).block = a.block := by
  unfold Addr.add; split <;> rfl

theorem PartsI.below {w w' : World} {g : Nat} {pa : Nat → Addr} {pc : Nat → Nat} {pl : Nat → List Int} (h : PartsI w g pa pc pl) (hb : Below w.heap.size w w') : PartsI w' g pa pc pl where
  lt := Nat.lt_of_lt_of_le h.lt hb.size
  cell i hi := (hb.cell (p := ⟨g, i, none⟩) h.lt).trans (h.cell i hi)
  blk i hi hn := Nat.lt_of_lt_of_le (h.blk i hi hn) hb.size
  news i hi j u hj := by
    have hn : pl i ≠ [] := by rintro e; rw [e] at hj; simp at hj
    exact (hb.cell (p := (pa i).add j) (by rw [addI_block]; exact h.blk i hi hn)).trans (h.news i hi j u hj)

def CcIRel (g : Nat) (pa : Nat → Addr) (pc : Nat → Nat) (pl : Nat → List Int) (w : World) (v iv : Value) (wr : World) : Prop :=
  ∃ i : Nat, i ≤ 2 ∧ iv = .int .i64 i ∧ RowI wr w.heap.size v (catI pl i) ∧ PartsI wr g pa pc pl ∧ Below w.heap.size w wr

def CsIRel (pl : Nat → List Int) (w : World) (v iv : Value) (wr : World) : Prop :=
  ∃ i : Nat, i ≤ 2 ∧ iv = .int .i64 i ∧ v = .int .i64 (catI pl i).length ∧ wr = w

end Go.Proofs.Ythhllpnbmelidaa
