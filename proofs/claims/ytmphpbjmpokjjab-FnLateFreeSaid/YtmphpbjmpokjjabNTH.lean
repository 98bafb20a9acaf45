/- The laws' nothing: so many zeros. -/
import Derived.Test.YtmphpbjmpokjjabICL
import Derived.Test.YtmphpbjmpokjjabI
import Derived.Test.YtmphpbjmpokjjabM
import Derived.Lib.Hide
namespace Go.Proofs.Ytmphpbjmpokjjab
open Go.RowKit

theorem zerosAt (w : World) (n : Nat) (t : TypeId) : IntAt (w.alloc (.cells (madeCells #[.int .i64 0] n) t)) w.heap.size 0 (List.replicate n 0) := by
  intro i hi
  rw [List.length_replicate] at hi
  rw [Nat.zero_add, World.cell?_alloc_new]
  rw [← Array.getElem?_toList, toList_madeCells_one, List.getElem?_replicate, if_pos hi]
  simp [List.getD, hi]

set_option maxRecDepth 100000 in
set_option maxHeartbeats 1000000 in
theorem nothing_any (m : Nat) (w : World) (hm : m ≤ 100) :
    Calls Try.prog 30 #[.int .i64 m] w fun e w' => ∃ v, e = .returned v ∧ IntsIn w' v (List.replicate m 0) ∧ Below w.heap.size w w' := by
  obtain ⟨i0, hi, hz0, hz1, hz2⟩ := info_parts Try.info3
  have hmk := fun W => run_make_rowN (P := Try.prog) 24 3 i0 _ Try.underlying24 hi hz0 .i64 .i64 m m (Nat.le_refl _) (by rw [hz2]; omega) (by omega) W
  rw [hz1] at hmk
  simp only [Nat.mul_one] at hmk
  go_enter Try.func30, Try.ntmps30
  go_wp2
  go_ret
  refine ⟨.slice (some ⟨w.heap.size, 0, none⟩) m m, rfl, ⟨some ⟨w.heap.size, 0, none⟩, m, by rw [List.length_replicate], by rw [List.length_replicate]; omega, fun _ => ⟨w.heap.size, 0, rfl, by simp, zerosAt w m 3⟩⟩, (Below.refl _ w).alloc (Nat.le_refl _) _⟩

end Go.Proofs.Ytmphpbjmpokjjab
