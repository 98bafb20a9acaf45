/- Heaps of homeTeam: pop, empty. -/
import Derived.Test.YtmcapcclnkicbabVBK
namespace Go.Proofs.Ytmcapcclnkicbab
open Go.RowKit

set_option maxHeartbeats 400000 in
theorem emptyB_any (X n cap : Nat) (ad : Option Addr) (w : World) (hx : w.cell? ⟨X, 1, none⟩ = some (.slice ad n cap)) :
    Calls Try.prog 39 #[.pointer (some ⟨X, 1, none⟩)] w fun e w' => e = .returned (.bool (decide (n = 0))) ∧ w = w' := by
  cases n with
  | zero =>
    go_enter Try.func39, Try.ntmps39
    go_wp2
    go_ret
    exact ⟨rfl, rfl⟩
  | succ m =>
    have hd : (((m + 1 : Nat) : Int) == 0) = false := by rw [beq_eq_false_iff_ne]; omega
    have hd2 : ((m : Int) + 1 == 0) = false := by rw [beq_eq_false_iff_ne]; omega
    go_enter Try.func39, Try.ntmps39
    go_wp2
    go_ret
    exact ⟨ret_bool (by simp <;> omega), rfl⟩
theorem emptyB_is (X n cap : Nat) (ad : Option Addr) (w : World) (hx : w.cell? ⟨X, 1, none⟩ = some (.slice ad n cap)) {b : Bool} (hb : decide (n = 0) = b) :
    Calls Try.prog 39 #[.pointer (some ⟨X, 1, none⟩)] w fun e w' => e = .returned (.bool b) ∧ w = w' := by
  have := emptyB_any X n cap ad w hx; rwa [hb] at this

def PopBOut (F1 X g cap : Nat) (vo tv : Value) (l : List Pl) (w : World) (e : Ending) (w' : World) : Prop :=
  e = .returned (.int .i64 (l.getD 0 pl0).2) ∧ ∃ l', HeapTo l' l'.length ∧ (l.getD 0 pl0 :: l').Perm l ∧ RowB w' F1 g cap l' ∧ Whole w' X 60 #[vo, .slice (some ⟨g, 0, none⟩) l'.length cap, tv] ∧ Touch (fun k => k = X ∨ k = g) w w'

end Go.Proofs.Ytmcapcclnkicbab
