/- Heaps of awayTeam: pop, empty, first. -/
import Derived.Test.YtmcapcclnkicbabVAK
namespace Go.Proofs.Ytmcapcclnkicbab
open Go.RowKit

set_option maxHeartbeats 400000 in
theorem emptyA_any (X n cap : Nat) (ad : Option Addr) (w : World) (hx : w.cell? ⟨X, 0, none⟩ = some (.slice ad n cap)) :
    Calls Try.prog 35 #[.pointer (some ⟨X, 0, none⟩)] w fun e w' => e = .returned (.bool (decide (n = 0))) ∧ w = w' := by
  cases n with
  | zero =>
    go_enter Try.func35, Try.ntmps35
    go_wp2
    go_ret
    exact ⟨rfl, rfl⟩
  | succ m =>
    have hd : (((m + 1 : Nat) : Int) == 0) = false := by rw [beq_eq_false_iff_ne]; omega
    have hd2 : ((m : Int) + 1 == 0) = false := by rw [beq_eq_false_iff_ne]; omega
    go_enter Try.func35, Try.ntmps35
    go_wp2
    go_ret
    exact ⟨ret_bool (by simp <;> omega), rfl⟩
theorem emptyA_is (X n cap : Nat) (ad : Option Addr) (w : World) (hx : w.cell? ⟨X, 0, none⟩ = some (.slice ad n cap)) {b : Bool} (hb : decide (n = 0) = b) :
    Calls Try.prog 35 #[.pointer (some ⟨X, 0, none⟩)] w fun e w' => e = .returned (.bool b) ∧ w = w' := by
  have := emptyA_any X n cap ad w hx; rwa [hb] at this

set_option maxHeartbeats 400000 in
theorem firstA_any (g cap X F1 : Nat) (l : List Pl) (w : World) (hx : w.cell? ⟨X, 0, none⟩ = some (.slice (some ⟨g, 0, none⟩) l.length cap)) (hrow : RowA w F1 g cap l) (h0 : 0 < l.length) :
    Calls Try.prog 36 #[.pointer (some ⟨X, 0, none⟩)] w (Gives (.agg #[.int .i64 (l.getD 0 pl0).1, .int .i64 (l.getD 0 pl0).2]) w) := by
  have hX := World.block_lt_of_cell? _ _ hx
  obtain ⟨c0, c1, _, _⟩ := hrow.cells (i := 0) (by omega)
  simp only [Nat.zero_mul, Nat.zero_add] at c0 c1
  have hg := hrow.lt
  have hl0 : (0 : Int) < (l.length : Int) := by omega
  clear hrow
  generalize (l.getD 0 pl0).1 = x0 at *
  generalize (l.getD 0 pl0).2 = x1 at *
  go_enter Try.func36, Try.ntmps36
  go_wp2
  exact bodyPost_ret (v := .agg #[.int .i64 x0, .int .i64 x1]) (by simp [results, Try.results36, go_sem]) rfl ⟨rfl, (Below.refl _ _).alloc (Nat.le_refl _) _⟩

def PopAOut (F1 X g cap : Nat) (vo tv : Value) (l : List Pl) (w : World) (e : Ending) (w' : World) : Prop :=
  e = .returned (.agg #[.int .i64 (l.getD 0 pl0).1, .int .i64 (l.getD 0 pl0).2]) ∧ ∃ l', HeapTo l' l'.length ∧ (l.getD 0 pl0 :: l').Perm l ∧ RowA w' F1 g cap l' ∧ Whole w' X 60 #[.slice (some ⟨g, 0, none⟩) l'.length cap, vo, tv] ∧ Touch (fun k => k = X ∨ k = g) w w'

theorem swap0_perm (l : List Pl) {m : Nat} (h : l.length = m + 1) : (l.getD 0 pl0 :: (swapL l 0 m).take m).Perm l := by
  have hp := swapL_perm l (i := 0) (j := m) (by omega) (by omega)
  have hs : swapL l 0 m = (swapL l 0 m).take m ++ [l.getD 0 pl0] := by
    have h1 := swapL_length l 0 m
    have h2 : (swapL l 0 m)[m]'(by omega) = l.getD 0 pl0 := by
      have := swapL_getD l (i := 0) (j := m) (k := m) (by omega) (by omega)
      rw [if_pos rfl, getP _ (by omega)] at this
      exact this
    conv => lhs; rw [← List.take_append_drop m (swapL l 0 m)]
    congr 1
    rw [List.drop_eq_getElem_cons (by omega), h2, List.drop_eq_nil_of_le (by omega)]
  refine List.Perm.trans ?_ hp
  conv => rhs; rw [hs]
  exact (List.perm_append_comm (l₁ := [l.getD 0 pl0]))

end Go.Proofs.Ytmcapcclnkicbab
