/- RunsAdd: plainly; the library's Grow and Concat. -/
import Derived.Test.YtmcapcclnkicbaaUL
import Derived.Lib.AppendZeros
namespace Go.Proofs.Ytmcapcclnkicbaa
open Go.RowKit

/-- How many runs from the first on start at t or ahead of it. -/
def plU : List Rn → Int → Nat
  | [], _ => 0
  | r :: l, t => if r.a ≤ t then plU l t + 1 else 0
def addW (l : List Rn) (r : Rn) : List Rn := l.take (plU l r.a) ++ [r] ++ l.drop (plU l r.a)
def addOk (l : List Rn) (r : Rn) : Bool := validU l && validU (addW l r)
def addL (l : List Rn) (r : Rn) : List Rn := if addOk l r = true then addW l r else []

theorem plU_le : ∀ (l : List Rn) (t : Int), plU l t ≤ l.length
  | [], _ => Nat.le_refl _
  | r :: l, t => by
    have := plU_le l t
    unfold plU; split <;> simp <;> omega
theorem plU_at : ∀ (l : List Rn) (t : Int) (i : Nat), i < plU l t → (l.getD i rn0).a ≤ t
  | [], _, _, h => by simp [plU] at h
  | r :: l, t, i, h => by
    unfold plU at h
    split at h
    · rename_i hr
      cases i with
      | zero => exact hr
      | succ i => exact plU_at l t i (by omega)
    · omega
theorem plU_stop : ∀ (l : List Rn) (t : Int), plU l t < l.length → ¬ (l.getD (plU l t) rn0).a ≤ t
  | [], _, h => by simp [plU] at h
  | r :: l, t, h => by
    unfold plU at h ⊢
    split
    · rename_i hr
      rw [if_pos hr] at h
      exact plU_stop l t (by simp at h; omega)
    · rename_i hr; exact hr
theorem addW_len (l : List Rn) (r : Rn) : (addW l r).length = l.length + 1 := by
  have := plU_le l r.a
  simp [addW]; omega
theorem addL_len (l : List Rn) (r : Rn) : (addL l r).length ≤ l.length + 1 := by
  unfold addL; split
  · rw [addW_len]; exact Nat.le_refl _
  · simp

theorem addL_short (l : List Rn) (r : Rn) : (addL l r).length ≤ 13 := by
  unfold addL; split
  · rename_i h
    have h1 : validU l = true := by unfold addOk at h; simp only [Bool.and_eq_true] at h; exact h.1
    have h2 := (validU_iff.1 h1).1
    rw [addW_len]; omega
  · simp

/-- The first i parts behind one another. -/
def catTo (pl : Nat → List Rn) : Nat → List Rn
  | 0 => []
  | i + 1 => catTo pl i ++ pl i
theorem catTo_len (pl : Nat → List Rn) (i : Nat) : (catTo pl (i + 1)).length = (catTo pl i).length + (pl i).length := by simp [catTo]
theorem catTo_mono (pl : Nat → List Rn) {i j : Nat} (h : i ≤ j) : (catTo pl i).length ≤ (catTo pl j).length := by
  induction j with
  | zero => obtain rfl : i = 0 := by omega
            exact Nat.le_refl _
  | succ j ih =>
    by_cases e : i = j + 1
    · subst e; exact Nat.le_refl _
    · have := ih (by omega); rw [catTo_len]; omega

set_option maxHeartbeats 800000 in
/-- Grow of nothing. -/
theorem grow0_any (n : Nat) (w : World) (h0 : 0 < n) (hm : n ≤ 2097152) :
    Calls Try.prog 66 #[.slice none 0 0, .int .i64 n] w fun e w' => ∃ v, e = .returned v ∧ RowRn w' w.heap.size v [] ∧ Below w.heap.size w w' := by
  obtain ⟨i0, hi0, hz0, hz1, hz2⟩ := info_parts infoRn
  have hg1 := grownCap_ge w n 0 48
  have hg2 := grownCap_le_maxLen w n 0 48 (by unfold maxLen; omega)
  have happ := Lib.run_append_nil_zeros (P := Try.prog) w 25 3 25 48 i0 (.agg #[.int .i64 0, .int .i64 0]) .i64 .i64 Try.underlying25 Try.underlying3 hi0 hz0 n h0 (by omega) (by omega) (by rw [hz2]; omega)
  have hn0 : ((n : Int) > 0) := by omega
  have hnn : ¬ ((n : Int) < 0) := by omega
  generalize hcp : grownCap w n 0 48 = cp at *
  obtain ⟨M, hM⟩ : ∃ M, M = Builtin.zeroCells (Value.agg #[.int .i64 0, .int .i64 0]).cells n ++ Builtin.zeroCells (Value.agg #[.int .i64 0, .int .i64 0]).cells (cp - n) := ⟨_, rfl⟩
  have hMs : M.size = cp * 2 := by
    rw [hM, Array.size_append, size_zeroCells, size_zeroCells]
    show n * 2 + (cp - n) * 2 = cp * 2
    omega
  rw [← hM] at happ
  clear hM
  have hrow : RowRn (w.drew.alloc (.cells M 48)) w.heap.size (.slice (some ⟨w.heap.size, 0, none⟩) 0 cp) [] :=
    ⟨rfl, .inr ⟨w.heap.size, cp, M, rfl, Nat.le_refl _, heap_alloc_new w.drew _, Nat.zero_le _, hg2, hMs, by simp; rfl⟩⟩
  have hbel : Below w.heap.size w (w.drew.alloc (.cells M 48)) := ((Below.refl _ _).drew).alloc (Nat.le_refl _) _
  have Hrow := Lib.hid hrow; have Hbel := Lib.hid hbel
  clear hrow hbel hcp hg2 hMs
  go_enter Try.func66, Try.ntmps66
  go_wp2_with (at_builtin; refine Lib.wpList_append_run _ rfl _ _ _ _ rfl _ _ rfl rfl _ _ happ ?_)
  go_wp2
  go_ret
  exact ⟨_, rfl, Hrow.out, Hbel.out⟩

end Go.Proofs.Ytmcapcclnkicbaa
