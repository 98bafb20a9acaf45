/- Heaps of homeTeam: push, empty, first. -/
import Derived.Test.YtmcapcclnkicbabVBR
namespace Go.Proofs.Ytmcapcclnkicbab
open Go.RowKit

/-- A row of the call's own is a slice. -/
theorem own_sliceB {w : World} {F1 : Nat} {v : Value} {l : List Pl} (h : w.ownsRow F1 67 1 v l.length (encB l)) : ∃ ad cap, v = .slice ad l.length cap := by
  obtain ⟨_, h⟩ := h
  rcases h with ⟨rfl, h0⟩ | ⟨g, cap, cur, rfl, _⟩
  · exact ⟨none, 0, by rw [h0]⟩
  · exact ⟨_, cap, rfl⟩

theorem own_rowB {w : World} {F1 : Nat} {v : Value} {l : List Pl} (h : w.ownsRow F1 67 1 v l.length (encB l)) (h0 : 0 < l.length) : ∃ g cap, v = .slice (some ⟨g, 0, none⟩) l.length cap ∧ RowB w F1 g cap l := by
  have h' := h
  obtain ⟨_, h⟩ := h
  rcases h with ⟨rfl, hn⟩ | ⟨g, cap, cur, rfl, _⟩
  · omega
  · exact ⟨g, cap, rfl, RowB.of_own h'⟩

def PushBOut (F1 X : Nat) (v vo tv : Value) (l : List Pl) (p : Pl) (w : World) (e : Ending) (w' : World) : Prop :=
  e = .returned (.tuple #[]) ∧ ∃ v' l', HeapTo l' l'.length ∧ l'.Perm (l ++ [p]) ∧ w'.ownsRow F1 67 1 v' l'.length (encB l') ∧ Whole w' X 60 #[vo, v', tv] ∧
    (v'.ownBlock = v.ownBlock ∨ ∃ k, v'.ownBlock = some k ∧ w.heap.size ≤ k) ∧ Touch (fun k => k = X ∨ v.ownBlock = some k) w w'

set_option maxRecDepth 100000 in
set_option maxHeartbeats 1000000 in
theorem pushB_any (F1 X : Nat) (v vo tv : Value) (l : List Pl) (y : Int) (w : World) (hwh : Whole w X 60 #[vo, v, tv]) (hown : w.ownsRow F1 67 1 v l.length (encB l)) (hh : HeapTo l l.length) (hl : l.length ≤ 50) (hXF : X < F1) (hF : F1 ≤ w.heap.size) :
    Calls Try.prog 37 #[.pointer (some ⟨X, 1, none⟩), .int .i64 y] w (PushBOut F1 X v vo tv l (0, y) w) := by
  obtain ⟨i0, hi0, hz0, hz1, hz2⟩ := info_parts infoB
  have hX := hwh.lt
  have hx := hwh.cell (i := 1) rfl
  have hf := hwh.free 1
  have hno : v.ownBlock ≠ some X := fun h => by have := (hown.lt X h).1; omega
  have hml : l.length + 1 ≤ maxLen := by unfold maxLen; omega
  have Hh := Lib.hid (hh.snoc (0, y))
  have Hv := Lib.hid (own_sliceB hown)
  go_enter Try.func37, Try.ntmps37
  go_wp2_with (at_builtin; refine wpList_append_lies _ rfl _ _ _ rfl F1 67 i0 _ 1 8 Try.underlying56 hi0 hz0 hz1 hz2 rfl (by omega) v l.length (encB l) rfl (hown.alloc _) ⟨w.heap.size, 0, none⟩ 1 1 [.int .i64 y] rfl rfl (news1 w #[.int .i64 y] 67) (by simp [Value.oneCell']) (by omega) hml (by omega) (by simp; omega) (w.heap.size + 1) (by simp) ?_; intro gg cap2 w1 hown1 hgrow hat hlt; have hw1 := push_whole (w := w) (k := 1) hgrow (by simp) (fun j hj => Below.heap_alloc w _ j hj) hwh hno; have hc1 := hw1.cell (i := 1) rfl; have hf1 := hw1.free 1)
  all_goals
    have hw2 := hw1.set 1 (.slice (some ⟨gg, 0, none⟩) (l.length + 1) cap2)
    have ht := push_touch (w := w) (X := X) (k := 1) hgrow (by simp) ⟨rfl, rfl, rfl, fun j hj => Below.heap_alloc w _ j hj⟩ hwh (i := 1) (u := .slice (some ⟨gg, 0, none⟩) (l.length + 1) cap2)
    have hlen : (l ++ [(0, y)]).length = l.length + 1 := by simp
    have henc := encB_snoc l 0 y
    have hgX : gg ≠ X := by
      rcases hat with h | h
      · rintro rfl; exact hno h
      · omega
    have hrow : RowB (w1.setCell ⟨X, 1, none⟩ (.slice (some ⟨gg, 0, none⟩) (l.length + 1) cap2)) F1 gg cap2 (l ++ [(0, y)]) :=
      (RowB.of_own (by rw [hlen, henc]; exact hown1)).kept (Below.heap_setCell _ _ _ _ hgX)
    have hx2 : (w1.setCell ⟨X, 1, none⟩ (.slice (some ⟨gg, 0, none⟩) (l.length + 1) cap2)).cell? ⟨X, 1, none⟩ = some (.slice (some ⟨gg, 0, none⟩) (l ++ [(0, y)]).length cap2) := by rw [hlen]; exact World.cell?_setCell_same _ _ _ hc1
    have hx3 : (w1.setCell ⟨X, 1, none⟩ (.slice (some ⟨gg, 0, none⟩) (l.length + 1) cap2)).cell? ⟨X, 1, none⟩ = some (.slice (some ⟨gg, 0, none⟩) (l.length + 1) cap2) := World.cell?_setCell_same _ _ _ hc1
    have Hrow := Lib.hid hrow
    have Ht := Lib.hid ht
    have Hw2 := Lib.hid hw2
    have Hat := Lib.hid hat
    have Hx2 := Lib.hid hx2
    have Hlen := Lib.hid hlen
    generalize w1.setCell ⟨X, 1, none⟩ (.slice (some ⟨gg, 0, none⟩) (l.length + 1) cap2) = w3 at *
    clear hrow ht hw2 hw1 hown1 hgrow hat henc hx2 hlen hc1 hf1 hx hf hwh hown
    go_wp2_with fail
    refine (riseB_any F1 gg cap2 X (l ++ [(0, y)]) l.length _ Hx2.out (by rw [Hlen.out]; omega) Hrow.out (by rw [Hlen.out]; omega) (by rw [Hlen.out]; exact Hh.out) hgX).mono ?_; rintro e w4 ⟨rfl, l', hh', hp', hr', ht'⟩
    go_wp2
    go_end0
    refine ⟨rfl, _, l', hh', hp', hr'.own, ?_, ?_, ?_⟩
    · rw [hp'.length_eq, Hlen.out]
      exact Whole.keptT Hw2.out ht' (Ne.symm hgX)
    · rcases Hat.out with h | h
      · exact .inl (by rw [h]; rfl)
      · exact .inr ⟨gg, rfl, by omega⟩
    · refine Ht.out.trans2 ht' (fun k hk hlt => ?_)
      subst hk
      rcases Hat.out with h | h
      · exact .inr h
      · omega

end Go.Proofs.Ytmcapcclnkicbab
