/- Stacks of packets: put, take; whether stops fit. -/
import Derived.Test.YtmdcpigobfhckaaFP
import Derived.Test.YtmdcpigobfhckaaQW
namespace Go.Proofs.Ytmdcpigobfhckaa
open Go.RowKit

set_option maxHeartbeats 400000 in
theorem fits9_any (n xa xb : Int) (w : World) :
    Calls Try.prog 98 #[.agg #[.int .i64 xa, .int .i64 xb], .int .i64 n] w (Gives (.bool (fitF n xa xb)) w) := by
  have Hb := Lib.hid (((Below.refl w.heap.size w).alloc (Nat.le_refl _) (.cells #[.int .i64 xa, .int .i64 xb] 84)))
  have He := Lib.hid (show fitF n xa xb = (decide (0 ≤ xa) && decide (xa < xb) && decide (xb ≤ n)) from rfl)
  by_cases q1 : 0 ≤ xa
  · by_cases q2 : xa < xb
    · go_enter Try.func98, Try.ntmps98
      go_wp2
      go_ret
      exact ⟨ret_bool (by rw [He.out, decide_eq_true q1, decide_eq_true q2]; rfl), Hb.out⟩
    · have hd : decide (xa < xb) = false := by simp only [decide_eq_false_iff_not]; omega
      go_enter Try.func98, Try.ntmps98
      go_wp2
      go_ret
      exact ⟨ret_bool (by rw [He.out, decide_eq_true q1, hd]; rfl), Hb.out⟩
  · have hd : decide (0 ≤ xa) = false := by simp only [decide_eq_false_iff_not]; omega
    go_enter Try.func98, Try.ntmps98
    go_wp2
    go_ret
    exact ⟨ret_bool (by rw [He.out, hd]; rfl), Hb.out⟩

/-- The stack X: its packets, its moves. -/
structure StK (w : World) (X F1 : Nat) (v : Value) (l : List Pk) (mv : Int) : Prop where
  st : Whole w X 89 #[v, .int .i64 mv]
  own : OwnK w F1 v l

theorem OwnK.below {w w' : World} {F1 : Nat} {v : Value} {l : List Pk} (h : OwnK w F1 v l) (hb : Below w.heap.size w w') : OwnK w' F1 v l := own_keep h hb
theorem StK.below {w w' : World} {X F1 : Nat} {v : Value} {l : List Pk} {mv : Int} (h : StK w X F1 v l mv) (hb : Below w.heap.size w w') : StK w' X F1 v l mv := ⟨h.st.below hb h.st.lt, h.own.below hb⟩

def PutOut (F1 X : Nat) (v : Value) (l : List Pk) (p : Pk) (mv : Int) (w : World) (e : Ending) (w' : World) : Prop :=
  e = .returned (.tuple #[]) ∧ ∃ v', StK w' X F1 v' (l ++ [p]) mv ∧
    (v'.ownBlock = v.ownBlock ∨ ∃ k, v'.ownBlock = some k ∧ w.heap.size ≤ k) ∧ Touch (fun k => k = X ∨ v.ownBlock = some k) w w'

set_option maxRecDepth 100000 in
set_option maxHeartbeats 1000000 in
theorem put_any (F1 X : Nat) (v : Value) (l : List Pk) (x y i m : Int) (mv : Int) (w : World) (hs : StK w X F1 v l mv) (hl : l.length ≤ 500) (hXF : X < F1) (hF : F1 ≤ w.heap.size) :
    Calls Try.prog 108 #[.pointer (some ⟨X, 0, none⟩), .agg #[.int .i64 x, .int .i64 y, .int .i64 i, .int .i64 m]] w (PutOut F1 X v l ⟨x, y, i, m⟩ mv w) := by
  obtain ⟨i0, hi0, hz0, hz1, hz2⟩ := info_parts infoK
  obtain ⟨hwh, hown⟩ := hs
  unfold OwnK at hown
  have hX := hwh.lt
  have hx := hwh.cell (i := 0) rfl
  have hf := hwh.free 0
  have hno : v.ownBlock ≠ some X := fun h => by have := (hown.lt X h).1; omega
  have hml : l.length + 1 ≤ maxLen := by unfold maxLen; omega
  have Hv := Lib.hid (OwnK.slice hown)
  go_enter Try.func108, Try.ntmps108
  go_wp2_with fail
  go_region_law (first | (refine step_append_lies _ (by rfl) _ _ _ (by rfl) F1 93 i0 _ 4 32 Try.underlying78 hi0 hz0 hz1 hz2 rfl (by omega) v l.length (encK l) (by rfl) (by first | exact ((hown.alloc _).alloc _).drew | exact ((hown.alloc _).drew).alloc _) ⟨w.heap.size + 1, 0, none⟩ 1 1 [.int .i64 x, .int .i64 y, .int .i64 i, .int .i64 m] (by rfl) (by rfl) (by first | exact news2d w _ #[.int .i64 x, .int .i64 y, .int .i64 i, .int .i64 m] 93 | exact news2 w _ #[.int .i64 x, .int .i64 y, .int .i64 i, .int .i64 m] 93) (by simp [Value.oneCell']) (by omega) hml (by omega) (by simp; omega) (w.heap.size + 2) (by simp) ?_; intro gg cap2 w1 hown1 hgrow hat hlt; have hw1 := push_whole (w := w) (k := 2) hgrow (by simp) (fun j hj => (Below.heap_alloc _ _ j (by simp; omega)).trans (Below.heap_alloc w _ j hj)) hwh hno; have hc1 := hw1.cell (i := 0) rfl; have hf1 := hw1.free 0))
  all_goals
    have hw2 := hw1.set 0 (.slice (some ⟨gg, 0, none⟩) (l.length + 1) cap2)
    have ht := push_touch (w := w) (X := X) (k := 2) hgrow (by simp) ⟨rfl, rfl, rfl, fun j hj => (Below.heap_alloc _ _ j (by simp; omega)).trans (Below.heap_alloc w _ j hj)⟩ hwh (i := 0) (u := .slice (some ⟨gg, 0, none⟩) (l.length + 1) cap2)
    have hlen : (l ++ [(⟨x, y, i, m⟩ : Pk)]).length = l.length + 1 := by simp
    have henc := encK_snoc l ⟨x, y, i, m⟩
    have hgX : gg ≠ X := by
      rcases hat with h | h
      · rintro rfl; exact hno h
      · omega
    have hrow : RowK (w1.setCell ⟨X, 0, none⟩ (.slice (some ⟨gg, 0, none⟩) (l.length + 1) cap2)) F1 gg cap2 (l ++ [(⟨x, y, i, m⟩ : Pk)]) :=
      (RowK.of_own (by unfold OwnK; rw [hlen, henc]; exact hown1)).kept (Below.heap_setCell _ _ _ _ hgX)
    have Hrow := Lib.hid hrow.own
    have Ht := Lib.hid ht
    have Hw2 := Lib.hid hw2
    have Hat := Lib.hid hat
    have Hlen := Lib.hid hlen
    generalize w1.setCell ⟨X, 0, none⟩ (.slice (some ⟨gg, 0, none⟩) (l.length + 1) cap2) = w3 at *
    clear hrow ht hw2 hw1 hown1 hgrow hat henc hlen hc1 hf1 hx hf hwh hown
    go_wp2
    go_end0
    refine ⟨rfl, _, ⟨Hw2.out, by have h := Hrow.out; rw [Hlen.out] at h; exact h⟩, ?_, Ht.out⟩
    rcases Hat.out with h | h
    · exact .inl (by rw [h]; rfl)
    · exact .inr ⟨gg, rfl, by omega⟩

def TakeOut (F1 X : Nat) (v : Value) (l : List Pk) (p : Pk) (mv : Int) (w : World) (e : Ending) (w' : World) : Prop :=
  e = .returned (.agg #[.int .i64 p.a, .int .i64 p.b, .int .i64 p.i, .int .i64 p.m]) ∧ ∃ v', StK w' X F1 v' l mv ∧ v'.ownBlock = v.ownBlock ∧ Touch (fun k => k = X) w w'

set_option maxRecDepth 100000 in
set_option maxHeartbeats 1000000 in
theorem take_any (F1 X : Nat) (v : Value) (l : List Pk) (p : Pk) (mv : Int) (w : World) (hs : StK w X F1 v (l ++ [p]) mv) (hl : l.length ≤ 500) (hXF : X < F1) :
    Calls Try.prog 113 #[.pointer (some ⟨X, 0, none⟩)] w (TakeOut F1 X v l p mv w) := by
  obtain ⟨hwh, hown⟩ := hs
  obtain ⟨g, cap, rfl, hrow⟩ := hown.row (by simp)
  have hX := hwh.lt
  have hlen : (l ++ [p]).length = l.length + 1 := by simp
  have hgl := hrow.lt
  have hgx : g ≠ X := by have := hrow.base; omega
  obtain ⟨c0, c1, c2, c3⟩ := hrow.cells (i := l.length) (by simp)
  have hp : (l ++ [p]).getD l.length pk0 = p := by simp [List.getD]
  rw [hp] at c0 c1 c2 c3
  obtain ⟨xa, xb, xi, xm⟩ := p
  have hcap : l.length + 1 ≤ cap := by have := hrow.len; omega
  have HR := Lib.hid hrow
  rw [hlen] at hwh
  have HW := Lib.hid hwh
  clear hrow hown hp
  have hx := HW.out.cell (i := 0) rfl
  have hf := HW.out.free 0
  have hl0 : (0 : Int) ≤ (l.length : Int) := Int.natCast_nonneg _
  have hlw : ((l.length + 1 : Nat) : Int) - 1 = (l.length : Int) := by omega
  have HS : StK (w.setCell ⟨X, 0, none⟩ (.slice (some ⟨g, 0, none⟩) l.length cap)) X F1 (.slice (some ⟨g, 0, none⟩) l.length cap) l mv := by
    refine ⟨HW.out.set 0 _, ?_⟩
    have h := ((HR.out.take l.length).kept (w' := w.setCell ⟨X, 0, none⟩ (.slice (some ⟨g, 0, none⟩) l.length cap)) (Below.heap_setCell _ _ _ _ hgx)).own
    rw [List.take_left] at h
    exact h
  have HT : Touch (fun k => k = X) w (w.setCell ⟨X, 0, none⟩ (.slice (some ⟨g, 0, none⟩) l.length cap)) := Touch.setCell (S := fun k => k = X) (Touch.refl _ w) (a := ⟨X, 0, none⟩) rfl _
  have HS' := Lib.hid HS
  have HT' := Lib.hid HT
  clear hwh HS HT
  go_enter Try.func113, Try.ntmps113
  go_wp2
  have hb : ∀ (c : Array Value), Below (w.setCell ⟨X, 0, none⟩ (.slice (some ⟨g, 0, none⟩) l.length cap)).heap.size (w.setCell ⟨X, 0, none⟩ (.slice (some ⟨g, 0, none⟩) l.length cap)) (((w.setCell ⟨X, 0, none⟩ (.slice (some ⟨g, 0, none⟩) l.length cap)).alloc (.cells c 93)).alloc (.cells c 93)) := fun c => ((Below.refl _ _).alloc (Nat.le_refl _) _).alloc (by simp) _
  exact bodyPost_ret (v := aggK ⟨xa, xb, xi, xm⟩) (by simp [aggK, results, Try.results113, go_sem]) rfl ⟨rfl, _, HS'.out.below (hb _), rfl, HT'.out.trans (Touch.of_below (hb _))⟩

end Go.Proofs.Ytmdcpigobfhckaa
