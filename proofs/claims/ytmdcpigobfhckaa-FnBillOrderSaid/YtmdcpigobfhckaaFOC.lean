/- cmp.Compare, cmp.Or, and what parcels are put in order by. -/
import Derived.Test.YtmdcpigobfhckaaFOP
import Derived.Test.YtmdcpigobfhckaaFA
import Derived.Test.YtmdcpigobfhckaaHD
import Derived.WalkKit
import Derived.WalkSpells
import Derived.WalkLawsBesides
import Derived.IntWalk
import Derived.Outline
import Derived.StillTailTactics
import Derived.Shelf.SlSortCmp.InsertionK
namespace Go.Proofs.Ytmdcpigobfhckaa
open Go.RowKit Go.Sort

def cmpI (x y : Int) : Int := if x < y then -1 else if y < x then 1 else 0
def orI (x y : Int) : Int := if x = 0 then y else x
def cmpP (r s : Fr) : Int := orI (cmpI r.a s.a) (cmpI s.b r.b)

set_option maxHeartbeats 400000 in
theorem compare_any (x y : Int) (w : World) : Calls Try.prog 84 #[.int .i64 x, .int .i64 y] w fun e w' => e = .returned (.int .i64 (cmpI x y)) ∧ w' = w := by
  by_cases h1 : x < y
  · have He := Lib.hid (show cmpI x y = -1 by unfold cmpI; rw [if_pos h1])
    go_enter Try.func84, Try.ntmps84
    go_wp2
    go_ret
    exact ⟨ret_int He.out.symm, rfl⟩
  · by_cases h2 : y < x
    · have He := Lib.hid (show cmpI x y = 1 by unfold cmpI; rw [if_neg h1, if_pos h2])
      go_enter Try.func84, Try.ntmps84
      go_wp2
      go_ret
      exact ⟨ret_int He.out.symm, rfl⟩
    · have He := Lib.hid (show cmpI x y = 0 by unfold cmpI; rw [if_neg h1, if_neg h2])
      go_enter Try.func84, Try.ntmps84
      go_wp2
      go_ret
      exact ⟨ret_int He.out.symm, rfl⟩

set_option maxHeartbeats 400000 in
theorem or_any (b : Nat) (x y : Int) (w : World) (h0 : w.cell? ⟨b, 0, none⟩ = some (.int .i64 x)) (h1 : w.cell? ⟨b, 1, none⟩ = some (.int .i64 y)) :
    Calls Try.prog 83 #[.slice (some ⟨b, 0, none⟩) 2 2] w fun e w' => e = .returned (.int .i64 (orI x y)) ∧ w' = w := by
  by_cases hx : x = 0
  · subst hx
    by_cases hy : y = 0
    · subst hy
      go_enter Try.func83, Try.ntmps83
      go_wp2
      refine wp_loop_rounds 3 ?_
      rw [rounds_succ]
      go_wp2
      rw [rounds_succ]
      go_wp2
      rw [rounds_succ]
      go_wp2
      go_ret
      exact ⟨rfl, rfl⟩
    · have hd : (y != 0) = true := by simpa using hy
      go_enter Try.func83, Try.ntmps83
      go_wp2
      refine wp_loop_rounds 3 ?_
      rw [rounds_succ]
      go_wp2
      rw [rounds_succ]
      go_wp2
      go_ret
      exact ⟨rfl, rfl⟩
  · have hd : (x != 0) = true := by simpa using hx
    have He := Lib.hid (show orI x y = x by unfold orI; rw [if_neg hx])
    go_enter Try.func83, Try.ntmps83
    go_wp2
    refine wp_loop_rounds 3 ?_
    rw [rounds_succ]
    go_wp2
    go_ret
    exact ⟨ret_int He.out.symm, rfl⟩

set_option maxRecDepth 100000 in
set_option maxHeartbeats 1000000 in
theorem cmpP_any (xa xb xm ya yb ym : Int) (w : World) :
    Calls Try.prog 82 #[.agg #[.int .i64 xa, .int .i64 xb, .int .i64 xm], .agg #[.int .i64 ya, .int .i64 yb, .int .i64 ym]] w fun e w' =>
      e = .returned (.int .i64 (cmpP ⟨xa, xb, xm⟩ ⟨ya, yb, ym⟩)) ∧ ∃ q os', w' = grow (w.drewN q) os' := by
  have d0 : ((w.alloc (.cells #[.int .i64 xa, .int .i64 xb, .int .i64 xm] 41)).alloc (.cells #[.int .i64 ya, .int .i64 yb, .int .i64 ym] 41)).cell? ⟨w.heap.size, 0, none⟩ = some (.int .i64 xa) := by go_simp
  have d1 : ((w.alloc (.cells #[.int .i64 xa, .int .i64 xb, .int .i64 xm] 41)).alloc (.cells #[.int .i64 ya, .int .i64 yb, .int .i64 ym] 41)).cell? ⟨w.heap.size, 1, none⟩ = some (.int .i64 xb) := by go_simp
  have e0 : ((w.alloc (.cells #[.int .i64 xa, .int .i64 xb, .int .i64 xm] 41)).alloc (.cells #[.int .i64 ya, .int .i64 yb, .int .i64 ym] 41)).cell? ⟨w.heap.size + 1, 0, none⟩ = some (.int .i64 ya) := by go_simp
  have e1 : ((w.alloc (.cells #[.int .i64 xa, .int .i64 xb, .int .i64 xm] 41)).alloc (.cells #[.int .i64 ya, .int .i64 yb, .int .i64 ym] 41)).cell? ⟨w.heap.size + 1, 1, none⟩ = some (.int .i64 yb) := by go_simp
  have HW := Lib.hid (show ((w.alloc (.cells #[.int .i64 xa, .int .i64 xb, .int .i64 xm] 41)).alloc (.cells #[.int .i64 ya, .int .i64 yb, .int .i64 ym] 41)) = grow w #[.cells #[.int .i64 xa, .int .i64 xb, .int .i64 xm] 41, .cells #[.int .i64 ya, .int .i64 yb, .int .i64 ym] 41] by
    rw [alloc_eq_grow, alloc_eq_grow, grow_grow]; rfl)
  go_enter Try.func82, Try.ntmps82
  go_wp2
  generalize (w.alloc (.cells #[.int .i64 xa, .int .i64 xb, .int .i64 xm] 41)).alloc (.cells #[.int .i64 ya, .int .i64 yb, .int .i64 ym] 41) = w0 at *
  go_still_tail 10, (by kernel_rfl)
  still_call (compare_any xa ya _)
  repeat still_step
  still_call (compare_any yb xb _)
  repeat still_step
  refine wpStill_nil ?_
  change wpList _ _ _ _ _ w0.drew
  have HD := Lib.hid (show w0.drew = grow (w.drewN 1) #[.cells #[.int .i64 xa, .int .i64 xb, .int .i64 xm] 41, .cells #[.int .i64 ya, .int .i64 yb, .int .i64 ym] 41] by rw [HW.out]; rfl)
  have HP := Lib.hid (show cmpP ⟨xa, xb, xm⟩ ⟨ya, yb, ym⟩ = orI (cmpI xa ya) (cmpI yb xb) from rfl)
  clear d0 d1 e0 e1 HW
  generalize w0.drew = w2 at *
  generalize cmpI xa ya = x at *
  generalize cmpI yb xb = y at *
  go_wp2_with fail
  refine (or_any w2.heap.size x y _ (by go_simp) (by go_simp)).mono ?_; rintro e w3 ⟨rfl, rfl⟩
  go_wp2
  go_ret
  exact ⟨ret_int HP.out.symm, 1, _, by rw [HD.out, alloc_eq_grow, grow_grow]⟩

end Go.Proofs.Ytmdcpigobfhckaa
