/- The planner: what the map of planners calls for a gate. -/
import Derived.Test.YthhllpnbmelidaaG1
import Derived.Test.YthhllpnbmelidaaGS
import Derived.Deep.RegionHeld3
namespace Go.Proofs.Ythhllpnbmelidaa
open Go.RowKit
set_option linter.unusedVariables false
set_option linter.unusedSimpArgs false

set_option maxRecDepth 100000 in
set_option maxHeartbeats 4000000 in
theorem planner_any (blk : Int → Nat) (wb b1 b2 b3 pr t : Nat) (v vp : Value) (l : List Gt) (ps : List Int) (free : Int) (k : Nat) (s : List Int) (w : World) (hW : WayAt w wb v vp l ps free) (hfree : 0 ≤ free ∧ free ≤ 999) (hp : Pas l ((k : Int) :: s)) (hs : PlansAt w blk l free s) (hlen : s.length ≤ 9)
    (h1 : w.cell? ⟨b1, 0, none⟩ = some (.pointer (some ⟨wb, 0, none⟩))) (h2 : w.cell? ⟨b2, 0, none⟩ = some (.slice (some ⟨pr, 0, none⟩) 4 4)) (h3 : w.cell? ⟨b3, 0, none⟩ = some (.int .i64 t)) (ht : t < 4)
    (hr : w.cell? ⟨pr, t, none⟩ = some (.pointer (ptrA blk s))) (hfz : w.frozen? ⟨pr, t, none⟩ = false) (n1 : b1 ≠ pr) (n2 : b2 ≠ pr) (n3 : b3 ≠ pr) :
    Calls Try.prog 101 #[.int .i64 k, .pointer (some ⟨b1, 0, none⟩), .pointer (some ⟨b2, 0, none⟩), .pointer (some ⟨b3, 0, none⟩)] w fun e w' =>
      (∃ u, e = .returned u) ∧ ∃ w1, Below w.heap.size w w1 ∧ Whole w1 w.heap.size 86 (planC blk l free k s) ∧ w' = w1.setCell ⟨pr, t, none⟩ (.pointer (some ⟨w.heap.size, 0, none⟩)) := by
  have HP := Lib.hid (fun (w' : World) (hb : Below w.heap.size w w') => plan_any blk wb v vp l ps free k s w' (hW.below hb) hfree hp (PlansAt.below hb hs) hlen)
  have hprl := World.block_lt_of_cell? _ _ hr
  have t0 : (0 : Int) ≤ (t : Int) := Int.natCast_nonneg _
  have t4 : (t : Int) < 4 := by omega
  have HS := Lib.hid (fun (w' : World) (hb : Below w.heap.size w w') => (show w'.cell? ⟨b1, 0, none⟩ = some (.pointer (some ⟨wb, 0, none⟩)) ∧ w'.cell? ⟨b2, 0, none⟩ = some (.slice (some ⟨pr, 0, none⟩) 4 4) ∧ w'.cell? ⟨b3, 0, none⟩ = some (.int .i64 t) from ⟨keepCell hb h1, keepCell hb h2, keepCell hb h3⟩))
  have HSset := Lib.hid (fun (w' : World) (u : Value) (h : w'.cell? ⟨b1, 0, none⟩ = some (.pointer (some ⟨wb, 0, none⟩)) ∧ w'.cell? ⟨b2, 0, none⟩ = some (.slice (some ⟨pr, 0, none⟩) 4 4) ∧ w'.cell? ⟨b3, 0, none⟩ = some (.int .i64 t)) =>
    (show (w'.setCell ⟨pr, t, none⟩ u).cell? ⟨b1, 0, none⟩ = some (.pointer (some ⟨wb, 0, none⟩)) ∧ (w'.setCell ⟨pr, t, none⟩ u).cell? ⟨b2, 0, none⟩ = some (.slice (some ⟨pr, 0, none⟩) 4 4) ∧ (w'.setCell ⟨pr, t, none⟩ u).cell? ⟨b3, 0, none⟩ = some (.int .i64 t) from
      ⟨(World.cell?_setCell_other _ _ _ _ (by intro q; injection q with q; first | exact n1 q | exact n1 q.symm)).trans h.1, (World.cell?_setCell_other _ _ _ _ (by intro q; injection q with q; first | exact n2 q | exact n2 q.symm)).trans h.2.1, (World.cell?_setCell_other _ _ _ _ (by intro q; injection q with q; first | exact n3 q | exact n3 q.symm)).trans h.2.2⟩))
  have HR := Lib.hid (fun (w' : World) (hb : Below w.heap.size w w') => (show w'.cell? ⟨pr, t, none⟩ = some (.pointer (ptrA blk s)) ∧ w'.frozen? ⟨pr, t, none⟩ = false from ⟨keepCell hb hr, (World.frozen?_of_block (a := ⟨pr, t, none⟩) (hb.block pr hprl)).trans hfz⟩))
  clear hW hp hs n1 n2 n3
  go_enter Try.func101, Try.ntmps101
  go_wp2_with fail
  obtain ⟨r0, z0⟩ := HR.out _ (Below.refl _ _).drew
  go_region_held3 (fun w' => w'.cell? ⟨b1, 0, none⟩ = some (.pointer (some ⟨wb, 0, none⟩)) ∧ w'.cell? ⟨b2, 0, none⟩ = some (.slice (some ⟨pr, 0, none⟩) 4 4) ∧ w'.cell? ⟨b3, 0, none⟩ = some (.int .i64 t))
    (first | assumption | exact HS.out _ (Below.refl _ _).drew | exact HSset.out _ _ (by assumption))
    (first | (go_at_call 102; refine (HP.out _ (Below.refl _ _).drew).mono ?_; rintro e w1 ⟨rfl, hN1, hb1⟩; have HB1 := Lib.hid ((Below.refl w.heap.size w).drew.trans hb1); have hsC := HS.out _ HB1.out; obtain ⟨r1, z1⟩ := HR.out _ HB1.out; have HN1 := Lib.hid hN1; clear hN1 hb1))
  go_wp2
  go_end0
  exact ⟨⟨_, rfl⟩, w1, HB1.out, HN1.out, rfl⟩

end Go.Proofs.Ythhllpnbmelidaa
