/- The planner: what the map of planners calls for a gate. -/
import Derived.Test.YthhllpnbmelidaaG1
import Derived.Test.YthhllpnbmelidaaGS
import Derived.Deep.RegionHeld3
namespace Go.Proofs.Ythhllpnbmelidaa
open Go.RowKit
set_option linter.unusedVariables false
set_option linter.unusedSimpArgs false

theorem takeH {P : Program} {ops : Array Oper} {Q : Exit → Act → World → Prop} {S : World → Prop} {md : Region.Mode} {i : Nat} {d : Tmp} {oi : Oper} {v : Value} {fuel : Nat} {listed : Array Bool} {a : Act} {w : World} (hi : ops[i]? = some oi) (hd : oi.dst = some d)
    (hs : Region.noSelect ops = true) (hf : Region.free md ops listed i = true) (hr : (Region.ready md ops listed).contains i = true)
    (hQ : ∀ c (a : Act) d v w, Q (.panic c) (a.put (some d) v) w → Q (.panic c) a w) (hy : YieldsIf P ops S oi v a) (hS : S w)
    (h : wpAnyH P md ops Q S fuel (listed.setIfInBounds i true) (a.put (some d) v) w) : wpAnyH P md ops Q S (fuel + 1) listed a w :=
  wpAnyH_take hi hs hf hr (fun c a w h' => by rw [hd] at h'; exact hQ _ _ _ _ _ h') hy hS (by rw [hd]; exact h)
theorem with_QH {P : Program} {ops : Array Oper} {Q : Exit → Act → World → Prop} {S : World → Prop} {md : Region.Mode} {fuel : Nat} {listed : Array Bool} {a : Act} {w : World} (hQ : ∀ c (a : Act) d v w, Q (.panic c) (a.put (some d) v) w → Q (.panic c) a w)
    (h : ∀ Q' : Exit → Act → World → Prop, (∀ c (a : Act) d v w, Q' (.panic c) (a.put (some d) v) w → Q' (.panic c) a w) → (∀ a w, Q .normal a w → Q' .normal a w) → wpAnyH P md ops Q' S fuel listed a w) : wpAnyH P md ops Q S fuel listed a w :=
  h Q hQ (fun _ _ h => h)
/-- What the planner's boxes hold. -/
def PlS (wb b1 b2 b3 pr t : Nat) (w' : World) : Prop := w'.cell? ⟨b1, 0, none⟩ = some (.pointer (some ⟨wb, 0, none⟩)) ∧ w'.cell? ⟨b2, 0, none⟩ = some (.slice (some ⟨pr, 0, none⟩) 4 4) ∧ w'.cell? ⟨b3, 0, none⟩ = some (.int .i64 t)

set_option maxRecDepth 100000 in
set_option maxHeartbeats 4000000 in
theorem planner_any (blk : Int → Nat) (wb b1 b2 b3 pr t : Nat) (v vp : Value) (l : List Gt) (ps : List Int) (free : Int) (k : Nat) (s : List Int) (w : World) (hW : WayAt w wb v vp l ps free) (hfree : 0 ≤ free ∧ free ≤ 999) (hp : Pas l ((k : Int) :: s)) (hs : PlansAt w blk l free s) (hlen : s.length ≤ 9)
    (h1 : w.cell? ⟨b1, 0, none⟩ = some (.pointer (some ⟨wb, 0, none⟩))) (h2 : w.cell? ⟨b2, 0, none⟩ = some (.slice (some ⟨pr, 0, none⟩) 4 4)) (h3 : w.cell? ⟨b3, 0, none⟩ = some (.int .i64 t)) (ht : t < 4)
    (hr : w.cell? ⟨pr, t, none⟩ = some (.pointer (ptrA blk s))) (hfz : w.frozen? ⟨pr, t, none⟩ = false) (n1 : b1 ≠ pr) (n2 : b2 ≠ pr) (n3 : b3 ≠ pr) :
    Calls Try.prog 101 #[.int .i64 k, .pointer (some ⟨b1, 0, none⟩), .pointer (some ⟨b2, 0, none⟩), .pointer (some ⟨b3, 0, none⟩)] w fun e w' =>
      (∃ u, e = .returned u) ∧ ∃ w1, Below w.heap.size w w1 ∧ Whole w1 w.heap.size 86 (planC blk l free k s) ∧ w' = w1.setCell ⟨pr, t, none⟩ (.pointer (some ⟨w.heap.size, 0, none⟩)) := by
  have HP := Lib.hid (fun (w' : World) (hb : Below w.heap.size w w') => plan_any blk wb v vp l ps free k s w' (hW.below hb) hfree hp (PlansAt.below hb hs) hlen)
  have hprl := World.block_lt_of_cell? _ _ hr
  have t0 : (0 : Int) ≤ (t : Int) := Int.natCast_nonneg _
  have t4 : (t : Int) < 4 := by omega
  have HS := Lib.hid (fun (w' : World) (hb : Below w.heap.size w w') => (show w'.cell? ⟨b1, 0, none⟩ = some (.pointer (some ⟨wb, 0, none⟩)) ∧ w'.cell? ⟨b2, 0, none⟩ = some (.slice (some ⟨pr, 0, none⟩) 4 4) ∧ w'.cell? ⟨b3, 0, none⟩ = some (.int .i64 t) from ⟨keepCell hb h1, keepCell hb h2, keepCell hb h3⟩))
  have HSset := Lib.hid (fun (w' : World) (u : Value) (h : w'.cell? ⟨b1, 0, none⟩ = some (.pointer (some ⟨wb, 0, none⟩)) ∧ w'.cell? ⟨b2, 0, none⟩ = some (.slice (some ⟨pr, 0, none⟩) 4 4) ∧ w'.cell? ⟨b3, 0, none⟩ = some (.int .i64 t)) =>
    (show (w'.setCell ⟨pr, t, none⟩ u).cell? ⟨b1, 0, none⟩ = some (.pointer (some ⟨wb, 0, none⟩)) ∧ (w'.setCell ⟨pr, t, none⟩ u).cell? ⟨b2, 0, none⟩ = some (.slice (some ⟨pr, 0, none⟩) 4 4) ∧ (w'.setCell ⟨pr, t, none⟩ u).cell? ⟨b3, 0, none⟩ = some (.int .i64 t) from
      ⟨(World.cell?_setCell_other _ _ _ _ (by intro q; injection q with q; first | exact n1 q | exact n1 q.symm)).trans h.1, (World.cell?_setCell_other _ _ _ _ (by intro q; injection q with q; first | exact n2 q | exact n2 q.symm)).trans h.2.1, (World.cell?_setCell_other _ _ _ _ (by intro q; injection q with q; first | exact n3 q | exact n3 q.symm)).trans h.2.2⟩))
  have HR := Lib.hid (fun (w' : World) (hb : Below w.heap.size w w') => (show w'.cell? ⟨pr, t, none⟩ = some (.pointer (ptrA blk s)) ∧ w'.frozen? ⟨pr, t, none⟩ = false from ⟨keepCell hb hr, (World.frozen?_of_block (a := ⟨pr, t, none⟩) (hb.block pr hprl)).trans hfz⟩))
  clear hW hp hs n1 n2 n3
  go_enter Try.func101, Try.ntmps101
  go_wp2_with fail
  obtain ⟨r0, z0⟩ := HR.out _ (Below.refl _ _).drew
  refine wp_region_held_drew (S := PlS wb b1 b2 b3 pr t) (by kernel_rfl) (HS.out _ (Below.refl _ _).drew) (fun hHeld => ?_)
  change wpAnyH _ _ _ _ _ 11 #[false, false, false, false, false, false, false, false, false, false, false] _ (World.drew _)
  refine with_QH (fun _ _ _ _ _ h => h) (fun Q hQ hN => ?_)
  refine takeH (i := 0) (d := 5) (v := .slice (some ⟨pr, 0, none⟩) 4 4) rfl rfl (by kernel_rfl) (by kernel_rfl) (by kernel_rfl) hQ (Or.inl ⟨by rfl, fun w' hSw => by first | rfl | (obtain ⟨s1, s2, s3⟩ := hSw; first | (go_simp; done) | (go_simp; rfl))⟩) hHeld ?_
  simp only [Act.put, List.setIfInBounds_toArray, List.set_cons_zero, List.set_cons_succ]
  refine takeH (i := 1) (d := 6) (v := .int .i64 (t : Nat)) rfl rfl (by kernel_rfl) (by kernel_rfl) (by kernel_rfl) hQ (Or.inl ⟨by rfl, fun w' hSw => by first | rfl | (obtain ⟨s1, s2, s3⟩ := hSw; first | (go_simp; done) | (go_simp; rfl))⟩) hHeld ?_
  simp only [Act.put, List.setIfInBounds_toArray, List.set_cons_zero, List.set_cons_succ]
  refine takeH (i := 2) (d := 7) (v := .pointer (some ⟨wb, 0, none⟩)) rfl rfl (by kernel_rfl) (by kernel_rfl) (by kernel_rfl) hQ (Or.inl ⟨by rfl, fun w' hSw => by first | rfl | (obtain ⟨s1, s2, s3⟩ := hSw; first | (go_simp; done) | (go_simp; rfl))⟩) hHeld ?_
  simp only [Act.put, List.setIfInBounds_toArray, List.set_cons_zero, List.set_cons_succ]
  refine takeH (i := 3) (d := 8) (v := .int .i64 (k : Nat)) rfl rfl (by kernel_rfl) (by kernel_rfl) (by kernel_rfl) hQ (Or.inl ⟨by rfl, fun w' hSw => by first | rfl | (obtain ⟨s1, s2, s3⟩ := hSw; first | (go_simp; done) | (go_simp; rfl))⟩) hHeld ?_
  simp only [Act.put, List.setIfInBounds_toArray, List.set_cons_zero, List.set_cons_succ]
  refine takeH (i := 4) (d := 9) (v := .slice (some ⟨pr, 0, none⟩) 4 4) rfl rfl (by kernel_rfl) (by kernel_rfl) (by kernel_rfl) hQ (Or.inl ⟨by rfl, fun w' hSw => by first | rfl | (obtain ⟨s1, s2, s3⟩ := hSw; first | (go_simp; done) | (go_simp; rfl))⟩) hHeld ?_
  simp only [Act.put, List.setIfInBounds_toArray, List.set_cons_zero, List.set_cons_succ]
  refine takeH (i := 5) (d := 10) (v := .int .i64 (t : Nat)) rfl rfl (by kernel_rfl) (by kernel_rfl) (by kernel_rfl) hQ (Or.inl ⟨by rfl, fun w' hSw => by first | rfl | (obtain ⟨s1, s2, s3⟩ := hSw; first | (go_simp; done) | (go_simp; rfl))⟩) hHeld ?_
  simp only [Act.put, List.setIfInBounds_toArray, List.set_cons_zero, List.set_cons_succ]
  refine takeH (i := 6) (d := 11) (v := .pointer (some ⟨pr, t, none⟩)) rfl rfl (by kernel_rfl) (by kernel_rfl) (by kernel_rfl) hQ (Or.inl ⟨by rfl, fun w' hSw => by first | rfl | (obtain ⟨s1, s2, s3⟩ := hSw; first | (go_simp; done) | (go_simp; rfl))⟩) hHeld ?_
  simp only [Act.put, List.setIfInBounds_toArray, List.set_cons_zero, List.set_cons_succ]
  refine wpAnyH_ready (rs := [7]) (by kernel_rfl) (by simp) ?_
  refine AllReadyH.cons rfl (fun K hK => ?_) AllReadyH.nil
  go_simp
  refine hK.out _ _ (hHeld) (fun hHeld => ?_)
  try simp only [Act.put, List.setIfInBounds_toArray, List.set_cons_zero, List.set_cons_succ]
  clear hK K
  refine wpAnyH_ready (rs := [8]) (by kernel_rfl) (by simp) ?_
  refine AllReadyH.cons rfl (fun K hK => ?_) AllReadyH.nil
  go_simp
  go_at_call 102
  refine (HP.out _ (Below.refl _ _).drew).mono ?_; rintro e w1 ⟨rfl, hN1, hb1⟩
  have HB1 := Lib.hid ((Below.refl w.heap.size w).drew.trans hb1)
  obtain ⟨r1, z1⟩ := HR.out _ HB1.out
  have HN1 := Lib.hid hN1
  clear hN1 hb1
  refine hK.out _ _ (HS.out _ HB1.out) (fun hHeld => ?_)
  try simp only [Act.put, List.setIfInBounds_toArray, List.set_cons_zero, List.set_cons_succ]
  clear hK K
  refine takeH (i := 9) (d := 14) (v := .pointer (some ⟨pr, t, none⟩)) rfl rfl (by kernel_rfl) (by kernel_rfl) (by kernel_rfl) hQ (Or.inl ⟨by rfl, fun w' hSw => by first | rfl | (obtain ⟨s1, s2, s3⟩ := hSw; first | (go_simp; done) | (go_simp; rfl))⟩) hHeld ?_
  simp only [Act.put, List.setIfInBounds_toArray, List.set_cons_zero, List.set_cons_succ]
  refine wpAnyH_ready (rs := [10]) (by kernel_rfl) (by simp) ?_
  refine AllReadyH.cons rfl (fun K hK => ?_) AllReadyH.nil
  go_simp
  refine hK.out _ _ (HSset.out _ _ hHeld) (fun hHeld => ?_)
  try simp only [Act.put, List.setIfInBounds_toArray, List.set_cons_zero, List.set_cons_succ]
  clear hK K
  refine wpAnyH_done (by kernel_rfl) (hN _ _ ?_) _
  go_wp2
  go_end0
  exact ⟨⟨_, rfl⟩, w1, HB1.out, HN1.out, rfl⟩

end Go.Proofs.Ythhllpnbmelidaa
