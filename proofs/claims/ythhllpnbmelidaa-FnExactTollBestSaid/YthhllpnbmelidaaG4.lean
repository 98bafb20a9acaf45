/- The plans of all trusts. -/
import Derived.Test.YthhllpnbmelidaaG2
import Derived.Test.YthhllpnbmelidaaG3
import Derived.Test.YthhllpnbmelidaaG5
import Derived.Stop.RegionWithIn
import Derived.BigRegionIn
import Derived.Laws.OwnMore
import Derived.Maps.OwnIn
namespace Go.Proofs.Ythhllpnbmelidaa
open Go.RowKit Go.Shelf Go.Maps
attribute [local go_sem] Oper.semAt_some
set_option linter.unusedVariables false
set_option linter.unusedSimpArgs false

theorem plInfo : (Try.prog.info? 84).map (fun i => (i.zero, i.size, i.bytes)) = some (some (.pointer none), 1, 8) := by kernel_rfl
/-- Where all lies: the planners and what they have captured. -/
structure PlPl where
  b1 : Nat
  pr : Nat
  pv : Nat
  mv : Nat
  mb : Nat
  tb : Nat → Nat
/-- What stays as it is while the gates come. -/
structure PlFix (w : World) (wb Bs : Nat) (q : PlPl) (W : World) : Prop where
  c1 : Whole W q.b1 76 #[.pointer (some ⟨wb, 0, none⟩)]
  c2 : Whole W q.pv 82 #[.slice (some ⟨q.pr, 0, none⟩) 4 4]
  c4 : Whole W q.mv 103 #[.map (some q.mb)]
  mp : MapIs W (fnE3 101) q.mb 4 (fun y => if 0 ≤ y ∧ y < 4 then some (pr3 q.b1 q.pv (q.tb y.toNat)) else none)
  c5 : ∀ t, t < 4 → Whole W (q.tb t) 3 #[.int .i64 t]
  lo : q.b1 < Bs ∧ q.pr < Bs ∧ q.pv < Bs ∧ q.mv < Bs ∧ q.mb < Bs ∧ ∀ t, t < 4 → q.tb t < Bs
  lw : w.heap.size ≤ q.pr
  ne : q.b1 ≠ q.pr ∧ q.pv ≠ q.pr ∧ q.mv ≠ q.pr ∧ q.mb ≠ q.pr ∧ ∀ t, t < 4 → q.tb t ≠ q.pr
  fz : ∀ t, W.frozen? ⟨q.pr, t, none⟩ = false
  bel : Below w.heap.size w W
  sz : Bs ≤ W.heap.size
  wB : w.heap.size ≤ Bs
theorem PlFix.touch {w : World} {wb Bs : Nat} {q : PlPl} {W W' : World} (h : PlFix w wb Bs q W) (ht : Touch (fun j => j = q.pr ∨ Bs ≤ j) W W') (hfz : ∀ t, W'.frozen? ⟨q.pr, t, none⟩ = false) : PlFix w wb Bs q W' := by
  obtain ⟨l1, l2, l3, l4, l5, l6⟩ := h.lo
  obtain ⟨n1, n2, n3, n4, n5⟩ := h.ne
  have no : ∀ {j}, j < Bs → j ≠ q.pr → ¬ (j = q.pr ∨ Bs ≤ j) := fun h1 h2 h3 => h3.elim h2 (fun h4 => by omega)
  exact ⟨h.c1.touch8 ht (no l1 n1), h.c2.touch8 ht (no l3 n2), h.c4.touch8 ht (no l4 n3), h.mp.touch8 ht (no l5 n4), fun t h4 => (h.c5 t h4).touch8 ht (no (l6 t h4) (n5 t h4)), h.lo, h.lw, h.ne, hfz,
    h.bel.trans (ht.below (fun j hj => by have := h.lw; have := h.wB; rcases hj with hj | hj <;> omega) h.bel.size), Nat.le_trans h.sz ht.size, h.wB⟩
/-- The plans of the gates from the last j on. -/
structure PlI (l : List Gt) (free : Int) (ps : List Int) (w : World) (wb Bs : Nat) (q : PlPl) (T : Nat → Prop) (pre : List Nat) (W : World) : Prop where
  fix : PlFix w wb Bs q W
  ex : ∃ blk : Int → Nat, (∀ t : Nat, t < 4 → W.cell? ⟨q.pr, t, none⟩ = some (.pointer (ptrA blk (trI l (t : Int) (ps.drop (ps.length - pre.length)))))) ∧
    (∀ t : Nat, t < 4 → PlansAt W blk l free (trI l (t : Int) (ps.drop (ps.length - pre.length)))) ∧ (∀ k ∈ ps.drop (ps.length - pre.length), Bs ≤ blk k ∧ blk k < W.heap.size ∧ ¬ T (blk k))
  nT : ¬ T q.pr
theorem trI_mem {l : List Gt} {t : Int} {s : List Int} {k : Int} (h : k ∈ trI l t s) : k ∈ s := (List.mem_filter.1 h).1
theorem PlI.abide {l : List Gt} {free : Int} {ps : List Int} {w : World} {wb Bs : Nat} {q : PlPl} : Abide Bs (PlI l free ps w wb Bs q) := fun T T' s W W' h ht hT => by
  obtain ⟨blk, h1, h2, h3⟩ := h.ex
  have hp := h.fix.lo.2.1
  have hsz := h.fix.sz
  refine ⟨h.fix.touch (ht.less (fun j hj => .inr hj.1)) (fun t => (World.frozen?_of_block (a := ⟨q.pr, t, none⟩) (ht.block q.pr (by omega) (fun e => by omega))).trans (h.fix.fz t)), ⟨blk, fun t h4 => ?_, fun t h4 => ?_, fun k hk => ⟨(h3 k hk).1, Nat.lt_of_lt_of_le (h3 k hk).2.1 ht.size, fun hT' => ?_⟩⟩, fun hT' => ?_⟩
  · exact (World.cell?_of_block (a := ⟨q.pr, t, none⟩) (ht.block q.pr (by omega) (fun e => by omega))).trans (h1 t h4)
  · exact PlansAt.touch8 ht (fun k hk e => (h3 k (trI_mem hk)).2.2 e.2) (h2 t h4)
  · rcases hT _ hT' with e | e
    · exact (h3 k hk).2.2 e
    · have := (h3 k hk).2.1; omega
  · rcases hT _ hT' with e | e
    · exact h.nT e
    · omega
theorem trI_cons_yes {l : List Gt} {t k : Int} {s : List Int} (h : (gAt l k).b = t) : trI l t (k :: s) = k :: trI l t s := by unfold trI; rw [List.filter_cons_of_pos (by simp [h])]
theorem trI_cons_no {l : List Gt} {t k : Int} {s : List Int} (h : ¬ (gAt l k).b = t) : trI l t (k :: s) = trI l t s := by unfold trI; rw [List.filter_cons_of_neg (by simp [h])]
/-- One gate more. -/
theorem PlI.step {l : List Gt} {free : Int} {ps : List Int} {w : World} {wb Bs : Nat} {q : PlPl} {T : Nat → Prop} {pre : List Nat} {x k s : Nat} {W w1 : World} (h : PlI l free ps w wb Bs q T pre W) (hx : pre.length + x + 1 = ps.length) (hk : ps.getD x 0 = (k : Int)) (hs : (gAt l (k : Int)).b = (s : Int)) (hs4 : s < 4)
    (hasc : Asc ps) (hTl : ∀ j, T j → j < W.heap.size) (blk : Int → Nat)
    (h1 : ∀ t : Nat, t < 4 → W.cell? ⟨q.pr, t, none⟩ = some (.pointer (ptrA blk (trI l (t : Int) (ps.drop (ps.length - pre.length)))))) (h2 : ∀ t : Nat, t < 4 → PlansAt W blk l free (trI l (t : Int) (ps.drop (ps.length - pre.length)))) (h3 : ∀ k ∈ ps.drop (ps.length - pre.length), Bs ≤ blk k ∧ blk k < W.heap.size ∧ ¬ T (blk k))
    (hb : Below W.heap.size W w1) (hN : Whole w1 W.heap.size 86 (planC blk l free k (trI l (s : Int) (ps.drop (x + 1))))) :
    Keep T W (w1.setCell ⟨q.pr, s, none⟩ (.pointer (some ⟨W.heap.size, 0, none⟩))) ∧ PlI l free ps w wb Bs q T (pre ++ [x]) (w1.setCell ⟨q.pr, s, none⟩ (.pointer (some ⟨W.heap.size, 0, none⟩))) := by
  have hd1 : ps.length - pre.length = x + 1 := by omega
  have hd2 : ps.length - (pre ++ [x]).length = x := by rw [List.length_append]; simp; omega
  rw [hd1] at h1 h2 h3
  have hxl : x < ps.length := by omega
  have hdrop : ps.drop x = (k : Int) :: ps.drop (x + 1) := by rw [drop_cons8 hxl, hk]
  have hpl := h.fix.lo.2.1
  have hsz := h.fix.sz
  have hnk : ∀ j ∈ ps.drop (x + 1), j ≠ (k : Int) := fun j hj e => by
    have ha : Asc ((k : Int) :: ps.drop (x + 1)) := by rw [← hdrop]; exact List.Pairwise.sublist (List.drop_sublist _ _) hasc
    have := ha.cons_lt hj
    omega
  have hb' : ∀ j ∈ ps.drop (x + 1), (fun i => if i = (k : Int) then W.heap.size else blk i) j = blk j := fun j hj => if_neg (hnk j hj)
  have ht : Touch (fun j => j = q.pr) W (w1.setCell ⟨q.pr, s, none⟩ (.pointer (some ⟨W.heap.size, 0, none⟩))) := Touch.setCell (S := fun j => j = q.pr) (Touch.of_below hb) (a := ⟨q.pr, s, none⟩) rfl _
  have ht1 : Touch (fun j => j = q.pr) w1 (w1.setCell ⟨q.pr, s, none⟩ (.pointer (some ⟨W.heap.size, 0, none⟩))) := Touch.setCell (S := fun j => j = q.pr) (Touch.refl _ _) (a := ⟨q.pr, s, none⟩) rfl _
  refine ⟨Keep.touch ht (fun j hj e => h.nT (e ▸ hj)), h.fix.touch (ht.less (fun j hj => .inl hj)) (fun t => ?_), ⟨fun i => if i = (k : Int) then W.heap.size else blk i, fun t h4 => ?_, fun t h4 => ?_, fun i hi => ?_⟩, h.nT⟩
  · have h9 : (w1.setCell ⟨q.pr, s, none⟩ (.pointer (some ⟨W.heap.size, 0, none⟩))).frozen? ⟨q.pr, t, none⟩ = w1.frozen? ⟨q.pr, t, none⟩ := World.frozen?_setCell _ _ _ _
    rw [h9]
    exact (World.frozen?_of_block (a := ⟨q.pr, t, none⟩) (hb.block q.pr (by omega))).trans (h.fix.fz t)
  · rw [hd2, hdrop]
    by_cases e : t = s
    · subst e
      rw [trI_cons_yes hs]
      have hc : w1.cell? ⟨q.pr, t, none⟩ = some (.pointer (ptrA blk (trI l (t : Int) (ps.drop (x + 1))))) := keepCell hb (h1 t h4)
      rw [World.cell?_setCell_same _ _ _ hc]
      show some (Value.pointer _) = some (Value.pointer (some ⟨(if (k : Int) = (k : Int) then W.heap.size else blk k), 0, none⟩))
      rw [if_pos rfl]
    · rw [trI_cons_no (by rw [hs]; omega), ptrL_congr (fun j hj => hb' j (trI_mem hj))]
      exact (World.cell?_setCell_other _ _ _ _ (by intro q; injection q with q1 q2; omega)).trans (keepCell hb (h1 t h4))
  · rw [hd2, hdrop]
    have hold : ∀ {z : List Int}, (∀ j ∈ z, j ∈ ps.drop (x + 1)) → PlansAt W blk l free z → PlansAt (w1.setCell ⟨q.pr, s, none⟩ (.pointer (some ⟨W.heap.size, 0, none⟩))) (fun i => if i = (k : Int) then W.heap.size else blk i) l free z := fun hz hp =>
      (PlansAt.touch8 ht (fun j hj e => by have := (h3 j (hz j hj)).1; omega) hp).congr (fun j hj => hb' j (hz j hj))
    by_cases e : t = s
    · subst e
      rw [trI_cons_yes hs]
      refine ⟨?_, hold (fun j hj => trI_mem hj) (h2 t h4)⟩
      have hpc : planC (fun i => if i = (k : Int) then W.heap.size else blk i) l free k (trI l (t : Int) (ps.drop (x + 1))) = planC blk l free k (trI l (t : Int) (ps.drop (x + 1))) := by
        unfold planC
        rw [ptrO_scan (fun j hj => hb' j (trI_mem hj)), ptrL_congr (fun j hj => hb' j (trI_mem hj))]
      rw [hpc]
      show Whole _ (if (k : Int) = (k : Int) then W.heap.size else blk k) _ _
      rw [if_pos rfl]
      exact hN.touch8 ht1 (by omega)
    · rw [trI_cons_no (by rw [hs]; omega)]
      exact hold (fun j hj => trI_mem hj) (h2 t h4)
  · rw [hd2, hdrop, List.mem_cons] at hi
    have hs9 : W.heap.size < w1.heap.size := hN.lt
    have hsc : (w1.setCell ⟨q.pr, s, none⟩ (.pointer (some ⟨W.heap.size, 0, none⟩))).heap.size = w1.heap.size := World.size_setCell _ _ _
    rcases hi with rfl | hi
    · show Bs ≤ (if (k : Int) = (k : Int) then W.heap.size else blk k) ∧ (if (k : Int) = (k : Int) then W.heap.size else blk k) < _ ∧ ¬ T (if (k : Int) = (k : Int) then W.heap.size else blk k)
      rw [if_pos rfl]
      exact ⟨hsz, by rw [hsc]; exact hs9, fun e => by have := hTl _ e; omega⟩
    · show Bs ≤ (if i = (k : Int) then W.heap.size else blk i) ∧ (if i = (k : Int) then W.heap.size else blk i) < _ ∧ ¬ T (if i = (k : Int) then W.heap.size else blk i)
      rw [if_neg (hnk i hi)]
      exact ⟨(h3 i hi).1, by rw [hsc]; have := (h3 i hi).2.1; omega, (h3 i hi).2.2⟩

/-- 'm[k] = v', inside a fence. -/
theorem wpIn_put {F : Fence} {nF : Nat} (w : World) {ops : Array Oper} {rest : List Oper} {o : Oper} {a : Act} {Q : Exit → Act → World → Prop} (hg : o.guard = none) (m x v : Operand) (t e : TypeId) (hop : o.op = Op.mapUpdate t m x v) (ht : Try.prog.underlying t = some (.map 3 e)) (R : MElem) (b n : Nat) (f : Int → Option (DataW Unit))
    (hm : a.eval m = .map (some b)) (h : MapIs w R b n f) (hn : n < maxLen) (key : Int) (hk : W64 key) (val : Value) (hx : a.eval x = .int .i64 key) (hv : a.eval v = val) (d : DataW Unit) (hval : R val = some (d, []))
    (hK : ∀ w', MapIs w' R b (n + 1) (fun y => if y = key then some d else f y) → w.grownBy w' (some b) → wpListIn F nF Try.prog ops Q rest (a.put o.dst undef) w') :
    wpListIn F nF Try.prog ops Q (o :: rest) a w := by
  obtain ⟨D, hD, hf⟩ := h
  refine wpListIn_mapUpdate_own w hg m x v t hop 3 e keyInt ht R b n D hm hD hn (.int .i64 key) val _ hx hv (keyOfI hk) d [] hval (fun w' hD' hg' => hK w' ⟨_, hD', fun y hy => ?_⟩ hg')
  by_cases hyk : y = key
  · subst hyk
    simp only [if_true, Option.isSome_some, Option.getD_some]
    exact ⟨Maps.has_put_same hD.isMap (isKey _) _, fun z => Maps.atKey_put_same hD.isMap (isKey _) _ _⟩
  · simp only [hyk, if_false]
    exact ⟨by rw [Maps.has_put_other (litNe hyk)]; exact (hf y hy).1, fun z => by rw [Maps.atKey_put_other (litNe hyk)]; exact (hf y hy).2 z⟩

/-- While the planners are made. -/
structure PlSet (w : World) (wb t : Nat) (tb : Nat → Nat) (W : World) : Prop where
  c1 : Whole W w.heap.size 76 #[.pointer (some ⟨wb, 0, none⟩)]
  c2 : Whole W (w.heap.size + 2) 82 #[.slice (some ⟨w.heap.size + 1, 0, none⟩) 4 4]
  c4 : Whole W (w.heap.size + 4) 103 #[.map (some (w.heap.size + 3))]
  mp : MapIs W (fnE3 101) (w.heap.size + 3) t (fun y => if 0 ≤ y ∧ y < t then some (pr3 w.heap.size (w.heap.size + 2) (tb y.toNat)) else none)
  c5 : ∀ s, s < t → Whole W (tb s) 3 #[.int .i64 s]
  lo : ∀ s, s < t → w.heap.size + 5 ≤ tb s
  row : ∀ s, s < 4 → W.cell? ⟨w.heap.size + 1, s, none⟩ = some (.pointer none)
  fz : ∀ s, W.frozen? ⟨w.heap.size + 1, s, none⟩ = false
  bel : Below w.heap.size w W
  sz : w.heap.size + 5 ≤ W.heap.size
theorem PlSet.below {w : World} {wb t : Nat} {tb : Nat → Nat} {W W' : World} (h : PlSet w wb t tb W) (hb : Below W.heap.size W W') : PlSet w wb t tb W' :=
  ⟨h.c1.below hb h.c1.lt, h.c2.below hb h.c2.lt, h.c4.below hb h.c4.lt, h.mp.touch8 (Touch.of_below (S := fun _ => False) hb) (fun h => h), fun s hs => (h.c5 s hs).below hb (h.c5 s hs).lt, h.lo,
    fun s hs => keepCell hb (h.row s hs), fun s => (World.frozen?_of_block (a := ⟨w.heap.size + 1, s, none⟩) (hb.block (w.heap.size + 1) (by have := h.sz; omega))).trans (h.fz s), h.bel.trans (hb.mono h.bel.size), Nat.le_trans h.sz hb.size⟩
theorem PlSet.next {w : World} {wb t : Nat} {tb : Nat → Nat} {W W1 W2 : World} (h : PlSet w wb t tb W) (hb : Below W.heap.size W W1) (hc : Whole W1 W.heap.size 3 #[.int .i64 t])
    (hm : MapIs W2 (fnE3 101) (w.heap.size + 3) (t + 1) (fun y => if y = (t : Int) then some (pr3 w.heap.size (w.heap.size + 2) W.heap.size) else if 0 ≤ y ∧ y < t then some (pr3 w.heap.size (w.heap.size + 2) (tb y.toNat)) else none)) (hg : W1.grownBy W2 (some (w.heap.size + 3))) :
    PlSet w wb (t + 1) (fun s => if s = t then W.heap.size else tb s) W2 := by
  have h1 := h.below hb
  have ht : Touch (fun j => j = w.heap.size + 3) W1 W2 := Touch.grown hg rfl
  have hsz := h.sz
  have hs1 := h1.sz
  refine ⟨h1.c1.touch8 ht (by omega), h1.c2.touch8 ht (by omega), h1.c4.touch8 ht (by omega), hm.congr (fun y _ => ?_), fun s hs => ?_, fun s hs => ?_, fun s hs => ht.cell8 (h1.row s hs) (by show ¬ w.heap.size + 1 = w.heap.size + 3; omega), fun s => ?_, h1.bel.trans (ht.below (fun j hj => by omega) h1.bel.size), Nat.le_trans hs1 ht.size⟩
  · by_cases e : y = (t : Int)
    · subst e
      rw [if_pos rfl, if_pos (by omega), Int.toNat_natCast, if_pos rfl]
    · rw [if_neg e]
      by_cases q : 0 ≤ y ∧ y < (t : Int)
      · rw [if_pos q, if_pos (by omega), if_neg (by omega)]
      · rw [if_neg q, if_neg (by omega)]
  · by_cases e : s = t
    · simp only [if_pos e]; rw [e]; exact hc.touch8 ht (by omega)
    · simp only [if_neg e]; exact (h1.c5 s (by omega)).touch8 ht (by have := h.lo s (by omega); omega)
  · by_cases e : s = t
    · simp only [if_pos e]; omega
    · simp only [if_neg e]; exact h.lo s (by omega)
  · exact (World.frozen?_of_block (a := ⟨w.heap.size + 1, s, none⟩) (ht.block (w.heap.size + 1) (by omega) (by show ¬ w.heap.size + 1 = w.heap.size + 3; omega))).trans (h1.fz s)

/-- What plans gives. -/
def PlOut (l : List Gt) (free : Int) (ps : List Int) (w : World) (e : Ending) (w' : World) : Prop :=
  ∃ (pr : Nat) (blk : Int → Nat), e = .returned (.slice (some ⟨pr, 0, none⟩) 4 4) ∧ (∀ t : Nat, t < 4 → w'.cell? ⟨pr, t, none⟩ = some (.pointer (ptrA blk (trI l (t : Int) ps)))) ∧ (∀ t : Nat, t < 4 → PlansAt w' blk l free (trI l (t : Int) ps)) ∧ Below w.heap.size w w'

set_option maxRecDepth 100000 in
set_option maxHeartbeats 4000000 in
theorem plans_any (wb : Nat) (v vp : Value) (l : List Gt) (ps : List Int) (free : Int) (w : World) (hW : WayAt w wb v vp l ps free) (hfree : 0 ≤ free ∧ free ≤ 999) (hp : Pas l ps) (hlen : ps.length ≤ 10) :
    Calls Try.prog 89 #[.pointer (some ⟨wb, 0, none⟩)] w (PlOut l free ps w) := by
  obtain ⟨i0, hi, hz0, hz1, hz2⟩ := info_parts plInfo
  have hmk : ∀ W, (Instr.makeSlice 82 (.int .i64 4) (.int .i64 4)).run Try.prog W = .ok (.slice (some ⟨W.heap.size, 0, none⟩) 4 4) (W.alloc (.cells (madeCells #[.pointer none] (4 * i0.size)) 84)) := fun W =>
    run_make_rowN (P := Try.prog) 82 84 i0 _ Try.underlying82 hi hz0 .i64 .i64 4 4 (Nat.le_refl _) (by rw [hz2]; omega) (by omega) W
  have hmm := @run_makeMap Try.prog
  have HW := Lib.hid hW
  have Hp := Lib.hid hp
  obtain ⟨hw1, hw2, hw3⟩ := hW
  obtain ⟨sa, scap, rfl, _, hsa⟩ := hw3
  have Hsa := Lib.hid hsa
  have hwl := hw1.lt
  clear hw1 hw2 hsa hp
  refine (callsIn_wide (n := 10)).1 ?_
  refine callsIn_of_wp_marks Try.func89 rfl trivial ?_ rfl
  simp only [Try.ntmps89, List.size_toArray, List.length_cons, List.length_nil, Nat.reduceAdd, Nat.reduceSub, Array.replicate_succ, Array.replicate_zero, List.push_toArray, List.append_toArray, List.nil_append, List.cons_append]
  gi_wp2
  clear hmm hmk
  simp only [Nat.add_assoc, Nat.reduceAdd]
  obtain ⟨W0, hW0⟩ : ∃ W0, W0 = ((((w.alloc (.cells #[.pointer (some ⟨wb, 0, none⟩)] 76)).alloc (.cells (madeCells #[.pointer none] 4) 84)).alloc (.cells #[.slice (some ⟨w.heap.size + 1, 0, none⟩) 4 4] 82)).alloc (.map #[] 0)).alloc (.cells #[.map (some (w.heap.size + 3))] 103) := ⟨_, rfl⟩
  rw [← hW0]
  have hset : PlSet w wb 0 (fun _ => 0) W0 := by
    have a1 : Below w.heap.size w (w.alloc (.cells #[.pointer (some ⟨wb, 0, none⟩)] 76)) := (Below.refl _ _).alloc (Nat.le_refl _) _
    generalize hA : w.alloc (.cells #[.pointer (some ⟨wb, 0, none⟩)] 76) = A at *
    have sA : A.heap.size = w.heap.size + 1 := by rw [← hA]; simp
    have cA : Whole A w.heap.size 76 #[.pointer (some ⟨wb, 0, none⟩)] := by rw [← hA]; exact Whole.made w _ _
    have bA : Below A.heap.size A (A.alloc (.cells (madeCells #[.pointer none] 4) 84)) := (Below.refl _ _).alloc (Nat.le_refl _) _
    generalize hB : A.alloc (.cells (madeCells #[.pointer none] 4) 84) = B at *
    have sB : B.heap.size = w.heap.size + 2 := by rw [← hB]; simp [sA]
    have rB : ∀ s, s < 4 → B.cell? ⟨w.heap.size + 1, s, none⟩ = some (.pointer none) := fun s hs => by
      rw [← hB, ← sA, cell_of_row _ _ _ _ 84 (0, 0) (heap_alloc_new A _)]
      rw [← Array.getElem?_toList, toList_madeCells_one, List.getElem?_replicate, if_pos (by omega)]
    have fB : ∀ s, B.frozen? ⟨w.heap.size + 1, s, none⟩ = false := fun s => by rw [← hB, ← sA]; exact (Room.made A #[.pointer none] 4 84 (by simp)).2 s
    have bC : Below B.heap.size B (B.alloc (.cells #[.slice (some ⟨w.heap.size + 1, 0, none⟩) 4 4] 82)) := (Below.refl _ _).alloc (Nat.le_refl _) _
    have cC := Whole.made B 82 #[.slice (some ⟨w.heap.size + 1, 0, none⟩) 4 4]
    rw [sB] at cC
    generalize hC : B.alloc (.cells #[.slice (some ⟨w.heap.size + 1, 0, none⟩) 4 4] 82) = C at *
    have sC : C.heap.size = w.heap.size + 3 := by rw [← hC]; simp [sB]
    have bD : Below C.heap.size C (C.alloc (.map #[] 0)) := (Below.refl _ _).alloc (Nat.le_refl _) _
    have mD := MapIs.made C (fnE3 101)
    rw [sC] at mD
    generalize hD : C.alloc (.map #[] 0) = D at *
    have sD : D.heap.size = w.heap.size + 4 := by rw [← hD]; simp [sC]
    have bE : Below D.heap.size D W0 := by rw [hW0]; exact (Below.refl _ _).alloc (Nat.le_refl _) _
    have cE : Whole W0 (w.heap.size + 4) 103 #[.map (some (w.heap.size + 3))] := by rw [hW0, ← sD]; exact Whole.made D _ _
    have bCE : Below C.heap.size C W0 := bD.trans (bE.mono bD.size)
    have bBE : Below B.heap.size B W0 := bC.trans (bCE.mono bC.size)
    have bAE : Below A.heap.size A W0 := bA.trans (bBE.mono bA.size)
    exact ⟨cA.below bAE cA.lt, cC.below bCE cC.lt, cE, (mD.congr (fun y _ => if_neg (by omega))).touch8 (Touch.of_below (S := fun _ => False) bE) (fun h => h), fun s hs => by omega, fun s hs => by omega,
      fun s hs => keepCell bBE (rB s hs), fun s => (World.frozen?_of_block (a := ⟨w.heap.size + 1, s, none⟩) (bBE.block (w.heap.size + 1) (by omega))).trans (fB s), a1.trans (bAE.mono a1.size), by rw [hW0]; simp [sD]⟩
  have Hset := Lib.hid hset
  clear hset hW0
  gi_loopw [10] (fun iv wr => ∃ (t : Nat) (tb : Nat → Nat), t ≤ 4 ∧ iv = .int .i64 t ∧ PlSet w wb t tb wr) (fun iv _ => 4 - (intOf iv).toNat)
  case atStart => exact ⟨0, _, by omega, rfl, Hset.out⟩
  case round =>
    clear Hset
    obtain ⟨t, tb, ht, rfl, hset⟩ := hrel
    by_cases hlt : t < 4
    · have hlt' : (t : Int) < 4 := by omega
      have ht0 : (0 : Int) ≤ (t : Int) := Int.natCast_nonneg _
      have wt : W64 (t : Int) := by unfold W64; omega
      have HS := Lib.hid hset
      have hb1 : Below wr.heap.size wr (wr.alloc (.cells #[.int .i64 t] 3)) := (Below.refl _ _).alloc (Nat.le_refl _) _
      have hc1 := Whole.made wr 3 #[.int .i64 (t : Int)]
      have hcell := hc1.cell (i := 0) rfl
      have hmc : (wr.alloc (.cells #[.int .i64 t] 3)).cell? ⟨w.heap.size + 4, 0, none⟩ = some (.map (some (w.heap.size + 3))) := (hset.below hb1).c4.cell rfl
      have hmp := (hset.below hb1).mp
      have HB1 := Lib.hid hb1; have HC1 := Lib.hid hc1
      clear hb1 hc1 hset
      gi_wp2_with (gi_at_mapUpdate; refine wpIn_put _ rfl _ _ _ 103 105 rfl Try.underlying103 (fnE3 101) (w.heap.size + 3) t _ rfl hmp (by unfold maxLen; omega) (t : Int) wt _ rfl rfl (pr3 w.heap.size (w.heap.size + 2) wr.heap.size) (fnE3_kv _ _ _ _) ?_; intro w2 hm2 hg2)
      have Hn := Lib.hid (HS.out.next HB1.out HC1.out hm2 hg2)
      clear hm2 hg2 hmp hmc hcell
      gi_wp2
      go_roundw
      case rel => exact ⟨t + 1, _, by omega, by go_num, Hn.out⟩
      case measure => simp [intOf]; omega
    · obtain rfl : t = 4 := by omega
      have HS := Lib.hid hset
      have k1 := hset.c1.cell (i := 0) rfl
      have k2 := (HW.out.below hset.bel).blk.cell (i := 1) rfl
      clear hset
      gi_wp2_with (refine ⟨trivial, ?_⟩; gi_at_call 103; refine ((callsIn_wide (n := 9)).2 (backward_any sa ps.length scap wr)).mono ?_; rintro e w3 ⟨rfl, hw3⟩)
      subst hw3
      have hbx : Below wr.heap.size wr (wr.alloc (.cells #[.slice sa ps.length scap] 39)) := (Below.refl _ _).alloc (Nat.le_refl _) _
      have hcx := (Whole.made wr 39 #[.slice sa ps.length scap]).cell (i := 0) rfl
      have hs3 : (wr.alloc (.cells #[.slice sa ps.length scap] 39)).heap.size = wr.heap.size + 1 := by simp
      have HS3 := Lib.hid (HS.out.below hbx)
      have hsz := HS.out.sz
      generalize wr.alloc (.cells #[.slice sa ps.length scap] 39) = w3 at *
      obtain ⟨sb, so, hsb1, hsb2, hsb3⟩ : ∃ sb so, (ps ≠ [] → sa = some ⟨sb, so, none⟩) ∧ (sb < w.heap.size ∨ sb = wr.heap.size) ∧ IntAt w3 sb so ps := by
        by_cases e : ps = []
        · exact ⟨wr.heap.size, 0, fun h => absurd e h, .inr rfl, fun i hi => by rw [e] at hi; simp at hi⟩
        · obtain ⟨b, o, h1, h2, h3⟩ := Hsa.out e
          exact ⟨b, o, fun _ => h1, .inl h2, h3.below HS3.out.bel h2⟩
      have hwb3 := HS3.out.bel.size
      have hseq := back_comes sa wr.heap.size sb so scap ps (fun j => j = wr.heap.size ∨ j = sb) w3 hcx hsb1 (by omega) (by omega) (.inr rfl) (.inl rfl) (fun j hj => by rcases hj with rfl | rfl <;> omega) hsb3 (by omega)
      have hI0 : PlI l free ps w wb (wr.heap.size + 1) ⟨w.heap.size, w.heap.size + 1, w.heap.size + 2, w.heap.size + 4, w.heap.size + 3, tb⟩ (fun j => j = wr.heap.size ∨ j = sb) [] w3 := by
        have h := HS3.out
        refine ⟨⟨h.c1, h.c2, h.c4, h.mp, h.c5, ⟨by show w.heap.size < _; omega, by show w.heap.size + 1 < _; omega, by show w.heap.size + 2 < _; omega, by show w.heap.size + 4 < _; omega, by show w.heap.size + 3 < _; omega, fun t ht => by have := (HS.out.c5 t ht).lt; show tb t < _; omega⟩, by show w.heap.size ≤ w.heap.size + 1; omega,
          ⟨by show w.heap.size ≠ w.heap.size + 1; omega, by show w.heap.size + 2 ≠ w.heap.size + 1; omega, by show w.heap.size + 4 ≠ w.heap.size + 1; omega, by show w.heap.size + 3 ≠ w.heap.size + 1; omega, fun t ht => by have := h.lo t ht; show tb t ≠ w.heap.size + 1; omega⟩, h.fz, h.bel, by omega, by omega⟩,
          ⟨fun _ => 0, fun t ht => ?_, fun t ht => ?_, fun k hk => ?_⟩, fun e => ?_⟩
        · rw [show ps.length - ([] : List Nat).length = ps.length from rfl, List.drop_length]
          exact h.row t ht
        · rw [show ps.length - ([] : List Nat).length = ps.length from rfl, List.drop_length]
          exact trivial
        · rw [show ps.length - ([] : List Nat).length = ps.length from rfl, List.drop_length] at hk
          cases hk
        · rcases e with e | e
          · have e' : w.heap.size + 1 = wr.heap.size := e; omega
          · have e' : w.heap.size + 1 = sb := e; omega
      have Hseq := Lib.hid hseq; have HI0 := Lib.hid hI0
      clear hseq hI0 hcx hsb3 HS HS3 k1 k2 hbx
      refine rangeComes (gf := 109) (lb := #[.pointer (some ⟨wr.heap.size, 0, none⟩)]) rfl (fun _ _ => rfl) Hseq.out (fun j hj => by rcases hj with rfl | rfl <;> omega) (Below.refl _ _) (fun _ => rfl)
        (PlI l free ps w wb (wr.heap.size + 1) ⟨w.heap.size, w.heap.size + 1, w.heap.size + 2, w.heap.size + 4, w.heap.size + 3, tb⟩) (fun _ _ _ _ => False) (by rw [hs3]; exact PlI.abide) (fun _ => Abide.never _) HI0.out
        (fun x => { tmps := #[.pointer (some ⟨wb, 0, none⟩), .pointer (some ⟨w.heap.size, 0, none⟩), .slice none 0 0, .pointer (some ⟨w.heap.size + 2, 0, none⟩), .pointer (some ⟨w.heap.size + 4, 0, none⟩), u5, undef, .int .i64 (ps.getD x 0), .slice (some ⟨w.heap.size + 1, 0, none⟩) 4 4, .map (some (w.heap.size + 3)), .int .i64 4, .bool false, u12, u13, u14, u15, u16, .pointer (some ⟨wb, 0, none⟩), .pointer (some ⟨wb, 0, none⟩), .pointer (some ⟨wb, 1, none⟩), .slice sa ps.length scap, .func (.func 109) #[] #[.pointer (some ⟨wr.heap.size, 0, none⟩)], .int .i64 (x : Nat), .int .i64 (ps.getD x 0), undef, undef, undef, undef, undef, undef, undef, undef, undef, undef, undef, undef, undef], defers := [] }) ?assign ?body ?done ?stop
      case assign =>
        intro l x W K hK
        simp only [encB]
        gi_wp2
        exact hK
      case body =>
        rintro lq T pre x W hpre hsz2 hTl hI
        have hpl := hpre.length_le
        rw [List.length_append, revR_len, List.length_singleton] at hpl
        have hx : pre.length + x + 1 = ps.length := by
          have h1 := (revR_pre_eq hpre).1
          rw [List.length_append, List.length_singleton, revR_succ] at h1
          have h2 := (List.append_inj' h1 rfl).2
          injection h2 with h2 _
          omega
        obtain ⟨blk, e1, e2, e3⟩ := hI.ex
        have hxl : x < ps.length := by omega
        obtain ⟨x0, x1⟩ := Hp.out.i _ (mem_getD8.2 ⟨x, hxl, rfl⟩)
        obtain ⟨k, hk⟩ : ∃ k : Nat, ps.getD x 0 = k := ⟨(ps.getD x 0).toNat, by omega⟩
        have hkl : k < l.length := by omega
        have hgk : gAt l (k : Int) = l.getD k gt0 := by unfold gAt; rw [Int.toNat_natCast]
        have hzk := validG_at Hp.out.v hkl
        obtain ⟨s, hs⟩ : ∃ s : Nat, (l.getD k gt0).b = (s : Int) := ⟨(l.getD k gt0).b.toNat, by omega⟩
        have hs4 : s < 4 := by omega
        have hsk : (gAt l (k : Int)).b = (s : Int) := by rw [hgk]; exact hs
        have hd : ps.drop x = (k : Int) :: ps.drop (x + 1) := by rw [drop_cons8 hxl, hk]
        have hdn : ps.length - pre.length = x + 1 := by omega
        have hpd : Pas l ((k : Int) :: trI l (s : Int) (ps.drop (x + 1))) := by
          have h1 : Pas l (ps.drop x) := ⟨Hp.out.v, fun y hy => Hp.out.i y (List.mem_of_mem_drop hy), List.Pairwise.sublist (List.drop_sublist _ _) Hp.out.asc⟩
          have h2 := h1.filter (fun k => decide ((gAt l k).b = (s : Int)))
          have h3 : trI l (s : Int) (ps.drop x) = (k : Int) :: trI l (s : Int) (ps.drop (x + 1)) := by rw [hd, trI_cons_yes hsk]
          rw [← h3]; exact h2
        have hll : (trI l (s : Int) (ps.drop (x + 1))).length ≤ 9 := by
          have h1 := List.length_filter_le (fun k => decide ((gAt l k).b = (s : Int))) (ps.drop (x + 1))
          rw [List.length_drop] at h1
          unfold trI; omega
        have e1' := e1; have e2' := e2
        rw [hdn] at e1' e2'
        have hWW := HW.out.below hI.fix.bel
        have hw0 := hWW.blk.cell (i := 0) rfl
        obtain ⟨ga, gcap, rfl, _, hga⟩ := hWW.g
        obtain ⟨gb, go_, rfl, hgb, hgr⟩ := hga (by intro h; simp [h] at hkl)
        obtain ⟨_, g1, _⟩ := hgr k hkl
        rw [hs] at g1
        have k1 := hI.fix.c1.cell (i := 0) rfl
        have k4 := hI.fix.c4.cell (i := 0) rfl
        have wsk : W64 (s : Int) := by unfold W64; omega
        have hmpd : MapIs (World.drew W) (fnE3 101) (w.heap.size + 3) 4 _ := hI.fix.mp
        have hlook := hmpd.look3 Try.underlying103 (zeroP _) wsk (x := w.heap.size) (y := w.heap.size + 2) (z := tb s) (by rw [if_pos (by omega), Int.toNat_natCast])
        have hlook2 := hI.fix.mp.look3 Try.underlying103 (zeroP _) wsk (x := w.heap.size) (y := w.heap.size + 2) (z := tb s) (by rw [if_pos (by omega), Int.toNat_natCast])
        unfold kv3 at hlook hlook2
        have hk0 : (0 : Int) ≤ (k : Int) := Int.natCast_nonneg _
        have hk1 : (k : Int) < (l.length : Int) := by omega
        have hpn := planner_any blk wb w.heap.size (w.heap.size + 2) (tb s) (w.heap.size + 1) s _ _ l ps free k (trI l (s : Int) (ps.drop (x + 1))) (World.drew W) (show WayAt (World.drew W) wb _ _ l ps free from hWW.below (Below.refl _ _).drew) hfree hpd (PlansAt.below (Below.refl _ _).drew (e2' s hs4)) hll
          (hI.fix.c1.cell (i := 0) rfl) (hI.fix.c2.cell (i := 0) rfl) ((hI.fix.c5 s hs4).cell (i := 0) rfl) hs4 (e1' s hs4) (hI.fix.fz s) (by omega) (by omega) (hI.fix.ne.2.2.2.2 s hs4)
        have HPn := Lib.hid hpn
        have HI := Lib.hid hI; have HTl := Lib.hid hTl; have E1 := Lib.hid e1; have E2 := Lib.hid e2; have E3 := Lib.hid e3; have Hk := Lib.hid hk; have Hsk := Lib.hid hsk; have Hx := Lib.hid hx
        clear hpn hI hTl e1 e2 e3 e1' e2' hgr hga hWW hpd hll hd hdn hgk hzk hs hsk hx hpre hpl hmpd
        rw [hk]
        clear hk
        gi_wp2
        refine wpIn_region_any (by kernel_rfl) ?_
        refine any_round lq (by rintro ⟨a, w, h⟩; exact h) (by kernel_rfl) 12 #[false, false, false, false, false, false, false, false, false, false, false, false] _ (World.drew _) ?_
        refine with_Q (fun _ _ _ _ _ h => h) (fun Q hQ hN => ?_)
        refine take_op (i := 5) (d := 29) (v := .int .i64 (k : Nat)) rfl rfl (by kernel_rfl) (by kernel_rfl) (by kernel_rfl) hQ (Or.inl ⟨by rfl, fun _ => by first | rfl | (go_simp; done) | (go_simp; rfl)⟩) ?_
        simp only [Act.put, List.setIfInBounds_toArray, List.set_cons_zero, List.set_cons_succ]
        refine take_op (i := 10) (d := 34) (v := .int .i64 (k : Nat)) rfl rfl (by kernel_rfl) (by kernel_rfl) (by kernel_rfl) hQ (Or.inl ⟨by rfl, fun _ => by first | rfl | (go_simp; done) | (go_simp; rfl)⟩) ?_
        simp only [Act.put, List.setIfInBounds_toArray, List.set_cons_zero, List.set_cons_succ]
        refine wpAny_ready (rs := [0, 1]) (by kernel_rfl) (by simp) ?_
        refine AllReady.cons rfl (fun K hK => ?_) (AllReady.cons rfl (fun K hK => ?_) AllReady.nil)
        · go_simp
          refine hK _ _ ?_
          try simp only [Act.put, List.setIfInBounds_toArray, List.set_cons_zero, List.set_cons_succ]
          clear hK K
          refine wpAny_ready (rs := [1]) (by kernel_rfl) (by simp) ?_
          refine AllReady.cons rfl (fun K hK => ?_) AllReady.nil
          go_simp
          refine hK _ _ ?_
          try simp only [Act.put, List.setIfInBounds_toArray, List.set_cons_zero, List.set_cons_succ]
          clear hK K
          refine take_op (i := 2) (d := 26) (v := .pointer (some ⟨wb, 0, none⟩)) rfl rfl (by kernel_rfl) (by kernel_rfl) (by kernel_rfl) hQ (Or.inl ⟨by rfl, fun _ => by first | rfl | (go_simp; done) | (go_simp; rfl)⟩) ?_
          simp only [Act.put, List.setIfInBounds_toArray, List.set_cons_zero, List.set_cons_succ]
          refine take_op (i := 3) (d := 27) (v := .pointer (some ⟨wb, 0, none⟩)) rfl rfl (by kernel_rfl) (by kernel_rfl) (by kernel_rfl) hQ (Or.inl ⟨by rfl, fun _ => by first | rfl | (go_simp; done) | (go_simp; rfl)⟩) ?_
          simp only [Act.put, List.setIfInBounds_toArray, List.set_cons_zero, List.set_cons_succ]
          refine wpAny_ready (rs := [4]) (by kernel_rfl) (by simp) ?_
          refine AllReady.cons rfl (fun K hK => ?_) AllReady.nil
          go_simp
          refine hK _ _ ?_
          try simp only [Act.put, List.setIfInBounds_toArray, List.set_cons_zero, List.set_cons_succ]
          clear hK K
          refine take_op (i := 6) (d := 30) (v := .pointer (some ⟨gb, go_ + k * 3, none⟩)) rfl rfl (by kernel_rfl) (by kernel_rfl) (by kernel_rfl) hQ (Or.inl ⟨by rfl, fun _ => by first | rfl | (go_simp; done) | (go_simp; rfl)⟩) ?_
          simp only [Act.put, List.setIfInBounds_toArray, List.set_cons_zero, List.set_cons_succ]
          refine take_op (i := 7) (d := 31) (v := .pointer (some ⟨gb, go_ + k * 3 + 1, none⟩)) rfl rfl (by kernel_rfl) (by kernel_rfl) (by kernel_rfl) hQ (Or.inl ⟨by rfl, fun _ => by first | rfl | (go_simp; done) | (go_simp; rfl)⟩) ?_
          simp only [Act.put, List.setIfInBounds_toArray, List.set_cons_zero, List.set_cons_succ]
          refine wpAny_ready (rs := [8]) (by kernel_rfl) (by simp) ?_
          refine AllReady.cons rfl (fun K hK => ?_) AllReady.nil
          go_simp
          refine hK _ _ ?_
          try simp only [Act.put, List.setIfInBounds_toArray, List.set_cons_zero, List.set_cons_succ]
          clear hK K
          refine wpAny_ready (rs := [9]) (by kernel_rfl) (by simp) ?_
          refine AllReady.cons rfl (fun K hK => ?_) AllReady.nil
          go_simp
          refine hK _ _ ?_
          try simp only [Act.put, List.setIfInBounds_toArray, List.set_cons_zero, List.set_cons_succ]
          clear hK K
          refine wpAny_ready (rs := [11]) (by kernel_rfl) (by simp) ?_
          refine AllReady.cons rfl (fun K hK => ?_) AllReady.nil
          go_simp
          go_at_call 101
          refine (HPn.out).mono ?_; rintro e w4 ⟨⟨u, rfl⟩, w1, hb1, hN1, rfl⟩
          refine hK _ _ ?_
          try simp only [Act.put, List.setIfInBounds_toArray, List.set_cons_zero, List.set_cons_succ]
          clear hK K
          refine wpAny_done (by kernel_rfl) (hN _ _ ?_) _
          exact PlI.step HI.out Hx.out Hk.out Hsk.out hs4 Hp.out.asc HTl.out blk E1.out E2.out E3.out ((Below.refl _ _).drew.trans hb1) hN1
        · go_simp
          refine hK _ _ ?_
          try simp only [Act.put, List.setIfInBounds_toArray, List.set_cons_zero, List.set_cons_succ]
          clear hK K
          refine take_op (i := 2) (d := 26) (v := .pointer (some ⟨wb, 0, none⟩)) rfl rfl (by kernel_rfl) (by kernel_rfl) (by kernel_rfl) hQ (Or.inl ⟨by rfl, fun _ => by first | rfl | (go_simp; done) | (go_simp; rfl)⟩) ?_
          simp only [Act.put, List.setIfInBounds_toArray, List.set_cons_zero, List.set_cons_succ]
          refine take_op (i := 3) (d := 27) (v := .pointer (some ⟨wb, 0, none⟩)) rfl rfl (by kernel_rfl) (by kernel_rfl) (by kernel_rfl) hQ (Or.inl ⟨by rfl, fun _ => by first | rfl | (go_simp; done) | (go_simp; rfl)⟩) ?_
          simp only [Act.put, List.setIfInBounds_toArray, List.set_cons_zero, List.set_cons_succ]
          refine wpAny_ready (rs := [0, 4]) (by kernel_rfl) (by simp) ?_
          refine AllReady.cons rfl (fun K hK => ?_) (AllReady.cons rfl (fun K hK => ?_) AllReady.nil)
          · go_simp
            refine hK _ _ ?_
            try simp only [Act.put, List.setIfInBounds_toArray, List.set_cons_zero, List.set_cons_succ]
            clear hK K
            refine wpAny_ready (rs := [4]) (by kernel_rfl) (by simp) ?_
            refine AllReady.cons rfl (fun K hK => ?_) AllReady.nil
            go_simp
            refine hK _ _ ?_
            try simp only [Act.put, List.setIfInBounds_toArray, List.set_cons_zero, List.set_cons_succ]
            clear hK K
            refine take_op (i := 6) (d := 30) (v := .pointer (some ⟨gb, go_ + k * 3, none⟩)) rfl rfl (by kernel_rfl) (by kernel_rfl) (by kernel_rfl) hQ (Or.inl ⟨by rfl, fun _ => by first | rfl | (go_simp; done) | (go_simp; rfl)⟩) ?_
            simp only [Act.put, List.setIfInBounds_toArray, List.set_cons_zero, List.set_cons_succ]
            refine take_op (i := 7) (d := 31) (v := .pointer (some ⟨gb, go_ + k * 3 + 1, none⟩)) rfl rfl (by kernel_rfl) (by kernel_rfl) (by kernel_rfl) hQ (Or.inl ⟨by rfl, fun _ => by first | rfl | (go_simp; done) | (go_simp; rfl)⟩) ?_
            simp only [Act.put, List.setIfInBounds_toArray, List.set_cons_zero, List.set_cons_succ]
            refine wpAny_ready (rs := [8]) (by kernel_rfl) (by simp) ?_
            refine AllReady.cons rfl (fun K hK => ?_) AllReady.nil
            go_simp
            refine hK _ _ ?_
            try simp only [Act.put, List.setIfInBounds_toArray, List.set_cons_zero, List.set_cons_succ]
            clear hK K
            refine wpAny_ready (rs := [9]) (by kernel_rfl) (by simp) ?_
            refine AllReady.cons rfl (fun K hK => ?_) AllReady.nil
            go_simp
            refine hK _ _ ?_
            try simp only [Act.put, List.setIfInBounds_toArray, List.set_cons_zero, List.set_cons_succ]
            clear hK K
            refine wpAny_ready (rs := [11]) (by kernel_rfl) (by simp) ?_
            refine AllReady.cons rfl (fun K hK => ?_) AllReady.nil
            go_simp
            go_at_call 101
            refine (HPn.out).mono ?_; rintro e w4 ⟨⟨u, rfl⟩, w1, hb1, hN1, rfl⟩
            refine hK _ _ ?_
            try simp only [Act.put, List.setIfInBounds_toArray, List.set_cons_zero, List.set_cons_succ]
            clear hK K
            refine wpAny_done (by kernel_rfl) (hN _ _ ?_) _
            exact PlI.step HI.out Hx.out Hk.out Hsk.out hs4 Hp.out.asc HTl.out blk E1.out E2.out E3.out ((Below.refl _ _).drew.trans hb1) hN1
          · go_simp
            refine hK _ _ ?_
            try simp only [Act.put, List.setIfInBounds_toArray, List.set_cons_zero, List.set_cons_succ]
            clear hK K
            refine take_op (i := 6) (d := 30) (v := .pointer (some ⟨gb, go_ + k * 3, none⟩)) rfl rfl (by kernel_rfl) (by kernel_rfl) (by kernel_rfl) hQ (Or.inl ⟨by rfl, fun _ => by first | rfl | (go_simp; done) | (go_simp; rfl)⟩) ?_
            simp only [Act.put, List.setIfInBounds_toArray, List.set_cons_zero, List.set_cons_succ]
            refine take_op (i := 7) (d := 31) (v := .pointer (some ⟨gb, go_ + k * 3 + 1, none⟩)) rfl rfl (by kernel_rfl) (by kernel_rfl) (by kernel_rfl) hQ (Or.inl ⟨by rfl, fun _ => by first | rfl | (go_simp; done) | (go_simp; rfl)⟩) ?_
            simp only [Act.put, List.setIfInBounds_toArray, List.set_cons_zero, List.set_cons_succ]
            refine wpAny_ready (rs := [0, 8]) (by kernel_rfl) (by simp) ?_
            refine AllReady.cons rfl (fun K hK => ?_) (AllReady.cons rfl (fun K hK => ?_) AllReady.nil)
            · go_simp
              refine hK _ _ ?_
              try simp only [Act.put, List.setIfInBounds_toArray, List.set_cons_zero, List.set_cons_succ]
              clear hK K
              refine wpAny_ready (rs := [8]) (by kernel_rfl) (by simp) ?_
              refine AllReady.cons rfl (fun K hK => ?_) AllReady.nil
              go_simp
              refine hK _ _ ?_
              try simp only [Act.put, List.setIfInBounds_toArray, List.set_cons_zero, List.set_cons_succ]
              clear hK K
              refine wpAny_ready (rs := [9]) (by kernel_rfl) (by simp) ?_
              refine AllReady.cons rfl (fun K hK => ?_) AllReady.nil
              go_simp
              refine hK _ _ ?_
              try simp only [Act.put, List.setIfInBounds_toArray, List.set_cons_zero, List.set_cons_succ]
              clear hK K
              refine wpAny_ready (rs := [11]) (by kernel_rfl) (by simp) ?_
              refine AllReady.cons rfl (fun K hK => ?_) AllReady.nil
              go_simp
              go_at_call 101
              refine (HPn.out).mono ?_; rintro e w4 ⟨⟨u, rfl⟩, w1, hb1, hN1, rfl⟩
              refine hK _ _ ?_
              try simp only [Act.put, List.setIfInBounds_toArray, List.set_cons_zero, List.set_cons_succ]
              clear hK K
              refine wpAny_done (by kernel_rfl) (hN _ _ ?_) _
              exact PlI.step HI.out Hx.out Hk.out Hsk.out hs4 Hp.out.asc HTl.out blk E1.out E2.out E3.out ((Below.refl _ _).drew.trans hb1) hN1
            · go_simp
              refine hK _ _ ?_
              try simp only [Act.put, List.setIfInBounds_toArray, List.set_cons_zero, List.set_cons_succ]
              clear hK K
              refine wpAny_ready (rs := [0]) (by kernel_rfl) (by simp) ?_
              refine AllReady.cons rfl (fun K hK => ?_) AllReady.nil
              go_simp
              refine hK _ _ ?_
              try simp only [Act.put, List.setIfInBounds_toArray, List.set_cons_zero, List.set_cons_succ]
              clear hK K
              refine wpAny_ready (rs := [9]) (by kernel_rfl) (by simp) ?_
              refine AllReady.cons rfl (fun K hK => ?_) AllReady.nil
              go_simp
              refine hK _ _ ?_
              try simp only [Act.put, List.setIfInBounds_toArray, List.set_cons_zero, List.set_cons_succ]
              clear hK K
              refine wpAny_ready (rs := [11]) (by kernel_rfl) (by simp) ?_
              refine AllReady.cons rfl (fun K hK => ?_) AllReady.nil
              go_simp
              go_at_call 101
              refine (HPn.out).mono ?_; rintro e w4 ⟨⟨u, rfl⟩, w1, hb1, hN1, rfl⟩
              refine hK _ _ ?_
              try simp only [Act.put, List.setIfInBounds_toArray, List.set_cons_zero, List.set_cons_succ]
              clear hK K
              refine wpAny_done (by kernel_rfl) (hN _ _ ?_) _
              exact PlI.step HI.out Hx.out Hk.out Hsk.out hs4 Hp.out.asc HTl.out blk E1.out E2.out E3.out ((Below.refl _ _).drew.trans hb1) hN1
      case done =>
        rintro D T W hD hTD hI hK
        have hc : W.cell? ⟨w.heap.size + 2, 0, none⟩ = some (.slice (some ⟨w.heap.size + 1, 0, none⟩) 4 4) := hI.fix.c2.cell (i := 0) rfl
        have HI := Lib.hid hI
        clear hI
        gi_wp2
        refine ⟨by simp, .inl ⟨_, _, rfl, run_takeDeferred hK, ?_⟩⟩
        have ht : Touch (fun j => wr.heap.size + 1 ≤ j ∧ T j) W (W.putObj D (.deferred none)) := touch_putObj _ _ ⟨by omega, hTD⟩
        have hI2 := PlI.abide.own (s := revR ps.length ps.length) HI.out ht
        obtain ⟨blk, h1, h2, _⟩ := hI2.ex
        rw [revR_len, Nat.sub_self, List.drop_zero] at h1 h2
        exact ⟨_, results_tmp rfl _ _ _, _, blk, rfl, h1, h2, hI2.fix.bel⟩
      case stop =>
        rintro D c T pre W _ _ _ h _
        exact h.elim

end Go.Proofs.Ythhllpnbmelidaa
