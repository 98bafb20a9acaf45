/- The coach's keepers. -/
import Derived.Test.YthhllpnbmelidaaGQ
import Derived.Test.YthhllpnbmelidaaGN
import Derived.Deep.RegionHeld3
import Derived.BigRegion
namespace Go.Proofs.Ythhllpnbmelidaa
open Go.RowKit
set_option linter.unusedVariables false
set_option linter.unusedSimpArgs false

/-- The way in block wb. -/
structure WayAt (w : World) (wb : Nat) (v vp : Value) (l : List Gt) (ps : List Int) (free : Int) : Prop where
  blk : Whole w wb 98 #[v, vp, .int .i64 free]
  g : GtIn w v l
  p : IntsIn w vp ps
theorem WayAt.below {w w' : World} {wb : Nat} {v vp : Value} {l : List Gt} {ps : List Int} {free : Int} (h : WayAt w wb v vp l ps free) (hb : Below w.heap.size w w') : WayAt w' wb v vp l ps free :=
  ⟨h.blk.below hb h.blk.lt, h.g.below hb, h.p.below hb⟩
theorem Whole.touch8 {w w' : World} {g : Nat} {t : TypeId} {cs : Array Value} {S : Nat → Prop} (h : Whole w g t cs) (ht : Touch S w w') (hn : ¬ S g) : Whole w' g t cs := (ht.block g h.lt hn).trans h
theorem Touch.cell8 {S : Nat → Prop} {w w' : World} (ht : Touch S w w') {p : Addr} {v : Value} (h : w.cell? p = some v) (hn : ¬ S p.block) : w'.cell? p = some v :=
  (World.cell?_of_block (ht.block _ (World.block_lt_of_cell? _ _ h) hn)).trans h
theorem Touch.less {S S' : Nat → Prop} {w w' : World} (h : Touch S w w') (hs : ∀ j, S j → S' j) : Touch S' w w' := ⟨h.os, h.tape, h.output, h.size, fun j hj hn => h.block j hj (fun e => hn (hs j e))⟩

theorem own_touch8 {w w' : World} {B k E c : Nat} {v : Value} {xs : List Value} {S : Nat → Prop} (h : w.ownsRow B E c v k xs) (ht : Touch S w w') (hS : ∀ q, v.ownBlock = some q → ¬ S q) : w'.ownsRow B E c v k xs := by
  obtain ⟨h1, h2⟩ := h
  refine ⟨h1, ?_⟩
  rcases h2 with h0 | ⟨g, cap, cur, rfl, hg, hh, r⟩
  · exact .inl h0
  · exact .inr ⟨g, cap, cur, rfl, hg, (ht.block g (Array.getElem?_eq_some_iff.1 hh).1 (hS g rfl)).trans hh, r⟩

set_option maxHeartbeats 400000 in
/-- keeper boxes the coach, then until where its tickets free. -/
theorem keeper_any (cb : Nat) (w : World) :
    Calls Try.prog 108 #[.pointer (some ⟨cb, 0, none⟩)] w fun e w' => e = .returned (.func (.func 122) #[] #[.pointer (some ⟨w.heap.size, 0, none⟩), .pointer (some ⟨w.heap.size + 1, 0, none⟩)]) ∧
      Whole w' w.heap.size 99 #[.pointer (some ⟨cb, 0, none⟩)] ∧ Whole w' (w.heap.size + 1) 3 #[.int .i64 (-1)] ∧ Below w.heap.size w w' ∧ w'.heap.size = w.heap.size + 2 := by
  go_enter Try.func108, Try.ntmps108
  go_wp2
  go_ret
  have hb1 : Below w.heap.size w (w.alloc (.cells #[.pointer (some ⟨cb, 0, none⟩)] 99)) := (Below.refl _ _).alloc (Nat.le_refl _) _
  have hm1 := Whole.made w 99 #[.pointer (some ⟨cb, 0, none⟩)]
  have hm2 := Whole.made (w.alloc (.cells #[.pointer (some ⟨cb, 0, none⟩)] 99)) 3 #[.int .i64 (-1)]
  rw [World.size_alloc] at hm2
  exact ⟨rfl, hm1.below ((Below.refl _ _).alloc (Nat.le_refl _) _) (by simp), hm2, hb1.alloc (by simp) _, by simp⟩


/-- What the closure leaves: it has paid (p), or nothing has changed. -/
def KeptM (B wb cb fb g cap : Nat) (acc : List Int) (k : Nat) (until_ : Int) (p fr : Bool) (w : World) (e : Ending) (w' : World) : Prop :=
  (p = false → e = .returned (.bool fr) ∧ Below w.heap.size w w') ∧
  (p = true → e = .returned (.bool true) ∧ ∃ g' cap', Whole w' cb 101 #[.pointer (some ⟨wb, 0, none⟩), .func (.func 87) #[] #[], .slice (some ⟨g', 0, none⟩) (acc ++ [(k : Int)]).length cap'] ∧ RowI w' B (.slice (some ⟨g', 0, none⟩) (acc ++ [(k : Int)]).length cap') (acc ++ [(k : Int)]) ∧ (g' = g ∨ w.heap.size ≤ g') ∧ Whole w' fb 3 #[.int .i64 until_] ∧ Touch (fun j => j = cb ∨ j = fb ∨ j = g) w w')


set_option maxHeartbeats 1000000 in
theorem keptEndM (B wb cb xb fb g cap : Nat) (acc : List Int) (k : Nat) (r free : Int) (v0 : Value) (w w1 : World) (hb1 : Below w.heap.size w w1)
    (hC : Whole w1 cb 101 #[.pointer (some ⟨wb, 0, none⟩), .func (.func 87) #[] #[], .slice (some ⟨g, 0, none⟩) acc.length cap]) (hF : Whole w1 fb 3 #[.int .i64 r]) (hR : RowI w1 B (.slice (some ⟨g, 0, none⟩) acc.length cap) acc) (hB : B ≤ w.heap.size) (hlen : acc.length ≤ 100)
    (n1 : cb ≠ fb) (n2 : cb ≠ g) (n3 : fb ≠ g) (n4 : xb ≠ g) (n5 : xb ≠ cb) (n6 : xb ≠ fb) (n7 : wb ≠ g ∧ wb ≠ cb)
    (x0 : w1.cell? ⟨xb, 0, none⟩ = some (.pointer (some ⟨cb, 0, none⟩))) (w0 : w1.cell? ⟨wb, 0, none⟩ = some v0) (w2 : w1.cell? ⟨wb, 2, none⟩ = some (.int .i64 free)) (hcl : cb < w.heap.size) (hxl : xb < w.heap.size) (hfl : fb < w.heap.size) (hwl : wb < w.heap.size)
    (g8 cp8 : Nat) (w8 : World) (hown : w8.ownsRow B 3 1 (.slice (some ⟨g8, 0, none⟩) (acc.length + 1) cp8) (acc.length + 1) (acc.map (Value.int .i64) ++ [.int .i64 (k : Int)])) (hg : ((w1.drew).alloc (.cells #[.int .i64 (k : Int)] 3)).grownBy w8 (some g)) (hat : some g = some g8 ∨ g8 = w1.heap.size + 1) :
    ∀ w9, w9 = w8.setCell ⟨cb, 2, none⟩ (.slice (some ⟨g8, 0, none⟩) (acc.length + 1) cp8) →
    (Touch (fun j => j = cb ∨ j = g) w w9 ∧ Whole w9 cb 101 #[.pointer (some ⟨wb, 0, none⟩), .func (.func 87) #[] #[], .slice (some ⟨g8, 0, none⟩) (acc ++ [(k : Int)]).length cp8] ∧ RowI w9 B (.slice (some ⟨g8, 0, none⟩) (acc ++ [(k : Int)]).length cp8) (acc ++ [(k : Int)]) ∧ (g8 = g ∨ w.heap.size ≤ g8) ∧ Whole w9 fb 3 #[.int .i64 r]) ∧
    w9.cell? ⟨xb, 0, none⟩ = some (.pointer (some ⟨cb, 0, none⟩)) ∧ w9.cell? ⟨wb, 0, none⟩ = some v0 ∧ w9.cell? ⟨wb, 2, none⟩ = some (.int .i64 free) ∧
    ∀ u, ∃ g' cap', Whole (w9.setCell ⟨fb, 0, none⟩ (.int .i64 u)) cb 101 #[.pointer (some ⟨wb, 0, none⟩), .func (.func 87) #[] #[], .slice (some ⟨g', 0, none⟩) (acc ++ [(k : Int)]).length cap'] ∧ RowI (w9.setCell ⟨fb, 0, none⟩ (.int .i64 u)) B (.slice (some ⟨g', 0, none⟩) (acc ++ [(k : Int)]).length cap') (acc ++ [(k : Int)]) ∧ (g' = g ∨ w.heap.size ≤ g') ∧ Whole (w9.setCell ⟨fb, 0, none⟩ (.int .i64 u)) fb 3 #[.int .i64 u] ∧ Touch (fun j => j = cb ∨ j = fb ∨ j = g) w (w9.setCell ⟨fb, 0, none⟩ (.int .i64 u)) := by
  intro w9 e
  have hsz := hb1.size
  have t1 : Touch (fun j => j = g) w1 w8 := (Touch.of_below (((Below.refl _ w1).drew).alloc (Nat.le_refl _) (.cells #[.int .i64 (k : Int)] 3))).trans (Touch.grown hg rfl)
  have hg8 : g8 = g ∨ w.heap.size ≤ g8 := by
    rcases hat with e | e
    · injection e with e; exact .inl e.symm
    · exact .inr (by omega)
  have n8 : cb ≠ g8 := by
    rcases hg8 with e | e
    · rw [e]; exact n2
    · omega
  have t2 : Touch (fun j => j = cb) w8 w9 := by rw [e]; exact Touch.setCell (Touch.refl (fun j => j = cb) w8) rfl _
  have hml : (acc ++ [(k : Int)]).length = acc.length + 1 := by simp
  have hC8 := hC.touch8 t1 n2
  have hR9 : RowI w9 B (.slice (some ⟨g8, 0, none⟩) (acc ++ [(k : Int)]).length cp8) (acc ++ [(k : Int)]) := by
    have h9 := own_touch8 hown t2 (fun q hq e => by injection hq with hq; rw [← hq] at e; exact n8 e.symm)
    rw [hml]
    exact RowI.snoc h9
  have hC9 : Whole w9 cb 101 #[.pointer (some ⟨wb, 0, none⟩), .func (.func 87) #[] #[], .slice (some ⟨g8, 0, none⟩) (acc ++ [(k : Int)]).length cp8] := by rw [e, hml]; exact hC8.set 2 _
  have hF9 : Whole w9 fb 3 #[.int .i64 r] := (hF.touch8 t1 n3).touch8 t2 (fun e => n1 e.symm)
  have n10 : fb ≠ g8 := by
    rcases hg8 with e | e
    · rw [e]; exact n3
    · omega
  have t9 : Touch (fun j => j = cb ∨ j = g) w w9 := (Touch.of_below (S := fun j => j = cb ∨ j = g) hb1).trans ((t1.less (fun j h => .inr h)).trans (t2.less (fun j h => .inl h)))
  refine ⟨⟨t9, hC9, hR9, hg8, hF9⟩, ?_, ?_, ?_, fun u => ⟨g8, cp8, hC9.off n1 _, ?_, hg8, hF9.set 0 _, ?_⟩⟩
  rotate_left 3
  · exact own_touch8 hR9 (Touch.setCell (Touch.refl (fun j => j = fb) w9) rfl _) (fun q hq e => by injection hq with hq; rw [← hq] at e; exact n10 e.symm)
  · exact (t9.less (fun j h => h.elim .inl (fun h => .inr (.inr h)))).trans (Touch.setCell (Touch.refl (fun j => j = cb ∨ j = fb ∨ j = g) w9) (.inr (.inl rfl)) _)
  · exact t2.cell8 (t1.cell8 x0 n4) n5
  · exact t2.cell8 (t1.cell8 w0 n7.1) n7.2
  · exact t2.cell8 (t1.cell8 w2 n7.1) n7.2

set_option maxRecDepth 100000 in
set_option maxHeartbeats 4000000 in
theorem keepM_any (B wb cb xb fb g cap : Nat) (v vp : Value) (l : List Gt) (ps : List Int) (free : Int) (acc : List Int) (k : Nat) (r : Int) (p : Bool) (w : World)
    (hW : WayAt w wb v vp l ps free) (hz : validG l = true) (hfree : 0 ≤ free ∧ free ≤ 999)
    (hC : Whole w cb 101 #[.pointer (some ⟨wb, 0, none⟩), .func (.func 87) #[] #[], .slice (some ⟨g, 0, none⟩) acc.length cap]) (hX : w.cell? ⟨xb, 0, none⟩ = some (.pointer (some ⟨cb, 0, none⟩))) (hF : Whole w fb 3 #[.int .i64 r])
    (hR : RowI w B (.slice (some ⟨g, 0, none⟩) acc.length cap) acc) (hB : B ≤ w.heap.size) (hlen : acc.length ≤ 100) (hk : k < l.length)
    (n1 : cb ≠ fb) (n2 : cb ≠ g) (n3 : fb ≠ g) (n4 : xb ≠ g) (n5 : xb ≠ cb) (n6 : xb ≠ fb) (n7 : wb ≠ g ∧ wb ≠ cb)
    (hP : ∀ w', Below w.heap.size w w' → Calls Try.prog 87 #[.int .i64 k, .bool (decide ((l.getD k gt0).a ≤ r))] w' (Gives (.bool p) w')) :
    Calls Try.prog 122 #[.int .i64 k, .pointer (some ⟨xb, 0, none⟩), .pointer (some ⟨fb, 0, none⟩)] w (KeptM B wb cb fb g cap acc k ((l.getD k gt0).a + free) p (decide ((l.getD k gt0).a ≤ r)) w) := by
  obtain ⟨i0, hi0, hz0, hz1, hz2⟩ := info_parts Try.info3
  obtain ⟨hw1, hw2, hw3⟩ := hW
  obtain ⟨a, vcap, rfl, _, ha⟩ := hw2
  obtain ⟨b, o, rfl, hb0, hrw⟩ := ha (by intro h; simp [h] at hk)
  obtain ⟨c0, c1, c2⟩ := hrw k hk
  have hzk := validG_at hz hk
  have hten := (validG_iff.1 hz).1
  have wf0 := hw1.cell (i := 0) rfl
  have wf2 := hw1.cell (i := 2) rfl
  have d0 := hC.cell (i := 0) rfl
  have d1 := hC.cell (i := 1) rfl
  have d2 := hC.cell (i := 2) rfl
  have f0 := hF.cell (i := 0) rfl
  have hk0 : (0 : Int) ≤ (k : Int) := Int.natCast_nonneg _
  have hk1 : (k : Int) < (l.length : Int) := by omega
  have HP := Lib.hid hP
  have HC := Lib.hid hC
  have HF := Lib.hid hF
  have HR := Lib.hid hR
  have hwl := hw1.lt
  have hcl := hC.lt
  have hfl := hF.lt
  clear hP hrw ha c1 c2 hw3 hC hF hR
  generalize (l.getD k gt0).a = xa at *
  generalize (l.getD k gt0).b = xb' at *
  generalize (l.getD k gt0).m = xm at *
  go_enter Try.func122, Try.ntmps122
  go_wp2_with fail
  refine (HP.out _ (by first | exact Below.refl _ _ | exact (Below.refl _ _).drew | exact (Below.refl _ _).drewN _)).mono ?_; rintro e w1 ⟨rfl, hb1⟩
  have c0' := keepCell hb1 c0
  have w0' := keepCell hb1 wf0
  have w2' := keepCell hb1 wf2
  have d0' := keepCell hb1 d0
  have d1' := keepCell hb1 d1
  have d2' := keepCell hb1 d2
  have f0' := keepCell hb1 f0
  have x0' := keepCell hb1 hX
  have hs1 := hb1.size
  have HC1 := Lib.hid (HC.out.below hb1 hcl)
  have HF1 := Lib.hid (HF.out.below hb1 hfl)
  have HR1 := Lib.hid (HR.out.below hb1)
  have HB1 := Lib.hid hb1
  have hxl := World.block_lt_of_cell? _ _ hX
  clear hb1 c0 wf0 wf2 d0 d1 d2 f0 hX HC HF HR
  have hws : IntKind.i64.wrap (xa + free) = xa + free := IntWalk.i64_in _ (by omega)
  cases p with
  | false =>
    clear HC1 HF1 HR1
    go_wp2
    go_ret
    exact ⟨fun _ => ⟨rfl, HB1.out⟩, fun h => Bool.noConfusion h⟩
  | true =>
    have fzc : w1.frozen? ⟨cb, 2, none⟩ = false := HC1.out.free 2
    have fzf : w1.frozen? ⟨fb, 0, none⟩ = false := HF1.out.free 0
    have hrow' := HR1.out; unfold RowI at hrow'
    have Hrow' := Lib.hid hrow'; clear hrow'
    have hwd : Below w1.heap.size w1 w1.drew := (Below.refl _ _).drew
    have hEnd := keptEndM B wb cb xb fb g cap acc k r free _ w w1 HB1.out HC1.out HF1.out HR1.out hB hlen n1 n2 n3 n4 n5 n6 n7 x0' w0' w2' hcl hxl hfl hwl
    have HEnd := Lib.hid hEnd; clear hEnd
    have hal : ∀ w8, Touch (fun j => j = g) w1 w8 → w8.cell? ⟨xb, 0, none⟩ = some (.pointer (some ⟨cb, 0, none⟩)) ∧ w8.cell? ⟨cb, 2, none⟩ = some (.slice (some ⟨g, 0, none⟩) acc.length cap) ∧ w8.frozen? ⟨cb, 2, none⟩ = false :=
      fun w8 ht => ⟨ht.cell8 x0' n4, ht.cell8 d2' n2, (HC1.out.touch8 ht n2).free 2⟩
    have HAll := Lib.hid hal; clear hal
    have hrow' := HR1.out; unfold RowI at hrow'
    have Hrow' := Lib.hid hrow'; clear hrow'
    have Ht0 := Lib.hid (Touch.of_below (S := fun j => j = g) hwd)
    have Hds := Lib.hid (show w1.drew.heap.size = w1.heap.size from rfl)
    have Hdb := Lib.hid (show B ≤ w1.drew.heap.size from Nat.le_trans hB hs1)
    have Hrow0 := Lib.hid (show w1.drew.ownsRow B 3 1 _ _ _ from Hrow'.out.drew)
    generalize hmm : acc.length = m at *
    generalize hen : acc.map (Value.int .i64) = en at *
    have Hmm := Lib.hid hmm; have Hen := Lib.hid hen; clear hmm hen
    have hm100 : m ≤ 100 := hlen
    clear hwd x0' d2' fzc fzf hlen
    go_wp2_with fail
    refine wp_region_any (by kernel_rfl) ?_
    change wpAny _ _ _ _ 11 #[false, false, false, false, false, false, false, false, false, false, false] _ (World.drew _)
    refine with_Q (fun _ _ _ _ _ h => h) (fun Q hQ hN => ?_)
    have Hta := Lib.hid (Ht0.out.trans (Touch.of_below (S := fun j => j = g) ((Below.refl _ (World.drew w1)).alloc (Nat.le_refl _) (.cells #[.int .i64 (k : Int)] 3))))
    obtain ⟨hx0, hd0, hf0⟩ := HAll.out _ Ht0.out
    obtain ⟨hxa, hda, hfa⟩ := HAll.out _ Hta.out
    generalize World.drew w1 = w0 at *
    refine take_op (i := 5) (d := 35) (v := .int .i64 (k : Int)) rfl rfl (by kernel_rfl) (by kernel_rfl) (by kernel_rfl) hQ (Or.inl ⟨by rfl, fun _ => by first | rfl | (go_simp; done) | (go_simp; rfl)⟩) ?_
    simp only [Act.put, List.setIfInBounds_toArray, List.set_cons_zero, List.set_cons_succ]
    refine wpAny_ready (rs := [0, 1, 6]) (by kernel_rfl) (by simp) ?_
    refine AllReady.cons rfl (fun K hK => ?_) (AllReady.cons rfl (fun K hK => ?_) (AllReady.cons rfl (fun K hK => ?_) AllReady.nil))
    · go_simp
      refine hK _ _ ?_
      try simp only [Act.put, List.setIfInBounds_toArray, List.set_cons_zero, List.set_cons_succ]
      clear hK K
      refine wpAny_ready (rs := [1, 6]) (by kernel_rfl) (by simp) ?_
      refine AllReady.cons rfl (fun K hK => ?_) (AllReady.cons rfl (fun K hK => ?_) AllReady.nil)
      · go_simp
        refine hK _ _ ?_
        try simp only [Act.put, List.setIfInBounds_toArray, List.set_cons_zero, List.set_cons_succ]
        clear hK K
        refine take_op (i := 2) (d := 32) (v := .pointer (some ⟨cb, 0, none⟩)) rfl rfl (by kernel_rfl) (by kernel_rfl) (by kernel_rfl) hQ (Or.inl ⟨by rfl, fun _ => by first | rfl | (go_simp; done) | (go_simp; rfl)⟩) ?_
        simp only [Act.put, List.setIfInBounds_toArray, List.set_cons_zero, List.set_cons_succ]
        refine take_op (i := 3) (d := 33) (v := .pointer (some ⟨cb, 2, none⟩)) rfl rfl (by kernel_rfl) (by kernel_rfl) (by kernel_rfl) hQ (Or.inl ⟨by rfl, fun _ => by first | rfl | (go_simp; done) | (go_simp; rfl)⟩) ?_
        simp only [Act.put, List.setIfInBounds_toArray, List.set_cons_zero, List.set_cons_succ]
        refine wpAny_ready (rs := [4, 6]) (by kernel_rfl) (by simp) ?_
        refine AllReady.cons rfl (fun K hK => ?_) (AllReady.cons rfl (fun K hK => ?_) AllReady.nil)
        · go_simp
          refine hK _ _ ?_
          try simp only [Act.put, List.setIfInBounds_toArray, List.set_cons_zero, List.set_cons_succ]
          clear hK K
          refine wpAny_ready (rs := [6]) (by kernel_rfl) (by simp) ?_
          refine AllReady.cons rfl (fun K hK => ?_) AllReady.nil
          go_simp
          refine hK _ _ ?_
          try simp only [Act.put, List.setIfInBounds_toArray, List.set_cons_zero, List.set_cons_succ]
          clear hK K
          refine wpAny_ready (rs := [7]) (by kernel_rfl) (by simp) ?_
          refine AllReady.cons rfl (fun K hK => ?_) AllReady.nil
          refine step_append_lies _ (by rfl) _ _ _ (by rfl) B 3 i0 _ 1 8 Try.underlying39 hi0 hz0 hz1 hz2 rfl (by decide) _ m en (by rfl) (World.ownsRow.alloc Hrow0.out _) ⟨w0.heap.size, 0, none⟩ 1 1 [.int .i64 (k : Int)] (by rfl) (by rfl) (one_int8 w0 (k : Int)) (by simp [Value.oneCell']) (by decide) (by simp only [maxLen]; omega) (by omega) (by have := Hdb.out; simp; omega) (w0.heap.size + 1) (by simp) ?_; intro g8 cp8 w8 hown8 hgrow8 hat8 hlt8
          obtain ⟨hx8, hd8, hf8⟩ := HAll.out w8 (Hta.out.trans (Touch.grown hgrow8 rfl))
          refine hK _ _ ?_
          try simp only [Act.put, List.setIfInBounds_toArray, List.set_cons_zero, List.set_cons_succ]
          clear hK K
          refine take_op (i := 8) (d := 38) (v := .pointer (some ⟨cb, 0, none⟩)) rfl rfl (by kernel_rfl) (by kernel_rfl) (by kernel_rfl) hQ (Or.inl ⟨by rfl, fun _ => by first | rfl | (go_simp; done) | (go_simp; rfl)⟩) ?_
          simp only [Act.put, List.setIfInBounds_toArray, List.set_cons_zero, List.set_cons_succ]
          refine take_op (i := 9) (d := 39) (v := .pointer (some ⟨cb, 2, none⟩)) rfl rfl (by kernel_rfl) (by kernel_rfl) (by kernel_rfl) hQ (Or.inl ⟨by rfl, fun _ => by first | rfl | (go_simp; done) | (go_simp; rfl)⟩) ?_
          simp only [Act.put, List.setIfInBounds_toArray, List.set_cons_zero, List.set_cons_succ]
          refine wpAny_ready (rs := [10]) (by kernel_rfl) (by simp) ?_
          refine AllReady.cons rfl (fun K hK => ?_) AllReady.nil
          go_simp
          refine hK _ _ ?_
          try simp only [Act.put, List.setIfInBounds_toArray, List.set_cons_zero, List.set_cons_succ]
          clear hK K
          refine wpAny_done (by kernel_rfl) (hN _ _ ?_) _
          obtain ⟨⟨t9, hC9, hR9, hg9, hF9⟩, x9, w09, w29, hfin⟩ := HEnd.out g8 cp8 w8 hown8 hgrow8 (by rw [← Hds.out]; exact hat8) _ rfl
          have f9 := hF9.cell (i := 0) rfl
          have fz9 := hF9.free 0
          have d9 := hC9.cell (i := 0) rfl
          have Hfin := Lib.hid hfin
          clear hfin hF9 hC9 hR9 hg9 t9 hown8 hgrow8 hat8 hx8 hd8 hf8 hxa hda hfa hx0 hd0 hf0 HEnd HAll Hrow0 Hrow' Hta Ht0 hlt8
          generalize w8.setCell ⟨cb, 2, none⟩ (.slice (some ⟨g8, 0, none⟩) (m + 1) cp8) = w9 at *
          go_wp2
          go_ret
          exact ⟨fun h => Bool.noConfusion h, fun _ => ⟨rfl, Hfin.out _⟩⟩
        · go_simp
          refine hK _ _ ?_
          try simp only [Act.put, List.setIfInBounds_toArray, List.set_cons_zero, List.set_cons_succ]
          clear hK K
          refine wpAny_ready (rs := [4]) (by kernel_rfl) (by simp) ?_
          refine AllReady.cons rfl (fun K hK => ?_) AllReady.nil
          go_simp
          refine hK _ _ ?_
          try simp only [Act.put, List.setIfInBounds_toArray, List.set_cons_zero, List.set_cons_succ]
          clear hK K
          refine wpAny_ready (rs := [7]) (by kernel_rfl) (by simp) ?_
          refine AllReady.cons rfl (fun K hK => ?_) AllReady.nil
          refine step_append_lies _ (by rfl) _ _ _ (by rfl) B 3 i0 _ 1 8 Try.underlying39 hi0 hz0 hz1 hz2 rfl (by decide) _ m en (by rfl) (World.ownsRow.alloc Hrow0.out _) ⟨w0.heap.size, 0, none⟩ 1 1 [.int .i64 (k : Int)] (by rfl) (by rfl) (one_int8 w0 (k : Int)) (by simp [Value.oneCell']) (by decide) (by simp only [maxLen]; omega) (by omega) (by have := Hdb.out; simp; omega) (w0.heap.size + 1) (by simp) ?_; intro g8 cp8 w8 hown8 hgrow8 hat8 hlt8
          obtain ⟨hx8, hd8, hf8⟩ := HAll.out w8 (Hta.out.trans (Touch.grown hgrow8 rfl))
          refine hK _ _ ?_
          try simp only [Act.put, List.setIfInBounds_toArray, List.set_cons_zero, List.set_cons_succ]
          clear hK K
          refine take_op (i := 8) (d := 38) (v := .pointer (some ⟨cb, 0, none⟩)) rfl rfl (by kernel_rfl) (by kernel_rfl) (by kernel_rfl) hQ (Or.inl ⟨by rfl, fun _ => by first | rfl | (go_simp; done) | (go_simp; rfl)⟩) ?_
          simp only [Act.put, List.setIfInBounds_toArray, List.set_cons_zero, List.set_cons_succ]
          refine take_op (i := 9) (d := 39) (v := .pointer (some ⟨cb, 2, none⟩)) rfl rfl (by kernel_rfl) (by kernel_rfl) (by kernel_rfl) hQ (Or.inl ⟨by rfl, fun _ => by first | rfl | (go_simp; done) | (go_simp; rfl)⟩) ?_
          simp only [Act.put, List.setIfInBounds_toArray, List.set_cons_zero, List.set_cons_succ]
          refine wpAny_ready (rs := [10]) (by kernel_rfl) (by simp) ?_
          refine AllReady.cons rfl (fun K hK => ?_) AllReady.nil
          go_simp
          refine hK _ _ ?_
          try simp only [Act.put, List.setIfInBounds_toArray, List.set_cons_zero, List.set_cons_succ]
          clear hK K
          refine wpAny_done (by kernel_rfl) (hN _ _ ?_) _
          obtain ⟨⟨t9, hC9, hR9, hg9, hF9⟩, x9, w09, w29, hfin⟩ := HEnd.out g8 cp8 w8 hown8 hgrow8 (by rw [← Hds.out]; exact hat8) _ rfl
          have f9 := hF9.cell (i := 0) rfl
          have fz9 := hF9.free 0
          have d9 := hC9.cell (i := 0) rfl
          have Hfin := Lib.hid hfin
          clear hfin hF9 hC9 hR9 hg9 t9 hown8 hgrow8 hat8 hx8 hd8 hf8 hxa hda hfa hx0 hd0 hf0 HEnd HAll Hrow0 Hrow' Hta Ht0 hlt8
          generalize w8.setCell ⟨cb, 2, none⟩ (.slice (some ⟨g8, 0, none⟩) (m + 1) cp8) = w9 at *
          go_wp2
          go_ret
          exact ⟨fun h => Bool.noConfusion h, fun _ => ⟨rfl, Hfin.out _⟩⟩
      · go_simp
        refine hK _ _ ?_
        try simp only [Act.put, List.setIfInBounds_toArray, List.set_cons_zero, List.set_cons_succ]
        clear hK K
        refine wpAny_ready (rs := [1]) (by kernel_rfl) (by simp) ?_
        refine AllReady.cons rfl (fun K hK => ?_) AllReady.nil
        go_simp
        refine hK _ _ ?_
        try simp only [Act.put, List.setIfInBounds_toArray, List.set_cons_zero, List.set_cons_succ]
        clear hK K
        refine take_op (i := 2) (d := 32) (v := .pointer (some ⟨cb, 0, none⟩)) rfl rfl (by kernel_rfl) (by kernel_rfl) (by kernel_rfl) hQ (Or.inl ⟨by rfl, fun _ => by first | rfl | (go_simp; done) | (go_simp; rfl)⟩) ?_
        simp only [Act.put, List.setIfInBounds_toArray, List.set_cons_zero, List.set_cons_succ]
        refine take_op (i := 3) (d := 33) (v := .pointer (some ⟨cb, 2, none⟩)) rfl rfl (by kernel_rfl) (by kernel_rfl) (by kernel_rfl) hQ (Or.inl ⟨by rfl, fun _ => by first | rfl | (go_simp; done) | (go_simp; rfl)⟩) ?_
        simp only [Act.put, List.setIfInBounds_toArray, List.set_cons_zero, List.set_cons_succ]
        refine wpAny_ready (rs := [4]) (by kernel_rfl) (by simp) ?_
        refine AllReady.cons rfl (fun K hK => ?_) AllReady.nil
        go_simp
        refine hK _ _ ?_
        try simp only [Act.put, List.setIfInBounds_toArray, List.set_cons_zero, List.set_cons_succ]
        clear hK K
        refine wpAny_ready (rs := [7]) (by kernel_rfl) (by simp) ?_
        refine AllReady.cons rfl (fun K hK => ?_) AllReady.nil
        refine step_append_lies _ (by rfl) _ _ _ (by rfl) B 3 i0 _ 1 8 Try.underlying39 hi0 hz0 hz1 hz2 rfl (by decide) _ m en (by rfl) (World.ownsRow.alloc Hrow0.out _) ⟨w0.heap.size, 0, none⟩ 1 1 [.int .i64 (k : Int)] (by rfl) (by rfl) (one_int8 w0 (k : Int)) (by simp [Value.oneCell']) (by decide) (by simp only [maxLen]; omega) (by omega) (by have := Hdb.out; simp; omega) (w0.heap.size + 1) (by simp) ?_; intro g8 cp8 w8 hown8 hgrow8 hat8 hlt8
        obtain ⟨hx8, hd8, hf8⟩ := HAll.out w8 (Hta.out.trans (Touch.grown hgrow8 rfl))
        refine hK _ _ ?_
        try simp only [Act.put, List.setIfInBounds_toArray, List.set_cons_zero, List.set_cons_succ]
        clear hK K
        refine take_op (i := 8) (d := 38) (v := .pointer (some ⟨cb, 0, none⟩)) rfl rfl (by kernel_rfl) (by kernel_rfl) (by kernel_rfl) hQ (Or.inl ⟨by rfl, fun _ => by first | rfl | (go_simp; done) | (go_simp; rfl)⟩) ?_
        simp only [Act.put, List.setIfInBounds_toArray, List.set_cons_zero, List.set_cons_succ]
        refine take_op (i := 9) (d := 39) (v := .pointer (some ⟨cb, 2, none⟩)) rfl rfl (by kernel_rfl) (by kernel_rfl) (by kernel_rfl) hQ (Or.inl ⟨by rfl, fun _ => by first | rfl | (go_simp; done) | (go_simp; rfl)⟩) ?_
        simp only [Act.put, List.setIfInBounds_toArray, List.set_cons_zero, List.set_cons_succ]
        refine wpAny_ready (rs := [10]) (by kernel_rfl) (by simp) ?_
        refine AllReady.cons rfl (fun K hK => ?_) AllReady.nil
        go_simp
        refine hK _ _ ?_
        try simp only [Act.put, List.setIfInBounds_toArray, List.set_cons_zero, List.set_cons_succ]
        clear hK K
        refine wpAny_done (by kernel_rfl) (hN _ _ ?_) _
        obtain ⟨⟨t9, hC9, hR9, hg9, hF9⟩, x9, w09, w29, hfin⟩ := HEnd.out g8 cp8 w8 hown8 hgrow8 (by rw [← Hds.out]; exact hat8) _ rfl
        have f9 := hF9.cell (i := 0) rfl
        have fz9 := hF9.free 0
        have d9 := hC9.cell (i := 0) rfl
        have Hfin := Lib.hid hfin
        clear hfin hF9 hC9 hR9 hg9 t9 hown8 hgrow8 hat8 hx8 hd8 hf8 hxa hda hfa hx0 hd0 hf0 HEnd HAll Hrow0 Hrow' Hta Ht0 hlt8
        generalize w8.setCell ⟨cb, 2, none⟩ (.slice (some ⟨g8, 0, none⟩) (m + 1) cp8) = w9 at *
        go_wp2
        go_ret
        exact ⟨fun h => Bool.noConfusion h, fun _ => ⟨rfl, Hfin.out _⟩⟩
    · go_simp
      refine hK _ _ ?_
      try simp only [Act.put, List.setIfInBounds_toArray, List.set_cons_zero, List.set_cons_succ]
      clear hK K
      refine take_op (i := 2) (d := 32) (v := .pointer (some ⟨cb, 0, none⟩)) rfl rfl (by kernel_rfl) (by kernel_rfl) (by kernel_rfl) hQ (Or.inl ⟨by rfl, fun _ => by first | rfl | (go_simp; done) | (go_simp; rfl)⟩) ?_
      simp only [Act.put, List.setIfInBounds_toArray, List.set_cons_zero, List.set_cons_succ]
      refine take_op (i := 3) (d := 33) (v := .pointer (some ⟨cb, 2, none⟩)) rfl rfl (by kernel_rfl) (by kernel_rfl) (by kernel_rfl) hQ (Or.inl ⟨by rfl, fun _ => by first | rfl | (go_simp; done) | (go_simp; rfl)⟩) ?_
      simp only [Act.put, List.setIfInBounds_toArray, List.set_cons_zero, List.set_cons_succ]
      refine wpAny_ready (rs := [0, 4, 6]) (by kernel_rfl) (by simp) ?_
      refine AllReady.cons rfl (fun K hK => ?_) (AllReady.cons rfl (fun K hK => ?_) (AllReady.cons rfl (fun K hK => ?_) AllReady.nil))
      · go_simp
        refine hK _ _ ?_
        try simp only [Act.put, List.setIfInBounds_toArray, List.set_cons_zero, List.set_cons_succ]
        clear hK K
        refine wpAny_ready (rs := [4, 6]) (by kernel_rfl) (by simp) ?_
        refine AllReady.cons rfl (fun K hK => ?_) (AllReady.cons rfl (fun K hK => ?_) AllReady.nil)
        · go_simp
          refine hK _ _ ?_
          try simp only [Act.put, List.setIfInBounds_toArray, List.set_cons_zero, List.set_cons_succ]
          clear hK K
          refine wpAny_ready (rs := [6]) (by kernel_rfl) (by simp) ?_
          refine AllReady.cons rfl (fun K hK => ?_) AllReady.nil
          go_simp
          refine hK _ _ ?_
          try simp only [Act.put, List.setIfInBounds_toArray, List.set_cons_zero, List.set_cons_succ]
          clear hK K
          refine wpAny_ready (rs := [7]) (by kernel_rfl) (by simp) ?_
          refine AllReady.cons rfl (fun K hK => ?_) AllReady.nil
          refine step_append_lies _ (by rfl) _ _ _ (by rfl) B 3 i0 _ 1 8 Try.underlying39 hi0 hz0 hz1 hz2 rfl (by decide) _ m en (by rfl) (World.ownsRow.alloc Hrow0.out _) ⟨w0.heap.size, 0, none⟩ 1 1 [.int .i64 (k : Int)] (by rfl) (by rfl) (one_int8 w0 (k : Int)) (by simp [Value.oneCell']) (by decide) (by simp only [maxLen]; omega) (by omega) (by have := Hdb.out; simp; omega) (w0.heap.size + 1) (by simp) ?_; intro g8 cp8 w8 hown8 hgrow8 hat8 hlt8
          obtain ⟨hx8, hd8, hf8⟩ := HAll.out w8 (Hta.out.trans (Touch.grown hgrow8 rfl))
          refine hK _ _ ?_
          try simp only [Act.put, List.setIfInBounds_toArray, List.set_cons_zero, List.set_cons_succ]
          clear hK K
          refine take_op (i := 8) (d := 38) (v := .pointer (some ⟨cb, 0, none⟩)) rfl rfl (by kernel_rfl) (by kernel_rfl) (by kernel_rfl) hQ (Or.inl ⟨by rfl, fun _ => by first | rfl | (go_simp; done) | (go_simp; rfl)⟩) ?_
          simp only [Act.put, List.setIfInBounds_toArray, List.set_cons_zero, List.set_cons_succ]
          refine take_op (i := 9) (d := 39) (v := .pointer (some ⟨cb, 2, none⟩)) rfl rfl (by kernel_rfl) (by kernel_rfl) (by kernel_rfl) hQ (Or.inl ⟨by rfl, fun _ => by first | rfl | (go_simp; done) | (go_simp; rfl)⟩) ?_
          simp only [Act.put, List.setIfInBounds_toArray, List.set_cons_zero, List.set_cons_succ]
          refine wpAny_ready (rs := [10]) (by kernel_rfl) (by simp) ?_
          refine AllReady.cons rfl (fun K hK => ?_) AllReady.nil
          go_simp
          refine hK _ _ ?_
          try simp only [Act.put, List.setIfInBounds_toArray, List.set_cons_zero, List.set_cons_succ]
          clear hK K
          refine wpAny_done (by kernel_rfl) (hN _ _ ?_) _
          obtain ⟨⟨t9, hC9, hR9, hg9, hF9⟩, x9, w09, w29, hfin⟩ := HEnd.out g8 cp8 w8 hown8 hgrow8 (by rw [← Hds.out]; exact hat8) _ rfl
          have f9 := hF9.cell (i := 0) rfl
          have fz9 := hF9.free 0
          have d9 := hC9.cell (i := 0) rfl
          have Hfin := Lib.hid hfin
          clear hfin hF9 hC9 hR9 hg9 t9 hown8 hgrow8 hat8 hx8 hd8 hf8 hxa hda hfa hx0 hd0 hf0 HEnd HAll Hrow0 Hrow' Hta Ht0 hlt8
          generalize w8.setCell ⟨cb, 2, none⟩ (.slice (some ⟨g8, 0, none⟩) (m + 1) cp8) = w9 at *
          go_wp2
          go_ret
          exact ⟨fun h => Bool.noConfusion h, fun _ => ⟨rfl, Hfin.out _⟩⟩
        · go_simp
          refine hK _ _ ?_
          try simp only [Act.put, List.setIfInBounds_toArray, List.set_cons_zero, List.set_cons_succ]
          clear hK K
          refine wpAny_ready (rs := [4]) (by kernel_rfl) (by simp) ?_
          refine AllReady.cons rfl (fun K hK => ?_) AllReady.nil
          go_simp
          refine hK _ _ ?_
          try simp only [Act.put, List.setIfInBounds_toArray, List.set_cons_zero, List.set_cons_succ]
          clear hK K
          refine wpAny_ready (rs := [7]) (by kernel_rfl) (by simp) ?_
          refine AllReady.cons rfl (fun K hK => ?_) AllReady.nil
          refine step_append_lies _ (by rfl) _ _ _ (by rfl) B 3 i0 _ 1 8 Try.underlying39 hi0 hz0 hz1 hz2 rfl (by decide) _ m en (by rfl) (World.ownsRow.alloc Hrow0.out _) ⟨w0.heap.size, 0, none⟩ 1 1 [.int .i64 (k : Int)] (by rfl) (by rfl) (one_int8 w0 (k : Int)) (by simp [Value.oneCell']) (by decide) (by simp only [maxLen]; omega) (by omega) (by have := Hdb.out; simp; omega) (w0.heap.size + 1) (by simp) ?_; intro g8 cp8 w8 hown8 hgrow8 hat8 hlt8
          obtain ⟨hx8, hd8, hf8⟩ := HAll.out w8 (Hta.out.trans (Touch.grown hgrow8 rfl))
          refine hK _ _ ?_
          try simp only [Act.put, List.setIfInBounds_toArray, List.set_cons_zero, List.set_cons_succ]
          clear hK K
          refine take_op (i := 8) (d := 38) (v := .pointer (some ⟨cb, 0, none⟩)) rfl rfl (by kernel_rfl) (by kernel_rfl) (by kernel_rfl) hQ (Or.inl ⟨by rfl, fun _ => by first | rfl | (go_simp; done) | (go_simp; rfl)⟩) ?_
          simp only [Act.put, List.setIfInBounds_toArray, List.set_cons_zero, List.set_cons_succ]
          refine take_op (i := 9) (d := 39) (v := .pointer (some ⟨cb, 2, none⟩)) rfl rfl (by kernel_rfl) (by kernel_rfl) (by kernel_rfl) hQ (Or.inl ⟨by rfl, fun _ => by first | rfl | (go_simp; done) | (go_simp; rfl)⟩) ?_
          simp only [Act.put, List.setIfInBounds_toArray, List.set_cons_zero, List.set_cons_succ]
          refine wpAny_ready (rs := [10]) (by kernel_rfl) (by simp) ?_
          refine AllReady.cons rfl (fun K hK => ?_) AllReady.nil
          go_simp
          refine hK _ _ ?_
          try simp only [Act.put, List.setIfInBounds_toArray, List.set_cons_zero, List.set_cons_succ]
          clear hK K
          refine wpAny_done (by kernel_rfl) (hN _ _ ?_) _
          obtain ⟨⟨t9, hC9, hR9, hg9, hF9⟩, x9, w09, w29, hfin⟩ := HEnd.out g8 cp8 w8 hown8 hgrow8 (by rw [← Hds.out]; exact hat8) _ rfl
          have f9 := hF9.cell (i := 0) rfl
          have fz9 := hF9.free 0
          have d9 := hC9.cell (i := 0) rfl
          have Hfin := Lib.hid hfin
          clear hfin hF9 hC9 hR9 hg9 t9 hown8 hgrow8 hat8 hx8 hd8 hf8 hxa hda hfa hx0 hd0 hf0 HEnd HAll Hrow0 Hrow' Hta Ht0 hlt8
          generalize w8.setCell ⟨cb, 2, none⟩ (.slice (some ⟨g8, 0, none⟩) (m + 1) cp8) = w9 at *
          go_wp2
          go_ret
          exact ⟨fun h => Bool.noConfusion h, fun _ => ⟨rfl, Hfin.out _⟩⟩
      · go_simp
        refine hK _ _ ?_
        try simp only [Act.put, List.setIfInBounds_toArray, List.set_cons_zero, List.set_cons_succ]
        clear hK K
        refine wpAny_ready (rs := [0, 6]) (by kernel_rfl) (by simp) ?_
        refine AllReady.cons rfl (fun K hK => ?_) (AllReady.cons rfl (fun K hK => ?_) AllReady.nil)
        · go_simp
          refine hK _ _ ?_
          try simp only [Act.put, List.setIfInBounds_toArray, List.set_cons_zero, List.set_cons_succ]
          clear hK K
          refine wpAny_ready (rs := [6]) (by kernel_rfl) (by simp) ?_
          refine AllReady.cons rfl (fun K hK => ?_) AllReady.nil
          go_simp
          refine hK _ _ ?_
          try simp only [Act.put, List.setIfInBounds_toArray, List.set_cons_zero, List.set_cons_succ]
          clear hK K
          refine wpAny_ready (rs := [7]) (by kernel_rfl) (by simp) ?_
          refine AllReady.cons rfl (fun K hK => ?_) AllReady.nil
          refine step_append_lies _ (by rfl) _ _ _ (by rfl) B 3 i0 _ 1 8 Try.underlying39 hi0 hz0 hz1 hz2 rfl (by decide) _ m en (by rfl) (World.ownsRow.alloc Hrow0.out _) ⟨w0.heap.size, 0, none⟩ 1 1 [.int .i64 (k : Int)] (by rfl) (by rfl) (one_int8 w0 (k : Int)) (by simp [Value.oneCell']) (by decide) (by simp only [maxLen]; omega) (by omega) (by have := Hdb.out; simp; omega) (w0.heap.size + 1) (by simp) ?_; intro g8 cp8 w8 hown8 hgrow8 hat8 hlt8
          obtain ⟨hx8, hd8, hf8⟩ := HAll.out w8 (Hta.out.trans (Touch.grown hgrow8 rfl))
          refine hK _ _ ?_
          try simp only [Act.put, List.setIfInBounds_toArray, List.set_cons_zero, List.set_cons_succ]
          clear hK K
          refine take_op (i := 8) (d := 38) (v := .pointer (some ⟨cb, 0, none⟩)) rfl rfl (by kernel_rfl) (by kernel_rfl) (by kernel_rfl) hQ (Or.inl ⟨by rfl, fun _ => by first | rfl | (go_simp; done) | (go_simp; rfl)⟩) ?_
          simp only [Act.put, List.setIfInBounds_toArray, List.set_cons_zero, List.set_cons_succ]
          refine take_op (i := 9) (d := 39) (v := .pointer (some ⟨cb, 2, none⟩)) rfl rfl (by kernel_rfl) (by kernel_rfl) (by kernel_rfl) hQ (Or.inl ⟨by rfl, fun _ => by first | rfl | (go_simp; done) | (go_simp; rfl)⟩) ?_
          simp only [Act.put, List.setIfInBounds_toArray, List.set_cons_zero, List.set_cons_succ]
          refine wpAny_ready (rs := [10]) (by kernel_rfl) (by simp) ?_
          refine AllReady.cons rfl (fun K hK => ?_) AllReady.nil
          go_simp
          refine hK _ _ ?_
          try simp only [Act.put, List.setIfInBounds_toArray, List.set_cons_zero, List.set_cons_succ]
          clear hK K
          refine wpAny_done (by kernel_rfl) (hN _ _ ?_) _
          obtain ⟨⟨t9, hC9, hR9, hg9, hF9⟩, x9, w09, w29, hfin⟩ := HEnd.out g8 cp8 w8 hown8 hgrow8 (by rw [← Hds.out]; exact hat8) _ rfl
          have f9 := hF9.cell (i := 0) rfl
          have fz9 := hF9.free 0
          have d9 := hC9.cell (i := 0) rfl
          have Hfin := Lib.hid hfin
          clear hfin hF9 hC9 hR9 hg9 t9 hown8 hgrow8 hat8 hx8 hd8 hf8 hxa hda hfa hx0 hd0 hf0 HEnd HAll Hrow0 Hrow' Hta Ht0 hlt8
          generalize w8.setCell ⟨cb, 2, none⟩ (.slice (some ⟨g8, 0, none⟩) (m + 1) cp8) = w9 at *
          go_wp2
          go_ret
          exact ⟨fun h => Bool.noConfusion h, fun _ => ⟨rfl, Hfin.out _⟩⟩
        · go_simp
          refine hK _ _ ?_
          try simp only [Act.put, List.setIfInBounds_toArray, List.set_cons_zero, List.set_cons_succ]
          clear hK K
          refine wpAny_ready (rs := [0, 7]) (by kernel_rfl) (by simp) ?_
          refine AllReady.cons rfl (fun K hK => ?_) (AllReady.cons rfl (fun K hK => ?_) AllReady.nil)
          · go_simp
            refine hK _ _ ?_
            try simp only [Act.put, List.setIfInBounds_toArray, List.set_cons_zero, List.set_cons_succ]
            clear hK K
            refine wpAny_ready (rs := [7]) (by kernel_rfl) (by simp) ?_
            refine AllReady.cons rfl (fun K hK => ?_) AllReady.nil
            refine step_append_lies _ (by rfl) _ _ _ (by rfl) B 3 i0 _ 1 8 Try.underlying39 hi0 hz0 hz1 hz2 rfl (by decide) _ m en (by rfl) (World.ownsRow.alloc Hrow0.out _) ⟨w0.heap.size, 0, none⟩ 1 1 [.int .i64 (k : Int)] (by rfl) (by rfl) (one_int8 w0 (k : Int)) (by simp [Value.oneCell']) (by decide) (by simp only [maxLen]; omega) (by omega) (by have := Hdb.out; simp; omega) (w0.heap.size + 1) (by simp) ?_; intro g8 cp8 w8 hown8 hgrow8 hat8 hlt8
            obtain ⟨hx8, hd8, hf8⟩ := HAll.out w8 (Hta.out.trans (Touch.grown hgrow8 rfl))
            refine hK _ _ ?_
            try simp only [Act.put, List.setIfInBounds_toArray, List.set_cons_zero, List.set_cons_succ]
            clear hK K
            refine take_op (i := 8) (d := 38) (v := .pointer (some ⟨cb, 0, none⟩)) rfl rfl (by kernel_rfl) (by kernel_rfl) (by kernel_rfl) hQ (Or.inl ⟨by rfl, fun _ => by first | rfl | (go_simp; done) | (go_simp; rfl)⟩) ?_
            simp only [Act.put, List.setIfInBounds_toArray, List.set_cons_zero, List.set_cons_succ]
            refine take_op (i := 9) (d := 39) (v := .pointer (some ⟨cb, 2, none⟩)) rfl rfl (by kernel_rfl) (by kernel_rfl) (by kernel_rfl) hQ (Or.inl ⟨by rfl, fun _ => by first | rfl | (go_simp; done) | (go_simp; rfl)⟩) ?_
            simp only [Act.put, List.setIfInBounds_toArray, List.set_cons_zero, List.set_cons_succ]
            refine wpAny_ready (rs := [10]) (by kernel_rfl) (by simp) ?_
            refine AllReady.cons rfl (fun K hK => ?_) AllReady.nil
            go_simp
            refine hK _ _ ?_
            try simp only [Act.put, List.setIfInBounds_toArray, List.set_cons_zero, List.set_cons_succ]
            clear hK K
            refine wpAny_done (by kernel_rfl) (hN _ _ ?_) _
            obtain ⟨⟨t9, hC9, hR9, hg9, hF9⟩, x9, w09, w29, hfin⟩ := HEnd.out g8 cp8 w8 hown8 hgrow8 (by rw [← Hds.out]; exact hat8) _ rfl
            have f9 := hF9.cell (i := 0) rfl
            have fz9 := hF9.free 0
            have d9 := hC9.cell (i := 0) rfl
            have Hfin := Lib.hid hfin
            clear hfin hF9 hC9 hR9 hg9 t9 hown8 hgrow8 hat8 hx8 hd8 hf8 hxa hda hfa hx0 hd0 hf0 HEnd HAll Hrow0 Hrow' Hta Ht0 hlt8
            generalize w8.setCell ⟨cb, 2, none⟩ (.slice (some ⟨g8, 0, none⟩) (m + 1) cp8) = w9 at *
            go_wp2
            go_ret
            exact ⟨fun h => Bool.noConfusion h, fun _ => ⟨rfl, Hfin.out _⟩⟩
          · refine step_append_lies _ (by rfl) _ _ _ (by rfl) B 3 i0 _ 1 8 Try.underlying39 hi0 hz0 hz1 hz2 rfl (by decide) _ m en (by rfl) (World.ownsRow.alloc Hrow0.out _) ⟨w0.heap.size, 0, none⟩ 1 1 [.int .i64 (k : Int)] (by rfl) (by rfl) (one_int8 w0 (k : Int)) (by simp [Value.oneCell']) (by decide) (by simp only [maxLen]; omega) (by omega) (by have := Hdb.out; simp; omega) (w0.heap.size + 1) (by simp) ?_; intro g8 cp8 w8 hown8 hgrow8 hat8 hlt8
            obtain ⟨hx8, hd8, hf8⟩ := HAll.out w8 (Hta.out.trans (Touch.grown hgrow8 rfl))
            refine hK _ _ ?_
            try simp only [Act.put, List.setIfInBounds_toArray, List.set_cons_zero, List.set_cons_succ]
            clear hK K
            refine wpAny_ready (rs := [0]) (by kernel_rfl) (by simp) ?_
            refine AllReady.cons rfl (fun K hK => ?_) AllReady.nil
            go_simp
            refine hK _ _ ?_
            try simp only [Act.put, List.setIfInBounds_toArray, List.set_cons_zero, List.set_cons_succ]
            clear hK K
            refine take_op (i := 8) (d := 38) (v := .pointer (some ⟨cb, 0, none⟩)) rfl rfl (by kernel_rfl) (by kernel_rfl) (by kernel_rfl) hQ (Or.inl ⟨by rfl, fun _ => by first | rfl | (go_simp; done) | (go_simp; rfl)⟩) ?_
            simp only [Act.put, List.setIfInBounds_toArray, List.set_cons_zero, List.set_cons_succ]
            refine take_op (i := 9) (d := 39) (v := .pointer (some ⟨cb, 2, none⟩)) rfl rfl (by kernel_rfl) (by kernel_rfl) (by kernel_rfl) hQ (Or.inl ⟨by rfl, fun _ => by first | rfl | (go_simp; done) | (go_simp; rfl)⟩) ?_
            simp only [Act.put, List.setIfInBounds_toArray, List.set_cons_zero, List.set_cons_succ]
            refine wpAny_ready (rs := [10]) (by kernel_rfl) (by simp) ?_
            refine AllReady.cons rfl (fun K hK => ?_) AllReady.nil
            go_simp
            refine hK _ _ ?_
            try simp only [Act.put, List.setIfInBounds_toArray, List.set_cons_zero, List.set_cons_succ]
            clear hK K
            refine wpAny_done (by kernel_rfl) (hN _ _ ?_) _
            obtain ⟨⟨t9, hC9, hR9, hg9, hF9⟩, x9, w09, w29, hfin⟩ := HEnd.out g8 cp8 w8 hown8 hgrow8 (by rw [← Hds.out]; exact hat8) _ rfl
            have f9 := hF9.cell (i := 0) rfl
            have fz9 := hF9.free 0
            have d9 := hC9.cell (i := 0) rfl
            have Hfin := Lib.hid hfin
            clear hfin hF9 hC9 hR9 hg9 t9 hown8 hgrow8 hat8 hx8 hd8 hf8 hxa hda hfa hx0 hd0 hf0 HEnd HAll Hrow0 Hrow' Hta Ht0 hlt8
            generalize w8.setCell ⟨cb, 2, none⟩ (.slice (some ⟨g8, 0, none⟩) (m + 1) cp8) = w9 at *
            go_wp2
            go_ret
            exact ⟨fun h => Bool.noConfusion h, fun _ => ⟨rfl, Hfin.out _⟩⟩
      · go_simp
        refine hK _ _ ?_
        try simp only [Act.put, List.setIfInBounds_toArray, List.set_cons_zero, List.set_cons_succ]
        clear hK K
        refine wpAny_ready (rs := [0, 4]) (by kernel_rfl) (by simp) ?_
        refine AllReady.cons rfl (fun K hK => ?_) (AllReady.cons rfl (fun K hK => ?_) AllReady.nil)
        · go_simp
          refine hK _ _ ?_
          try simp only [Act.put, List.setIfInBounds_toArray, List.set_cons_zero, List.set_cons_succ]
          clear hK K
          refine wpAny_ready (rs := [4]) (by kernel_rfl) (by simp) ?_
          refine AllReady.cons rfl (fun K hK => ?_) AllReady.nil
          go_simp
          refine hK _ _ ?_
          try simp only [Act.put, List.setIfInBounds_toArray, List.set_cons_zero, List.set_cons_succ]
          clear hK K
          refine wpAny_ready (rs := [7]) (by kernel_rfl) (by simp) ?_
          refine AllReady.cons rfl (fun K hK => ?_) AllReady.nil
          refine step_append_lies _ (by rfl) _ _ _ (by rfl) B 3 i0 _ 1 8 Try.underlying39 hi0 hz0 hz1 hz2 rfl (by decide) _ m en (by rfl) (World.ownsRow.alloc Hrow0.out _) ⟨w0.heap.size, 0, none⟩ 1 1 [.int .i64 (k : Int)] (by rfl) (by rfl) (one_int8 w0 (k : Int)) (by simp [Value.oneCell']) (by decide) (by simp only [maxLen]; omega) (by omega) (by have := Hdb.out; simp; omega) (w0.heap.size + 1) (by simp) ?_; intro g8 cp8 w8 hown8 hgrow8 hat8 hlt8
          obtain ⟨hx8, hd8, hf8⟩ := HAll.out w8 (Hta.out.trans (Touch.grown hgrow8 rfl))
          refine hK _ _ ?_
          try simp only [Act.put, List.setIfInBounds_toArray, List.set_cons_zero, List.set_cons_succ]
          clear hK K
          refine take_op (i := 8) (d := 38) (v := .pointer (some ⟨cb, 0, none⟩)) rfl rfl (by kernel_rfl) (by kernel_rfl) (by kernel_rfl) hQ (Or.inl ⟨by rfl, fun _ => by first | rfl | (go_simp; done) | (go_simp; rfl)⟩) ?_
          simp only [Act.put, List.setIfInBounds_toArray, List.set_cons_zero, List.set_cons_succ]
          refine take_op (i := 9) (d := 39) (v := .pointer (some ⟨cb, 2, none⟩)) rfl rfl (by kernel_rfl) (by kernel_rfl) (by kernel_rfl) hQ (Or.inl ⟨by rfl, fun _ => by first | rfl | (go_simp; done) | (go_simp; rfl)⟩) ?_
          simp only [Act.put, List.setIfInBounds_toArray, List.set_cons_zero, List.set_cons_succ]
          refine wpAny_ready (rs := [10]) (by kernel_rfl) (by simp) ?_
          refine AllReady.cons rfl (fun K hK => ?_) AllReady.nil
          go_simp
          refine hK _ _ ?_
          try simp only [Act.put, List.setIfInBounds_toArray, List.set_cons_zero, List.set_cons_succ]
          clear hK K
          refine wpAny_done (by kernel_rfl) (hN _ _ ?_) _
          obtain ⟨⟨t9, hC9, hR9, hg9, hF9⟩, x9, w09, w29, hfin⟩ := HEnd.out g8 cp8 w8 hown8 hgrow8 (by rw [← Hds.out]; exact hat8) _ rfl
          have f9 := hF9.cell (i := 0) rfl
          have fz9 := hF9.free 0
          have d9 := hC9.cell (i := 0) rfl
          have Hfin := Lib.hid hfin
          clear hfin hF9 hC9 hR9 hg9 t9 hown8 hgrow8 hat8 hx8 hd8 hf8 hxa hda hfa hx0 hd0 hf0 HEnd HAll Hrow0 Hrow' Hta Ht0 hlt8
          generalize w8.setCell ⟨cb, 2, none⟩ (.slice (some ⟨g8, 0, none⟩) (m + 1) cp8) = w9 at *
          go_wp2
          go_ret
          exact ⟨fun h => Bool.noConfusion h, fun _ => ⟨rfl, Hfin.out _⟩⟩
        · go_simp
          refine hK _ _ ?_
          try simp only [Act.put, List.setIfInBounds_toArray, List.set_cons_zero, List.set_cons_succ]
          clear hK K
          refine wpAny_ready (rs := [0, 7]) (by kernel_rfl) (by simp) ?_
          refine AllReady.cons rfl (fun K hK => ?_) (AllReady.cons rfl (fun K hK => ?_) AllReady.nil)
          · go_simp
            refine hK _ _ ?_
            try simp only [Act.put, List.setIfInBounds_toArray, List.set_cons_zero, List.set_cons_succ]
            clear hK K
            refine wpAny_ready (rs := [7]) (by kernel_rfl) (by simp) ?_
            refine AllReady.cons rfl (fun K hK => ?_) AllReady.nil
            refine step_append_lies _ (by rfl) _ _ _ (by rfl) B 3 i0 _ 1 8 Try.underlying39 hi0 hz0 hz1 hz2 rfl (by decide) _ m en (by rfl) (World.ownsRow.alloc Hrow0.out _) ⟨w0.heap.size, 0, none⟩ 1 1 [.int .i64 (k : Int)] (by rfl) (by rfl) (one_int8 w0 (k : Int)) (by simp [Value.oneCell']) (by decide) (by simp only [maxLen]; omega) (by omega) (by have := Hdb.out; simp; omega) (w0.heap.size + 1) (by simp) ?_; intro g8 cp8 w8 hown8 hgrow8 hat8 hlt8
            obtain ⟨hx8, hd8, hf8⟩ := HAll.out w8 (Hta.out.trans (Touch.grown hgrow8 rfl))
            refine hK _ _ ?_
            try simp only [Act.put, List.setIfInBounds_toArray, List.set_cons_zero, List.set_cons_succ]
            clear hK K
            refine take_op (i := 8) (d := 38) (v := .pointer (some ⟨cb, 0, none⟩)) rfl rfl (by kernel_rfl) (by kernel_rfl) (by kernel_rfl) hQ (Or.inl ⟨by rfl, fun _ => by first | rfl | (go_simp; done) | (go_simp; rfl)⟩) ?_
            simp only [Act.put, List.setIfInBounds_toArray, List.set_cons_zero, List.set_cons_succ]
            refine take_op (i := 9) (d := 39) (v := .pointer (some ⟨cb, 2, none⟩)) rfl rfl (by kernel_rfl) (by kernel_rfl) (by kernel_rfl) hQ (Or.inl ⟨by rfl, fun _ => by first | rfl | (go_simp; done) | (go_simp; rfl)⟩) ?_
            simp only [Act.put, List.setIfInBounds_toArray, List.set_cons_zero, List.set_cons_succ]
            refine wpAny_ready (rs := [10]) (by kernel_rfl) (by simp) ?_
            refine AllReady.cons rfl (fun K hK => ?_) AllReady.nil
            go_simp
            refine hK _ _ ?_
            try simp only [Act.put, List.setIfInBounds_toArray, List.set_cons_zero, List.set_cons_succ]
            clear hK K
            refine wpAny_done (by kernel_rfl) (hN _ _ ?_) _
            obtain ⟨⟨t9, hC9, hR9, hg9, hF9⟩, x9, w09, w29, hfin⟩ := HEnd.out g8 cp8 w8 hown8 hgrow8 (by rw [← Hds.out]; exact hat8) _ rfl
            have f9 := hF9.cell (i := 0) rfl
            have fz9 := hF9.free 0
            have d9 := hC9.cell (i := 0) rfl
            have Hfin := Lib.hid hfin
            clear hfin hF9 hC9 hR9 hg9 t9 hown8 hgrow8 hat8 hx8 hd8 hf8 hxa hda hfa hx0 hd0 hf0 HEnd HAll Hrow0 Hrow' Hta Ht0 hlt8
            generalize w8.setCell ⟨cb, 2, none⟩ (.slice (some ⟨g8, 0, none⟩) (m + 1) cp8) = w9 at *
            go_wp2
            go_ret
            exact ⟨fun h => Bool.noConfusion h, fun _ => ⟨rfl, Hfin.out _⟩⟩
          · refine step_append_lies _ (by rfl) _ _ _ (by rfl) B 3 i0 _ 1 8 Try.underlying39 hi0 hz0 hz1 hz2 rfl (by decide) _ m en (by rfl) (World.ownsRow.alloc Hrow0.out _) ⟨w0.heap.size, 0, none⟩ 1 1 [.int .i64 (k : Int)] (by rfl) (by rfl) (one_int8 w0 (k : Int)) (by simp [Value.oneCell']) (by decide) (by simp only [maxLen]; omega) (by omega) (by have := Hdb.out; simp; omega) (w0.heap.size + 1) (by simp) ?_; intro g8 cp8 w8 hown8 hgrow8 hat8 hlt8
            obtain ⟨hx8, hd8, hf8⟩ := HAll.out w8 (Hta.out.trans (Touch.grown hgrow8 rfl))
            refine hK _ _ ?_
            try simp only [Act.put, List.setIfInBounds_toArray, List.set_cons_zero, List.set_cons_succ]
            clear hK K
            refine wpAny_ready (rs := [0]) (by kernel_rfl) (by simp) ?_
            refine AllReady.cons rfl (fun K hK => ?_) AllReady.nil
            go_simp
            refine hK _ _ ?_
            try simp only [Act.put, List.setIfInBounds_toArray, List.set_cons_zero, List.set_cons_succ]
            clear hK K
            refine take_op (i := 8) (d := 38) (v := .pointer (some ⟨cb, 0, none⟩)) rfl rfl (by kernel_rfl) (by kernel_rfl) (by kernel_rfl) hQ (Or.inl ⟨by rfl, fun _ => by first | rfl | (go_simp; done) | (go_simp; rfl)⟩) ?_
            simp only [Act.put, List.setIfInBounds_toArray, List.set_cons_zero, List.set_cons_succ]
            refine take_op (i := 9) (d := 39) (v := .pointer (some ⟨cb, 2, none⟩)) rfl rfl (by kernel_rfl) (by kernel_rfl) (by kernel_rfl) hQ (Or.inl ⟨by rfl, fun _ => by first | rfl | (go_simp; done) | (go_simp; rfl)⟩) ?_
            simp only [Act.put, List.setIfInBounds_toArray, List.set_cons_zero, List.set_cons_succ]
            refine wpAny_ready (rs := [10]) (by kernel_rfl) (by simp) ?_
            refine AllReady.cons rfl (fun K hK => ?_) AllReady.nil
            go_simp
            refine hK _ _ ?_
            try simp only [Act.put, List.setIfInBounds_toArray, List.set_cons_zero, List.set_cons_succ]
            clear hK K
            refine wpAny_done (by kernel_rfl) (hN _ _ ?_) _
            obtain ⟨⟨t9, hC9, hR9, hg9, hF9⟩, x9, w09, w29, hfin⟩ := HEnd.out g8 cp8 w8 hown8 hgrow8 (by rw [← Hds.out]; exact hat8) _ rfl
            have f9 := hF9.cell (i := 0) rfl
            have fz9 := hF9.free 0
            have d9 := hC9.cell (i := 0) rfl
            have Hfin := Lib.hid hfin
            clear hfin hF9 hC9 hR9 hg9 t9 hown8 hgrow8 hat8 hx8 hd8 hf8 hxa hda hfa hx0 hd0 hf0 HEnd HAll Hrow0 Hrow' Hta Ht0 hlt8
            generalize w8.setCell ⟨cb, 2, none⟩ (.slice (some ⟨g8, 0, none⟩) (m + 1) cp8) = w9 at *
            go_wp2
            go_ret
            exact ⟨fun h => Bool.noConfusion h, fun _ => ⟨rfl, Hfin.out _⟩⟩
    · go_simp
      refine hK _ _ ?_
      try simp only [Act.put, List.setIfInBounds_toArray, List.set_cons_zero, List.set_cons_succ]
      clear hK K
      refine wpAny_ready (rs := [0, 1]) (by kernel_rfl) (by simp) ?_
      refine AllReady.cons rfl (fun K hK => ?_) (AllReady.cons rfl (fun K hK => ?_) AllReady.nil)
      · go_simp
        refine hK _ _ ?_
        try simp only [Act.put, List.setIfInBounds_toArray, List.set_cons_zero, List.set_cons_succ]
        clear hK K
        refine wpAny_ready (rs := [1]) (by kernel_rfl) (by simp) ?_
        refine AllReady.cons rfl (fun K hK => ?_) AllReady.nil
        go_simp
        refine hK _ _ ?_
        try simp only [Act.put, List.setIfInBounds_toArray, List.set_cons_zero, List.set_cons_succ]
        clear hK K
        refine take_op (i := 2) (d := 32) (v := .pointer (some ⟨cb, 0, none⟩)) rfl rfl (by kernel_rfl) (by kernel_rfl) (by kernel_rfl) hQ (Or.inl ⟨by rfl, fun _ => by first | rfl | (go_simp; done) | (go_simp; rfl)⟩) ?_
        simp only [Act.put, List.setIfInBounds_toArray, List.set_cons_zero, List.set_cons_succ]
        refine take_op (i := 3) (d := 33) (v := .pointer (some ⟨cb, 2, none⟩)) rfl rfl (by kernel_rfl) (by kernel_rfl) (by kernel_rfl) hQ (Or.inl ⟨by rfl, fun _ => by first | rfl | (go_simp; done) | (go_simp; rfl)⟩) ?_
        simp only [Act.put, List.setIfInBounds_toArray, List.set_cons_zero, List.set_cons_succ]
        refine wpAny_ready (rs := [4]) (by kernel_rfl) (by simp) ?_
        refine AllReady.cons rfl (fun K hK => ?_) AllReady.nil
        go_simp
        refine hK _ _ ?_
        try simp only [Act.put, List.setIfInBounds_toArray, List.set_cons_zero, List.set_cons_succ]
        clear hK K
        refine wpAny_ready (rs := [7]) (by kernel_rfl) (by simp) ?_
        refine AllReady.cons rfl (fun K hK => ?_) AllReady.nil
        refine step_append_lies _ (by rfl) _ _ _ (by rfl) B 3 i0 _ 1 8 Try.underlying39 hi0 hz0 hz1 hz2 rfl (by decide) _ m en (by rfl) (World.ownsRow.alloc Hrow0.out _) ⟨w0.heap.size, 0, none⟩ 1 1 [.int .i64 (k : Int)] (by rfl) (by rfl) (one_int8 w0 (k : Int)) (by simp [Value.oneCell']) (by decide) (by simp only [maxLen]; omega) (by omega) (by have := Hdb.out; simp; omega) (w0.heap.size + 1) (by simp) ?_; intro g8 cp8 w8 hown8 hgrow8 hat8 hlt8
        obtain ⟨hx8, hd8, hf8⟩ := HAll.out w8 (Hta.out.trans (Touch.grown hgrow8 rfl))
        refine hK _ _ ?_
        try simp only [Act.put, List.setIfInBounds_toArray, List.set_cons_zero, List.set_cons_succ]
        clear hK K
        refine take_op (i := 8) (d := 38) (v := .pointer (some ⟨cb, 0, none⟩)) rfl rfl (by kernel_rfl) (by kernel_rfl) (by kernel_rfl) hQ (Or.inl ⟨by rfl, fun _ => by first | rfl | (go_simp; done) | (go_simp; rfl)⟩) ?_
        simp only [Act.put, List.setIfInBounds_toArray, List.set_cons_zero, List.set_cons_succ]
        refine take_op (i := 9) (d := 39) (v := .pointer (some ⟨cb, 2, none⟩)) rfl rfl (by kernel_rfl) (by kernel_rfl) (by kernel_rfl) hQ (Or.inl ⟨by rfl, fun _ => by first | rfl | (go_simp; done) | (go_simp; rfl)⟩) ?_
        simp only [Act.put, List.setIfInBounds_toArray, List.set_cons_zero, List.set_cons_succ]
        refine wpAny_ready (rs := [10]) (by kernel_rfl) (by simp) ?_
        refine AllReady.cons rfl (fun K hK => ?_) AllReady.nil
        go_simp
        refine hK _ _ ?_
        try simp only [Act.put, List.setIfInBounds_toArray, List.set_cons_zero, List.set_cons_succ]
        clear hK K
        refine wpAny_done (by kernel_rfl) (hN _ _ ?_) _
        obtain ⟨⟨t9, hC9, hR9, hg9, hF9⟩, x9, w09, w29, hfin⟩ := HEnd.out g8 cp8 w8 hown8 hgrow8 (by rw [← Hds.out]; exact hat8) _ rfl
        have f9 := hF9.cell (i := 0) rfl
        have fz9 := hF9.free 0
        have d9 := hC9.cell (i := 0) rfl
        have Hfin := Lib.hid hfin
        clear hfin hF9 hC9 hR9 hg9 t9 hown8 hgrow8 hat8 hx8 hd8 hf8 hxa hda hfa hx0 hd0 hf0 HEnd HAll Hrow0 Hrow' Hta Ht0 hlt8
        generalize w8.setCell ⟨cb, 2, none⟩ (.slice (some ⟨g8, 0, none⟩) (m + 1) cp8) = w9 at *
        go_wp2
        go_ret
        exact ⟨fun h => Bool.noConfusion h, fun _ => ⟨rfl, Hfin.out _⟩⟩
      · go_simp
        refine hK _ _ ?_
        try simp only [Act.put, List.setIfInBounds_toArray, List.set_cons_zero, List.set_cons_succ]
        clear hK K
        refine take_op (i := 2) (d := 32) (v := .pointer (some ⟨cb, 0, none⟩)) rfl rfl (by kernel_rfl) (by kernel_rfl) (by kernel_rfl) hQ (Or.inl ⟨by rfl, fun _ => by first | rfl | (go_simp; done) | (go_simp; rfl)⟩) ?_
        simp only [Act.put, List.setIfInBounds_toArray, List.set_cons_zero, List.set_cons_succ]
        refine take_op (i := 3) (d := 33) (v := .pointer (some ⟨cb, 2, none⟩)) rfl rfl (by kernel_rfl) (by kernel_rfl) (by kernel_rfl) hQ (Or.inl ⟨by rfl, fun _ => by first | rfl | (go_simp; done) | (go_simp; rfl)⟩) ?_
        simp only [Act.put, List.setIfInBounds_toArray, List.set_cons_zero, List.set_cons_succ]
        refine wpAny_ready (rs := [0, 4]) (by kernel_rfl) (by simp) ?_
        refine AllReady.cons rfl (fun K hK => ?_) (AllReady.cons rfl (fun K hK => ?_) AllReady.nil)
        · go_simp
          refine hK _ _ ?_
          try simp only [Act.put, List.setIfInBounds_toArray, List.set_cons_zero, List.set_cons_succ]
          clear hK K
          refine wpAny_ready (rs := [4]) (by kernel_rfl) (by simp) ?_
          refine AllReady.cons rfl (fun K hK => ?_) AllReady.nil
          go_simp
          refine hK _ _ ?_
          try simp only [Act.put, List.setIfInBounds_toArray, List.set_cons_zero, List.set_cons_succ]
          clear hK K
          refine wpAny_ready (rs := [7]) (by kernel_rfl) (by simp) ?_
          refine AllReady.cons rfl (fun K hK => ?_) AllReady.nil
          refine step_append_lies _ (by rfl) _ _ _ (by rfl) B 3 i0 _ 1 8 Try.underlying39 hi0 hz0 hz1 hz2 rfl (by decide) _ m en (by rfl) (World.ownsRow.alloc Hrow0.out _) ⟨w0.heap.size, 0, none⟩ 1 1 [.int .i64 (k : Int)] (by rfl) (by rfl) (one_int8 w0 (k : Int)) (by simp [Value.oneCell']) (by decide) (by simp only [maxLen]; omega) (by omega) (by have := Hdb.out; simp; omega) (w0.heap.size + 1) (by simp) ?_; intro g8 cp8 w8 hown8 hgrow8 hat8 hlt8
          obtain ⟨hx8, hd8, hf8⟩ := HAll.out w8 (Hta.out.trans (Touch.grown hgrow8 rfl))
          refine hK _ _ ?_
          try simp only [Act.put, List.setIfInBounds_toArray, List.set_cons_zero, List.set_cons_succ]
          clear hK K
          refine take_op (i := 8) (d := 38) (v := .pointer (some ⟨cb, 0, none⟩)) rfl rfl (by kernel_rfl) (by kernel_rfl) (by kernel_rfl) hQ (Or.inl ⟨by rfl, fun _ => by first | rfl | (go_simp; done) | (go_simp; rfl)⟩) ?_
          simp only [Act.put, List.setIfInBounds_toArray, List.set_cons_zero, List.set_cons_succ]
          refine take_op (i := 9) (d := 39) (v := .pointer (some ⟨cb, 2, none⟩)) rfl rfl (by kernel_rfl) (by kernel_rfl) (by kernel_rfl) hQ (Or.inl ⟨by rfl, fun _ => by first | rfl | (go_simp; done) | (go_simp; rfl)⟩) ?_
          simp only [Act.put, List.setIfInBounds_toArray, List.set_cons_zero, List.set_cons_succ]
          refine wpAny_ready (rs := [10]) (by kernel_rfl) (by simp) ?_
          refine AllReady.cons rfl (fun K hK => ?_) AllReady.nil
          go_simp
          refine hK _ _ ?_
          try simp only [Act.put, List.setIfInBounds_toArray, List.set_cons_zero, List.set_cons_succ]
          clear hK K
          refine wpAny_done (by kernel_rfl) (hN _ _ ?_) _
          obtain ⟨⟨t9, hC9, hR9, hg9, hF9⟩, x9, w09, w29, hfin⟩ := HEnd.out g8 cp8 w8 hown8 hgrow8 (by rw [← Hds.out]; exact hat8) _ rfl
          have f9 := hF9.cell (i := 0) rfl
          have fz9 := hF9.free 0
          have d9 := hC9.cell (i := 0) rfl
          have Hfin := Lib.hid hfin
          clear hfin hF9 hC9 hR9 hg9 t9 hown8 hgrow8 hat8 hx8 hd8 hf8 hxa hda hfa hx0 hd0 hf0 HEnd HAll Hrow0 Hrow' Hta Ht0 hlt8
          generalize w8.setCell ⟨cb, 2, none⟩ (.slice (some ⟨g8, 0, none⟩) (m + 1) cp8) = w9 at *
          go_wp2
          go_ret
          exact ⟨fun h => Bool.noConfusion h, fun _ => ⟨rfl, Hfin.out _⟩⟩
        · go_simp
          refine hK _ _ ?_
          try simp only [Act.put, List.setIfInBounds_toArray, List.set_cons_zero, List.set_cons_succ]
          clear hK K
          refine wpAny_ready (rs := [0, 7]) (by kernel_rfl) (by simp) ?_
          refine AllReady.cons rfl (fun K hK => ?_) (AllReady.cons rfl (fun K hK => ?_) AllReady.nil)
          · go_simp
            refine hK _ _ ?_
            try simp only [Act.put, List.setIfInBounds_toArray, List.set_cons_zero, List.set_cons_succ]
            clear hK K
            refine wpAny_ready (rs := [7]) (by kernel_rfl) (by simp) ?_
            refine AllReady.cons rfl (fun K hK => ?_) AllReady.nil
            refine step_append_lies _ (by rfl) _ _ _ (by rfl) B 3 i0 _ 1 8 Try.underlying39 hi0 hz0 hz1 hz2 rfl (by decide) _ m en (by rfl) (World.ownsRow.alloc Hrow0.out _) ⟨w0.heap.size, 0, none⟩ 1 1 [.int .i64 (k : Int)] (by rfl) (by rfl) (one_int8 w0 (k : Int)) (by simp [Value.oneCell']) (by decide) (by simp only [maxLen]; omega) (by omega) (by have := Hdb.out; simp; omega) (w0.heap.size + 1) (by simp) ?_; intro g8 cp8 w8 hown8 hgrow8 hat8 hlt8
            obtain ⟨hx8, hd8, hf8⟩ := HAll.out w8 (Hta.out.trans (Touch.grown hgrow8 rfl))
            refine hK _ _ ?_
            try simp only [Act.put, List.setIfInBounds_toArray, List.set_cons_zero, List.set_cons_succ]
            clear hK K
            refine take_op (i := 8) (d := 38) (v := .pointer (some ⟨cb, 0, none⟩)) rfl rfl (by kernel_rfl) (by kernel_rfl) (by kernel_rfl) hQ (Or.inl ⟨by rfl, fun _ => by first | rfl | (go_simp; done) | (go_simp; rfl)⟩) ?_
            simp only [Act.put, List.setIfInBounds_toArray, List.set_cons_zero, List.set_cons_succ]
            refine take_op (i := 9) (d := 39) (v := .pointer (some ⟨cb, 2, none⟩)) rfl rfl (by kernel_rfl) (by kernel_rfl) (by kernel_rfl) hQ (Or.inl ⟨by rfl, fun _ => by first | rfl | (go_simp; done) | (go_simp; rfl)⟩) ?_
            simp only [Act.put, List.setIfInBounds_toArray, List.set_cons_zero, List.set_cons_succ]
            refine wpAny_ready (rs := [10]) (by kernel_rfl) (by simp) ?_
            refine AllReady.cons rfl (fun K hK => ?_) AllReady.nil
            go_simp
            refine hK _ _ ?_
            try simp only [Act.put, List.setIfInBounds_toArray, List.set_cons_zero, List.set_cons_succ]
            clear hK K
            refine wpAny_done (by kernel_rfl) (hN _ _ ?_) _
            obtain ⟨⟨t9, hC9, hR9, hg9, hF9⟩, x9, w09, w29, hfin⟩ := HEnd.out g8 cp8 w8 hown8 hgrow8 (by rw [← Hds.out]; exact hat8) _ rfl
            have f9 := hF9.cell (i := 0) rfl
            have fz9 := hF9.free 0
            have d9 := hC9.cell (i := 0) rfl
            have Hfin := Lib.hid hfin
            clear hfin hF9 hC9 hR9 hg9 t9 hown8 hgrow8 hat8 hx8 hd8 hf8 hxa hda hfa hx0 hd0 hf0 HEnd HAll Hrow0 Hrow' Hta Ht0 hlt8
            generalize w8.setCell ⟨cb, 2, none⟩ (.slice (some ⟨g8, 0, none⟩) (m + 1) cp8) = w9 at *
            go_wp2
            go_ret
            exact ⟨fun h => Bool.noConfusion h, fun _ => ⟨rfl, Hfin.out _⟩⟩
          · refine step_append_lies _ (by rfl) _ _ _ (by rfl) B 3 i0 _ 1 8 Try.underlying39 hi0 hz0 hz1 hz2 rfl (by decide) _ m en (by rfl) (World.ownsRow.alloc Hrow0.out _) ⟨w0.heap.size, 0, none⟩ 1 1 [.int .i64 (k : Int)] (by rfl) (by rfl) (one_int8 w0 (k : Int)) (by simp [Value.oneCell']) (by decide) (by simp only [maxLen]; omega) (by omega) (by have := Hdb.out; simp; omega) (w0.heap.size + 1) (by simp) ?_; intro g8 cp8 w8 hown8 hgrow8 hat8 hlt8
            obtain ⟨hx8, hd8, hf8⟩ := HAll.out w8 (Hta.out.trans (Touch.grown hgrow8 rfl))
            refine hK _ _ ?_
            try simp only [Act.put, List.setIfInBounds_toArray, List.set_cons_zero, List.set_cons_succ]
            clear hK K
            refine wpAny_ready (rs := [0]) (by kernel_rfl) (by simp) ?_
            refine AllReady.cons rfl (fun K hK => ?_) AllReady.nil
            go_simp
            refine hK _ _ ?_
            try simp only [Act.put, List.setIfInBounds_toArray, List.set_cons_zero, List.set_cons_succ]
            clear hK K
            refine take_op (i := 8) (d := 38) (v := .pointer (some ⟨cb, 0, none⟩)) rfl rfl (by kernel_rfl) (by kernel_rfl) (by kernel_rfl) hQ (Or.inl ⟨by rfl, fun _ => by first | rfl | (go_simp; done) | (go_simp; rfl)⟩) ?_
            simp only [Act.put, List.setIfInBounds_toArray, List.set_cons_zero, List.set_cons_succ]
            refine take_op (i := 9) (d := 39) (v := .pointer (some ⟨cb, 2, none⟩)) rfl rfl (by kernel_rfl) (by kernel_rfl) (by kernel_rfl) hQ (Or.inl ⟨by rfl, fun _ => by first | rfl | (go_simp; done) | (go_simp; rfl)⟩) ?_
            simp only [Act.put, List.setIfInBounds_toArray, List.set_cons_zero, List.set_cons_succ]
            refine wpAny_ready (rs := [10]) (by kernel_rfl) (by simp) ?_
            refine AllReady.cons rfl (fun K hK => ?_) AllReady.nil
            go_simp
            refine hK _ _ ?_
            try simp only [Act.put, List.setIfInBounds_toArray, List.set_cons_zero, List.set_cons_succ]
            clear hK K
            refine wpAny_done (by kernel_rfl) (hN _ _ ?_) _
            obtain ⟨⟨t9, hC9, hR9, hg9, hF9⟩, x9, w09, w29, hfin⟩ := HEnd.out g8 cp8 w8 hown8 hgrow8 (by rw [← Hds.out]; exact hat8) _ rfl
            have f9 := hF9.cell (i := 0) rfl
            have fz9 := hF9.free 0
            have d9 := hC9.cell (i := 0) rfl
            have Hfin := Lib.hid hfin
            clear hfin hF9 hC9 hR9 hg9 t9 hown8 hgrow8 hat8 hx8 hd8 hf8 hxa hda hfa hx0 hd0 hf0 HEnd HAll Hrow0 Hrow' Hta Ht0 hlt8
            generalize w8.setCell ⟨cb, 2, none⟩ (.slice (some ⟨g8, 0, none⟩) (m + 1) cp8) = w9 at *
            go_wp2
            go_ret
            exact ⟨fun h => Bool.noConfusion h, fun _ => ⟨rfl, Hfin.out _⟩⟩

/-- What the closure leaves: it has paid (p), or nothing has changed. -/
def KeptV (B wb cb fb g cap : Nat) (pb : Nat) (acc : List Int) (k : Nat) (until_ : Int) (p fr : Bool) (w : World) (e : Ending) (w' : World) : Prop :=
  (p = false → e = .returned (.bool fr) ∧ Below w.heap.size w w') ∧
  (p = true → e = .returned (.bool true) ∧ ∃ g' cap', Whole w' cb 101 #[.pointer (some ⟨wb, 0, none⟩), .func (.func 84) #[] #[.pointer (some ⟨pb, 0, none⟩)], .slice (some ⟨g', 0, none⟩) (acc ++ [(k : Int)]).length cap'] ∧ RowI w' B (.slice (some ⟨g', 0, none⟩) (acc ++ [(k : Int)]).length cap') (acc ++ [(k : Int)]) ∧ (g' = g ∨ w.heap.size ≤ g') ∧ Whole w' fb 3 #[.int .i64 until_] ∧ Touch (fun j => j = cb ∨ j = fb ∨ j = g) w w')


set_option maxHeartbeats 1000000 in
theorem keptEndV (B wb cb xb fb g cap : Nat) (pb : Nat) (acc : List Int) (k : Nat) (r free : Int) (v0 : Value) (w w1 : World) (hb1 : Below w.heap.size w w1)
    (hC : Whole w1 cb 101 #[.pointer (some ⟨wb, 0, none⟩), .func (.func 84) #[] #[.pointer (some ⟨pb, 0, none⟩)], .slice (some ⟨g, 0, none⟩) acc.length cap]) (hF : Whole w1 fb 3 #[.int .i64 r]) (hR : RowI w1 B (.slice (some ⟨g, 0, none⟩) acc.length cap) acc) (hB : B ≤ w.heap.size) (hlen : acc.length ≤ 100)
    (n1 : cb ≠ fb) (n2 : cb ≠ g) (n3 : fb ≠ g) (n4 : xb ≠ g) (n5 : xb ≠ cb) (n6 : xb ≠ fb) (n7 : wb ≠ g ∧ wb ≠ cb)
    (x0 : w1.cell? ⟨xb, 0, none⟩ = some (.pointer (some ⟨cb, 0, none⟩))) (w0 : w1.cell? ⟨wb, 0, none⟩ = some v0) (w2 : w1.cell? ⟨wb, 2, none⟩ = some (.int .i64 free)) (hcl : cb < w.heap.size) (hxl : xb < w.heap.size) (hfl : fb < w.heap.size) (hwl : wb < w.heap.size)
    (g8 cp8 : Nat) (w8 : World) (hown : w8.ownsRow B 3 1 (.slice (some ⟨g8, 0, none⟩) (acc.length + 1) cp8) (acc.length + 1) (acc.map (Value.int .i64) ++ [.int .i64 (k : Int)])) (hg : ((w1.drew).alloc (.cells #[.int .i64 (k : Int)] 3)).grownBy w8 (some g)) (hat : some g = some g8 ∨ g8 = w1.heap.size + 1) :
    ∀ w9, w9 = w8.setCell ⟨cb, 2, none⟩ (.slice (some ⟨g8, 0, none⟩) (acc.length + 1) cp8) →
    (Touch (fun j => j = cb ∨ j = g) w w9 ∧ Whole w9 cb 101 #[.pointer (some ⟨wb, 0, none⟩), .func (.func 84) #[] #[.pointer (some ⟨pb, 0, none⟩)], .slice (some ⟨g8, 0, none⟩) (acc ++ [(k : Int)]).length cp8] ∧ RowI w9 B (.slice (some ⟨g8, 0, none⟩) (acc ++ [(k : Int)]).length cp8) (acc ++ [(k : Int)]) ∧ (g8 = g ∨ w.heap.size ≤ g8) ∧ Whole w9 fb 3 #[.int .i64 r]) ∧
    w9.cell? ⟨xb, 0, none⟩ = some (.pointer (some ⟨cb, 0, none⟩)) ∧ w9.cell? ⟨wb, 0, none⟩ = some v0 ∧ w9.cell? ⟨wb, 2, none⟩ = some (.int .i64 free) ∧
    ∀ u, ∃ g' cap', Whole (w9.setCell ⟨fb, 0, none⟩ (.int .i64 u)) cb 101 #[.pointer (some ⟨wb, 0, none⟩), .func (.func 84) #[] #[.pointer (some ⟨pb, 0, none⟩)], .slice (some ⟨g', 0, none⟩) (acc ++ [(k : Int)]).length cap'] ∧ RowI (w9.setCell ⟨fb, 0, none⟩ (.int .i64 u)) B (.slice (some ⟨g', 0, none⟩) (acc ++ [(k : Int)]).length cap') (acc ++ [(k : Int)]) ∧ (g' = g ∨ w.heap.size ≤ g') ∧ Whole (w9.setCell ⟨fb, 0, none⟩ (.int .i64 u)) fb 3 #[.int .i64 u] ∧ Touch (fun j => j = cb ∨ j = fb ∨ j = g) w (w9.setCell ⟨fb, 0, none⟩ (.int .i64 u)) := by
  intro w9 e
  have hsz := hb1.size
  have t1 : Touch (fun j => j = g) w1 w8 := (Touch.of_below (((Below.refl _ w1).drew).alloc (Nat.le_refl _) (.cells #[.int .i64 (k : Int)] 3))).trans (Touch.grown hg rfl)
  have hg8 : g8 = g ∨ w.heap.size ≤ g8 := by
    rcases hat with e | e
    · injection e with e; exact .inl e.symm
    · exact .inr (by omega)
  have n8 : cb ≠ g8 := by
    rcases hg8 with e | e
    · rw [e]; exact n2
    · omega
  have t2 : Touch (fun j => j = cb) w8 w9 := by rw [e]; exact Touch.setCell (Touch.refl (fun j => j = cb) w8) rfl _
  have hml : (acc ++ [(k : Int)]).length = acc.length + 1 := by simp
  have hC8 := hC.touch8 t1 n2
  have hR9 : RowI w9 B (.slice (some ⟨g8, 0, none⟩) (acc ++ [(k : Int)]).length cp8) (acc ++ [(k : Int)]) := by
    have h9 := own_touch8 hown t2 (fun q hq e => by injection hq with hq; rw [← hq] at e; exact n8 e.symm)
    rw [hml]
    exact RowI.snoc h9
  have hC9 : Whole w9 cb 101 #[.pointer (some ⟨wb, 0, none⟩), .func (.func 84) #[] #[.pointer (some ⟨pb, 0, none⟩)], .slice (some ⟨g8, 0, none⟩) (acc ++ [(k : Int)]).length cp8] := by rw [e, hml]; exact hC8.set 2 _
  have hF9 : Whole w9 fb 3 #[.int .i64 r] := (hF.touch8 t1 n3).touch8 t2 (fun e => n1 e.symm)
  have n10 : fb ≠ g8 := by
    rcases hg8 with e | e
    · rw [e]; exact n3
    · omega
  have t9 : Touch (fun j => j = cb ∨ j = g) w w9 := (Touch.of_below (S := fun j => j = cb ∨ j = g) hb1).trans ((t1.less (fun j h => .inr h)).trans (t2.less (fun j h => .inl h)))
  refine ⟨⟨t9, hC9, hR9, hg8, hF9⟩, ?_, ?_, ?_, fun u => ⟨g8, cp8, hC9.off n1 _, ?_, hg8, hF9.set 0 _, ?_⟩⟩
  rotate_left 3
  · exact own_touch8 hR9 (Touch.setCell (Touch.refl (fun j => j = fb) w9) rfl _) (fun q hq e => by injection hq with hq; rw [← hq] at e; exact n10 e.symm)
  · exact (t9.less (fun j h => h.elim .inl (fun h => .inr (.inr h)))).trans (Touch.setCell (Touch.refl (fun j => j = cb ∨ j = fb ∨ j = g) w9) (.inr (.inl rfl)) _)
  · exact t2.cell8 (t1.cell8 x0 n4) n5
  · exact t2.cell8 (t1.cell8 w0 n7.1) n7.2
  · exact t2.cell8 (t1.cell8 w2 n7.1) n7.2

set_option maxRecDepth 100000 in
set_option maxHeartbeats 4000000 in
theorem keepV_any (B wb cb xb fb g cap : Nat) (pb : Nat) (v vp : Value) (l : List Gt) (ps : List Int) (free : Int) (acc : List Int) (k : Nat) (r : Int) (p : Bool) (w : World)
    (hW : WayAt w wb v vp l ps free) (hz : validG l = true) (hfree : 0 ≤ free ∧ free ≤ 999)
    (hC : Whole w cb 101 #[.pointer (some ⟨wb, 0, none⟩), .func (.func 84) #[] #[.pointer (some ⟨pb, 0, none⟩)], .slice (some ⟨g, 0, none⟩) acc.length cap]) (hX : w.cell? ⟨xb, 0, none⟩ = some (.pointer (some ⟨cb, 0, none⟩))) (hF : Whole w fb 3 #[.int .i64 r])
    (hR : RowI w B (.slice (some ⟨g, 0, none⟩) acc.length cap) acc) (hB : B ≤ w.heap.size) (hlen : acc.length ≤ 100) (hk : k < l.length)
    (n1 : cb ≠ fb) (n2 : cb ≠ g) (n3 : fb ≠ g) (n4 : xb ≠ g) (n5 : xb ≠ cb) (n6 : xb ≠ fb) (n7 : wb ≠ g ∧ wb ≠ cb)
    (hP : ∀ w', Below w.heap.size w w' → Calls Try.prog 84 #[.int .i64 k, .bool (decide ((l.getD k gt0).a ≤ r)), .pointer (some ⟨pb, 0, none⟩)] w' (Gives (.bool p) w')) :
    Calls Try.prog 122 #[.int .i64 k, .pointer (some ⟨xb, 0, none⟩), .pointer (some ⟨fb, 0, none⟩)] w (KeptV B wb cb fb g cap pb acc k ((l.getD k gt0).a + free) p (decide ((l.getD k gt0).a ≤ r)) w) := by
  obtain ⟨i0, hi0, hz0, hz1, hz2⟩ := info_parts Try.info3
  obtain ⟨hw1, hw2, hw3⟩ := hW
  obtain ⟨a, vcap, rfl, _, ha⟩ := hw2
  obtain ⟨b, o, rfl, hb0, hrw⟩ := ha (by intro h; simp [h] at hk)
  obtain ⟨c0, c1, c2⟩ := hrw k hk
  have hzk := validG_at hz hk
  have hten := (validG_iff.1 hz).1
  have wf0 := hw1.cell (i := 0) rfl
  have wf2 := hw1.cell (i := 2) rfl
  have d0 := hC.cell (i := 0) rfl
  have d1 := hC.cell (i := 1) rfl
  have d2 := hC.cell (i := 2) rfl
  have f0 := hF.cell (i := 0) rfl
  have hk0 : (0 : Int) ≤ (k : Int) := Int.natCast_nonneg _
  have hk1 : (k : Int) < (l.length : Int) := by omega
  have HP := Lib.hid hP
  have HC := Lib.hid hC
  have HF := Lib.hid hF
  have HR := Lib.hid hR
  have hwl := hw1.lt
  have hcl := hC.lt
  have hfl := hF.lt
  clear hP hrw ha c1 c2 hw3 hC hF hR
  generalize (l.getD k gt0).a = xa at *
  generalize (l.getD k gt0).b = xb' at *
  generalize (l.getD k gt0).m = xm at *
  go_enter Try.func122, Try.ntmps122
  go_wp2_with fail
  refine (HP.out _ (by first | exact Below.refl _ _ | exact (Below.refl _ _).drew | exact (Below.refl _ _).drewN _)).mono ?_; rintro e w1 ⟨rfl, hb1⟩
  have c0' := keepCell hb1 c0
  have w0' := keepCell hb1 wf0
  have w2' := keepCell hb1 wf2
  have d0' := keepCell hb1 d0
  have d1' := keepCell hb1 d1
  have d2' := keepCell hb1 d2
  have f0' := keepCell hb1 f0
  have x0' := keepCell hb1 hX
  have hs1 := hb1.size
  have HC1 := Lib.hid (HC.out.below hb1 hcl)
  have HF1 := Lib.hid (HF.out.below hb1 hfl)
  have HR1 := Lib.hid (HR.out.below hb1)
  have HB1 := Lib.hid hb1
  have hxl := World.block_lt_of_cell? _ _ hX
  clear hb1 c0 wf0 wf2 d0 d1 d2 f0 hX HC HF HR
  have hws : IntKind.i64.wrap (xa + free) = xa + free := IntWalk.i64_in _ (by omega)
  cases p with
  | false =>
    clear HC1 HF1 HR1
    go_wp2
    go_ret
    exact ⟨fun _ => ⟨rfl, HB1.out⟩, fun h => Bool.noConfusion h⟩
  | true =>
    have fzc : w1.frozen? ⟨cb, 2, none⟩ = false := HC1.out.free 2
    have fzf : w1.frozen? ⟨fb, 0, none⟩ = false := HF1.out.free 0
    have hrow' := HR1.out; unfold RowI at hrow'
    have Hrow' := Lib.hid hrow'; clear hrow'
    have hwd : Below w1.heap.size w1 w1.drew := (Below.refl _ _).drew
    have hEnd := keptEndV B wb cb xb fb g cap pb acc k r free _ w w1 HB1.out HC1.out HF1.out HR1.out hB hlen n1 n2 n3 n4 n5 n6 n7 x0' w0' w2' hcl hxl hfl hwl
    have HEnd := Lib.hid hEnd; clear hEnd
    have hal : ∀ w8, Touch (fun j => j = g) w1 w8 → w8.cell? ⟨xb, 0, none⟩ = some (.pointer (some ⟨cb, 0, none⟩)) ∧ w8.cell? ⟨cb, 2, none⟩ = some (.slice (some ⟨g, 0, none⟩) acc.length cap) ∧ w8.frozen? ⟨cb, 2, none⟩ = false :=
      fun w8 ht => ⟨ht.cell8 x0' n4, ht.cell8 d2' n2, (HC1.out.touch8 ht n2).free 2⟩
    have HAll := Lib.hid hal; clear hal
    have hrow' := HR1.out; unfold RowI at hrow'
    have Hrow' := Lib.hid hrow'; clear hrow'
    have Ht0 := Lib.hid (Touch.of_below (S := fun j => j = g) hwd)
    have Hds := Lib.hid (show w1.drew.heap.size = w1.heap.size from rfl)
    have Hdb := Lib.hid (show B ≤ w1.drew.heap.size from Nat.le_trans hB hs1)
    have Hrow0 := Lib.hid (show w1.drew.ownsRow B 3 1 _ _ _ from Hrow'.out.drew)
    generalize hmm : acc.length = m at *
    generalize hen : acc.map (Value.int .i64) = en at *
    have Hmm := Lib.hid hmm; have Hen := Lib.hid hen; clear hmm hen
    have hm100 : m ≤ 100 := hlen
    clear hwd x0' d2' fzc fzf hlen
    go_wp2_with fail
    refine wp_region_any (by kernel_rfl) ?_
    change wpAny _ _ _ _ 11 #[false, false, false, false, false, false, false, false, false, false, false] _ (World.drew _)
    refine with_Q (fun _ _ _ _ _ h => h) (fun Q hQ hN => ?_)
    have Hta := Lib.hid (Ht0.out.trans (Touch.of_below (S := fun j => j = g) ((Below.refl _ (World.drew w1)).alloc (Nat.le_refl _) (.cells #[.int .i64 (k : Int)] 3))))
    obtain ⟨hx0, hd0, hf0⟩ := HAll.out _ Ht0.out
    obtain ⟨hxa, hda, hfa⟩ := HAll.out _ Hta.out
    generalize World.drew w1 = w0 at *
    refine take_op (i := 5) (d := 35) (v := .int .i64 (k : Int)) rfl rfl (by kernel_rfl) (by kernel_rfl) (by kernel_rfl) hQ (Or.inl ⟨by rfl, fun _ => by first | rfl | (go_simp; done) | (go_simp; rfl)⟩) ?_
    simp only [Act.put, List.setIfInBounds_toArray, List.set_cons_zero, List.set_cons_succ]
    refine wpAny_ready (rs := [0, 1, 6]) (by kernel_rfl) (by simp) ?_
    refine AllReady.cons rfl (fun K hK => ?_) (AllReady.cons rfl (fun K hK => ?_) (AllReady.cons rfl (fun K hK => ?_) AllReady.nil))
    · go_simp
      refine hK _ _ ?_
      try simp only [Act.put, List.setIfInBounds_toArray, List.set_cons_zero, List.set_cons_succ]
      clear hK K
      refine wpAny_ready (rs := [1, 6]) (by kernel_rfl) (by simp) ?_
      refine AllReady.cons rfl (fun K hK => ?_) (AllReady.cons rfl (fun K hK => ?_) AllReady.nil)
      · go_simp
        refine hK _ _ ?_
        try simp only [Act.put, List.setIfInBounds_toArray, List.set_cons_zero, List.set_cons_succ]
        clear hK K
        refine take_op (i := 2) (d := 32) (v := .pointer (some ⟨cb, 0, none⟩)) rfl rfl (by kernel_rfl) (by kernel_rfl) (by kernel_rfl) hQ (Or.inl ⟨by rfl, fun _ => by first | rfl | (go_simp; done) | (go_simp; rfl)⟩) ?_
        simp only [Act.put, List.setIfInBounds_toArray, List.set_cons_zero, List.set_cons_succ]
        refine take_op (i := 3) (d := 33) (v := .pointer (some ⟨cb, 2, none⟩)) rfl rfl (by kernel_rfl) (by kernel_rfl) (by kernel_rfl) hQ (Or.inl ⟨by rfl, fun _ => by first | rfl | (go_simp; done) | (go_simp; rfl)⟩) ?_
        simp only [Act.put, List.setIfInBounds_toArray, List.set_cons_zero, List.set_cons_succ]
        refine wpAny_ready (rs := [4, 6]) (by kernel_rfl) (by simp) ?_
        refine AllReady.cons rfl (fun K hK => ?_) (AllReady.cons rfl (fun K hK => ?_) AllReady.nil)
        · go_simp
          refine hK _ _ ?_
          try simp only [Act.put, List.setIfInBounds_toArray, List.set_cons_zero, List.set_cons_succ]
          clear hK K
          refine wpAny_ready (rs := [6]) (by kernel_rfl) (by simp) ?_
          refine AllReady.cons rfl (fun K hK => ?_) AllReady.nil
          go_simp
          refine hK _ _ ?_
          try simp only [Act.put, List.setIfInBounds_toArray, List.set_cons_zero, List.set_cons_succ]
          clear hK K
          refine wpAny_ready (rs := [7]) (by kernel_rfl) (by simp) ?_
          refine AllReady.cons rfl (fun K hK => ?_) AllReady.nil
          refine step_append_lies _ (by rfl) _ _ _ (by rfl) B 3 i0 _ 1 8 Try.underlying39 hi0 hz0 hz1 hz2 rfl (by decide) _ m en (by rfl) (World.ownsRow.alloc Hrow0.out _) ⟨w0.heap.size, 0, none⟩ 1 1 [.int .i64 (k : Int)] (by rfl) (by rfl) (one_int8 w0 (k : Int)) (by simp [Value.oneCell']) (by decide) (by simp only [maxLen]; omega) (by omega) (by have := Hdb.out; simp; omega) (w0.heap.size + 1) (by simp) ?_; intro g8 cp8 w8 hown8 hgrow8 hat8 hlt8
          obtain ⟨hx8, hd8, hf8⟩ := HAll.out w8 (Hta.out.trans (Touch.grown hgrow8 rfl))
          refine hK _ _ ?_
          try simp only [Act.put, List.setIfInBounds_toArray, List.set_cons_zero, List.set_cons_succ]
          clear hK K
          refine take_op (i := 8) (d := 38) (v := .pointer (some ⟨cb, 0, none⟩)) rfl rfl (by kernel_rfl) (by kernel_rfl) (by kernel_rfl) hQ (Or.inl ⟨by rfl, fun _ => by first | rfl | (go_simp; done) | (go_simp; rfl)⟩) ?_
          simp only [Act.put, List.setIfInBounds_toArray, List.set_cons_zero, List.set_cons_succ]
          refine take_op (i := 9) (d := 39) (v := .pointer (some ⟨cb, 2, none⟩)) rfl rfl (by kernel_rfl) (by kernel_rfl) (by kernel_rfl) hQ (Or.inl ⟨by rfl, fun _ => by first | rfl | (go_simp; done) | (go_simp; rfl)⟩) ?_
          simp only [Act.put, List.setIfInBounds_toArray, List.set_cons_zero, List.set_cons_succ]
          refine wpAny_ready (rs := [10]) (by kernel_rfl) (by simp) ?_
          refine AllReady.cons rfl (fun K hK => ?_) AllReady.nil
          go_simp
          refine hK _ _ ?_
          try simp only [Act.put, List.setIfInBounds_toArray, List.set_cons_zero, List.set_cons_succ]
          clear hK K
          refine wpAny_done (by kernel_rfl) (hN _ _ ?_) _
          obtain ⟨⟨t9, hC9, hR9, hg9, hF9⟩, x9, w09, w29, hfin⟩ := HEnd.out g8 cp8 w8 hown8 hgrow8 (by rw [← Hds.out]; exact hat8) _ rfl
          have f9 := hF9.cell (i := 0) rfl
          have fz9 := hF9.free 0
          have d9 := hC9.cell (i := 0) rfl
          have Hfin := Lib.hid hfin
          clear hfin hF9 hC9 hR9 hg9 t9 hown8 hgrow8 hat8 hx8 hd8 hf8 hxa hda hfa hx0 hd0 hf0 HEnd HAll Hrow0 Hrow' Hta Ht0 hlt8
          generalize w8.setCell ⟨cb, 2, none⟩ (.slice (some ⟨g8, 0, none⟩) (m + 1) cp8) = w9 at *
          go_wp2
          go_ret
          exact ⟨fun h => Bool.noConfusion h, fun _ => ⟨rfl, Hfin.out _⟩⟩
        · go_simp
          refine hK _ _ ?_
          try simp only [Act.put, List.setIfInBounds_toArray, List.set_cons_zero, List.set_cons_succ]
          clear hK K
          refine wpAny_ready (rs := [4]) (by kernel_rfl) (by simp) ?_
          refine AllReady.cons rfl (fun K hK => ?_) AllReady.nil
          go_simp
          refine hK _ _ ?_
          try simp only [Act.put, List.setIfInBounds_toArray, List.set_cons_zero, List.set_cons_succ]
          clear hK K
          refine wpAny_ready (rs := [7]) (by kernel_rfl) (by simp) ?_
          refine AllReady.cons rfl (fun K hK => ?_) AllReady.nil
          refine step_append_lies _ (by rfl) _ _ _ (by rfl) B 3 i0 _ 1 8 Try.underlying39 hi0 hz0 hz1 hz2 rfl (by decide) _ m en (by rfl) (World.ownsRow.alloc Hrow0.out _) ⟨w0.heap.size, 0, none⟩ 1 1 [.int .i64 (k : Int)] (by rfl) (by rfl) (one_int8 w0 (k : Int)) (by simp [Value.oneCell']) (by decide) (by simp only [maxLen]; omega) (by omega) (by have := Hdb.out; simp; omega) (w0.heap.size + 1) (by simp) ?_; intro g8 cp8 w8 hown8 hgrow8 hat8 hlt8
          obtain ⟨hx8, hd8, hf8⟩ := HAll.out w8 (Hta.out.trans (Touch.grown hgrow8 rfl))
          refine hK _ _ ?_
          try simp only [Act.put, List.setIfInBounds_toArray, List.set_cons_zero, List.set_cons_succ]
          clear hK K
          refine take_op (i := 8) (d := 38) (v := .pointer (some ⟨cb, 0, none⟩)) rfl rfl (by kernel_rfl) (by kernel_rfl) (by kernel_rfl) hQ (Or.inl ⟨by rfl, fun _ => by first | rfl | (go_simp; done) | (go_simp; rfl)⟩) ?_
          simp only [Act.put, List.setIfInBounds_toArray, List.set_cons_zero, List.set_cons_succ]
          refine take_op (i := 9) (d := 39) (v := .pointer (some ⟨cb, 2, none⟩)) rfl rfl (by kernel_rfl) (by kernel_rfl) (by kernel_rfl) hQ (Or.inl ⟨by rfl, fun _ => by first | rfl | (go_simp; done) | (go_simp; rfl)⟩) ?_
          simp only [Act.put, List.setIfInBounds_toArray, List.set_cons_zero, List.set_cons_succ]
          refine wpAny_ready (rs := [10]) (by kernel_rfl) (by simp) ?_
          refine AllReady.cons rfl (fun K hK => ?_) AllReady.nil
          go_simp
          refine hK _ _ ?_
          try simp only [Act.put, List.setIfInBounds_toArray, List.set_cons_zero, List.set_cons_succ]
          clear hK K
          refine wpAny_done (by kernel_rfl) (hN _ _ ?_) _
          obtain ⟨⟨t9, hC9, hR9, hg9, hF9⟩, x9, w09, w29, hfin⟩ := HEnd.out g8 cp8 w8 hown8 hgrow8 (by rw [← Hds.out]; exact hat8) _ rfl
          have f9 := hF9.cell (i := 0) rfl
          have fz9 := hF9.free 0
          have d9 := hC9.cell (i := 0) rfl
          have Hfin := Lib.hid hfin
          clear hfin hF9 hC9 hR9 hg9 t9 hown8 hgrow8 hat8 hx8 hd8 hf8 hxa hda hfa hx0 hd0 hf0 HEnd HAll Hrow0 Hrow' Hta Ht0 hlt8
          generalize w8.setCell ⟨cb, 2, none⟩ (.slice (some ⟨g8, 0, none⟩) (m + 1) cp8) = w9 at *
          go_wp2
          go_ret
          exact ⟨fun h => Bool.noConfusion h, fun _ => ⟨rfl, Hfin.out _⟩⟩
      · go_simp
        refine hK _ _ ?_
        try simp only [Act.put, List.setIfInBounds_toArray, List.set_cons_zero, List.set_cons_succ]
        clear hK K
        refine wpAny_ready (rs := [1]) (by kernel_rfl) (by simp) ?_
        refine AllReady.cons rfl (fun K hK => ?_) AllReady.nil
        go_simp
        refine hK _ _ ?_
        try simp only [Act.put, List.setIfInBounds_toArray, List.set_cons_zero, List.set_cons_succ]
        clear hK K
        refine take_op (i := 2) (d := 32) (v := .pointer (some ⟨cb, 0, none⟩)) rfl rfl (by kernel_rfl) (by kernel_rfl) (by kernel_rfl) hQ (Or.inl ⟨by rfl, fun _ => by first | rfl | (go_simp; done) | (go_simp; rfl)⟩) ?_
        simp only [Act.put, List.setIfInBounds_toArray, List.set_cons_zero, List.set_cons_succ]
        refine take_op (i := 3) (d := 33) (v := .pointer (some ⟨cb, 2, none⟩)) rfl rfl (by kernel_rfl) (by kernel_rfl) (by kernel_rfl) hQ (Or.inl ⟨by rfl, fun _ => by first | rfl | (go_simp; done) | (go_simp; rfl)⟩) ?_
        simp only [Act.put, List.setIfInBounds_toArray, List.set_cons_zero, List.set_cons_succ]
        refine wpAny_ready (rs := [4]) (by kernel_rfl) (by simp) ?_
        refine AllReady.cons rfl (fun K hK => ?_) AllReady.nil
        go_simp
        refine hK _ _ ?_
        try simp only [Act.put, List.setIfInBounds_toArray, List.set_cons_zero, List.set_cons_succ]
        clear hK K
        refine wpAny_ready (rs := [7]) (by kernel_rfl) (by simp) ?_
        refine AllReady.cons rfl (fun K hK => ?_) AllReady.nil
        refine step_append_lies _ (by rfl) _ _ _ (by rfl) B 3 i0 _ 1 8 Try.underlying39 hi0 hz0 hz1 hz2 rfl (by decide) _ m en (by rfl) (World.ownsRow.alloc Hrow0.out _) ⟨w0.heap.size, 0, none⟩ 1 1 [.int .i64 (k : Int)] (by rfl) (by rfl) (one_int8 w0 (k : Int)) (by simp [Value.oneCell']) (by decide) (by simp only [maxLen]; omega) (by omega) (by have := Hdb.out; simp; omega) (w0.heap.size + 1) (by simp) ?_; intro g8 cp8 w8 hown8 hgrow8 hat8 hlt8
        obtain ⟨hx8, hd8, hf8⟩ := HAll.out w8 (Hta.out.trans (Touch.grown hgrow8 rfl))
        refine hK _ _ ?_
        try simp only [Act.put, List.setIfInBounds_toArray, List.set_cons_zero, List.set_cons_succ]
        clear hK K
        refine take_op (i := 8) (d := 38) (v := .pointer (some ⟨cb, 0, none⟩)) rfl rfl (by kernel_rfl) (by kernel_rfl) (by kernel_rfl) hQ (Or.inl ⟨by rfl, fun _ => by first | rfl | (go_simp; done) | (go_simp; rfl)⟩) ?_
        simp only [Act.put, List.setIfInBounds_toArray, List.set_cons_zero, List.set_cons_succ]
        refine take_op (i := 9) (d := 39) (v := .pointer (some ⟨cb, 2, none⟩)) rfl rfl (by kernel_rfl) (by kernel_rfl) (by kernel_rfl) hQ (Or.inl ⟨by rfl, fun _ => by first | rfl | (go_simp; done) | (go_simp; rfl)⟩) ?_
        simp only [Act.put, List.setIfInBounds_toArray, List.set_cons_zero, List.set_cons_succ]
        refine wpAny_ready (rs := [10]) (by kernel_rfl) (by simp) ?_
        refine AllReady.cons rfl (fun K hK => ?_) AllReady.nil
        go_simp
        refine hK _ _ ?_
        try simp only [Act.put, List.setIfInBounds_toArray, List.set_cons_zero, List.set_cons_succ]
        clear hK K
        refine wpAny_done (by kernel_rfl) (hN _ _ ?_) _
        obtain ⟨⟨t9, hC9, hR9, hg9, hF9⟩, x9, w09, w29, hfin⟩ := HEnd.out g8 cp8 w8 hown8 hgrow8 (by rw [← Hds.out]; exact hat8) _ rfl
        have f9 := hF9.cell (i := 0) rfl
        have fz9 := hF9.free 0
        have d9 := hC9.cell (i := 0) rfl
        have Hfin := Lib.hid hfin
        clear hfin hF9 hC9 hR9 hg9 t9 hown8 hgrow8 hat8 hx8 hd8 hf8 hxa hda hfa hx0 hd0 hf0 HEnd HAll Hrow0 Hrow' Hta Ht0 hlt8
        generalize w8.setCell ⟨cb, 2, none⟩ (.slice (some ⟨g8, 0, none⟩) (m + 1) cp8) = w9 at *
        go_wp2
        go_ret
        exact ⟨fun h => Bool.noConfusion h, fun _ => ⟨rfl, Hfin.out _⟩⟩
    · go_simp
      refine hK _ _ ?_
      try simp only [Act.put, List.setIfInBounds_toArray, List.set_cons_zero, List.set_cons_succ]
      clear hK K
      refine take_op (i := 2) (d := 32) (v := .pointer (some ⟨cb, 0, none⟩)) rfl rfl (by kernel_rfl) (by kernel_rfl) (by kernel_rfl) hQ (Or.inl ⟨by rfl, fun _ => by first | rfl | (go_simp; done) | (go_simp; rfl)⟩) ?_
      simp only [Act.put, List.setIfInBounds_toArray, List.set_cons_zero, List.set_cons_succ]
      refine take_op (i := 3) (d := 33) (v := .pointer (some ⟨cb, 2, none⟩)) rfl rfl (by kernel_rfl) (by kernel_rfl) (by kernel_rfl) hQ (Or.inl ⟨by rfl, fun _ => by first | rfl | (go_simp; done) | (go_simp; rfl)⟩) ?_
      simp only [Act.put, List.setIfInBounds_toArray, List.set_cons_zero, List.set_cons_succ]
      refine wpAny_ready (rs := [0, 4, 6]) (by kernel_rfl) (by simp) ?_
      refine AllReady.cons rfl (fun K hK => ?_) (AllReady.cons rfl (fun K hK => ?_) (AllReady.cons rfl (fun K hK => ?_) AllReady.nil))
      · go_simp
        refine hK _ _ ?_
        try simp only [Act.put, List.setIfInBounds_toArray, List.set_cons_zero, List.set_cons_succ]
        clear hK K
        refine wpAny_ready (rs := [4, 6]) (by kernel_rfl) (by simp) ?_
        refine AllReady.cons rfl (fun K hK => ?_) (AllReady.cons rfl (fun K hK => ?_) AllReady.nil)
        · go_simp
          refine hK _ _ ?_
          try simp only [Act.put, List.setIfInBounds_toArray, List.set_cons_zero, List.set_cons_succ]
          clear hK K
          refine wpAny_ready (rs := [6]) (by kernel_rfl) (by simp) ?_
          refine AllReady.cons rfl (fun K hK => ?_) AllReady.nil
          go_simp
          refine hK _ _ ?_
          try simp only [Act.put, List.setIfInBounds_toArray, List.set_cons_zero, List.set_cons_succ]
          clear hK K
          refine wpAny_ready (rs := [7]) (by kernel_rfl) (by simp) ?_
          refine AllReady.cons rfl (fun K hK => ?_) AllReady.nil
          refine step_append_lies _ (by rfl) _ _ _ (by rfl) B 3 i0 _ 1 8 Try.underlying39 hi0 hz0 hz1 hz2 rfl (by decide) _ m en (by rfl) (World.ownsRow.alloc Hrow0.out _) ⟨w0.heap.size, 0, none⟩ 1 1 [.int .i64 (k : Int)] (by rfl) (by rfl) (one_int8 w0 (k : Int)) (by simp [Value.oneCell']) (by decide) (by simp only [maxLen]; omega) (by omega) (by have := Hdb.out; simp; omega) (w0.heap.size + 1) (by simp) ?_; intro g8 cp8 w8 hown8 hgrow8 hat8 hlt8
          obtain ⟨hx8, hd8, hf8⟩ := HAll.out w8 (Hta.out.trans (Touch.grown hgrow8 rfl))
          refine hK _ _ ?_
          try simp only [Act.put, List.setIfInBounds_toArray, List.set_cons_zero, List.set_cons_succ]
          clear hK K
          refine take_op (i := 8) (d := 38) (v := .pointer (some ⟨cb, 0, none⟩)) rfl rfl (by kernel_rfl) (by kernel_rfl) (by kernel_rfl) hQ (Or.inl ⟨by rfl, fun _ => by first | rfl | (go_simp; done) | (go_simp; rfl)⟩) ?_
          simp only [Act.put, List.setIfInBounds_toArray, List.set_cons_zero, List.set_cons_succ]
          refine take_op (i := 9) (d := 39) (v := .pointer (some ⟨cb, 2, none⟩)) rfl rfl (by kernel_rfl) (by kernel_rfl) (by kernel_rfl) hQ (Or.inl ⟨by rfl, fun _ => by first | rfl | (go_simp; done) | (go_simp; rfl)⟩) ?_
          simp only [Act.put, List.setIfInBounds_toArray, List.set_cons_zero, List.set_cons_succ]
          refine wpAny_ready (rs := [10]) (by kernel_rfl) (by simp) ?_
          refine AllReady.cons rfl (fun K hK => ?_) AllReady.nil
          go_simp
          refine hK _ _ ?_
          try simp only [Act.put, List.setIfInBounds_toArray, List.set_cons_zero, List.set_cons_succ]
          clear hK K
          refine wpAny_done (by kernel_rfl) (hN _ _ ?_) _
          obtain ⟨⟨t9, hC9, hR9, hg9, hF9⟩, x9, w09, w29, hfin⟩ := HEnd.out g8 cp8 w8 hown8 hgrow8 (by rw [← Hds.out]; exact hat8) _ rfl
          have f9 := hF9.cell (i := 0) rfl
          have fz9 := hF9.free 0
          have d9 := hC9.cell (i := 0) rfl
          have Hfin := Lib.hid hfin
          clear hfin hF9 hC9 hR9 hg9 t9 hown8 hgrow8 hat8 hx8 hd8 hf8 hxa hda hfa hx0 hd0 hf0 HEnd HAll Hrow0 Hrow' Hta Ht0 hlt8
          generalize w8.setCell ⟨cb, 2, none⟩ (.slice (some ⟨g8, 0, none⟩) (m + 1) cp8) = w9 at *
          go_wp2
          go_ret
          exact ⟨fun h => Bool.noConfusion h, fun _ => ⟨rfl, Hfin.out _⟩⟩
        · go_simp
          refine hK _ _ ?_
          try simp only [Act.put, List.setIfInBounds_toArray, List.set_cons_zero, List.set_cons_succ]
          clear hK K
          refine wpAny_ready (rs := [4]) (by kernel_rfl) (by simp) ?_
          refine AllReady.cons rfl (fun K hK => ?_) AllReady.nil
          go_simp
          refine hK _ _ ?_
          try simp only [Act.put, List.setIfInBounds_toArray, List.set_cons_zero, List.set_cons_succ]
          clear hK K
          refine wpAny_ready (rs := [7]) (by kernel_rfl) (by simp) ?_
          refine AllReady.cons rfl (fun K hK => ?_) AllReady.nil
          refine step_append_lies _ (by rfl) _ _ _ (by rfl) B 3 i0 _ 1 8 Try.underlying39 hi0 hz0 hz1 hz2 rfl (by decide) _ m en (by rfl) (World.ownsRow.alloc Hrow0.out _) ⟨w0.heap.size, 0, none⟩ 1 1 [.int .i64 (k : Int)] (by rfl) (by rfl) (one_int8 w0 (k : Int)) (by simp [Value.oneCell']) (by decide) (by simp only [maxLen]; omega) (by omega) (by have := Hdb.out; simp; omega) (w0.heap.size + 1) (by simp) ?_; intro g8 cp8 w8 hown8 hgrow8 hat8 hlt8
          obtain ⟨hx8, hd8, hf8⟩ := HAll.out w8 (Hta.out.trans (Touch.grown hgrow8 rfl))
          refine hK _ _ ?_
          try simp only [Act.put, List.setIfInBounds_toArray, List.set_cons_zero, List.set_cons_succ]
          clear hK K
          refine take_op (i := 8) (d := 38) (v := .pointer (some ⟨cb, 0, none⟩)) rfl rfl (by kernel_rfl) (by kernel_rfl) (by kernel_rfl) hQ (Or.inl ⟨by rfl, fun _ => by first | rfl | (go_simp; done) | (go_simp; rfl)⟩) ?_
          simp only [Act.put, List.setIfInBounds_toArray, List.set_cons_zero, List.set_cons_succ]
          refine take_op (i := 9) (d := 39) (v := .pointer (some ⟨cb, 2, none⟩)) rfl rfl (by kernel_rfl) (by kernel_rfl) (by kernel_rfl) hQ (Or.inl ⟨by rfl, fun _ => by first | rfl | (go_simp; done) | (go_simp; rfl)⟩) ?_
          simp only [Act.put, List.setIfInBounds_toArray, List.set_cons_zero, List.set_cons_succ]
          refine wpAny_ready (rs := [10]) (by kernel_rfl) (by simp) ?_
          refine AllReady.cons rfl (fun K hK => ?_) AllReady.nil
          go_simp
          refine hK _ _ ?_
          try simp only [Act.put, List.setIfInBounds_toArray, List.set_cons_zero, List.set_cons_succ]
          clear hK K
          refine wpAny_done (by kernel_rfl) (hN _ _ ?_) _
          obtain ⟨⟨t9, hC9, hR9, hg9, hF9⟩, x9, w09, w29, hfin⟩ := HEnd.out g8 cp8 w8 hown8 hgrow8 (by rw [← Hds.out]; exact hat8) _ rfl
          have f9 := hF9.cell (i := 0) rfl
          have fz9 := hF9.free 0
          have d9 := hC9.cell (i := 0) rfl
          have Hfin := Lib.hid hfin
          clear hfin hF9 hC9 hR9 hg9 t9 hown8 hgrow8 hat8 hx8 hd8 hf8 hxa hda hfa hx0 hd0 hf0 HEnd HAll Hrow0 Hrow' Hta Ht0 hlt8
          generalize w8.setCell ⟨cb, 2, none⟩ (.slice (some ⟨g8, 0, none⟩) (m + 1) cp8) = w9 at *
          go_wp2
          go_ret
          exact ⟨fun h => Bool.noConfusion h, fun _ => ⟨rfl, Hfin.out _⟩⟩
      · go_simp
        refine hK _ _ ?_
        try simp only [Act.put, List.setIfInBounds_toArray, List.set_cons_zero, List.set_cons_succ]
        clear hK K
        refine wpAny_ready (rs := [0, 6]) (by kernel_rfl) (by simp) ?_
        refine AllReady.cons rfl (fun K hK => ?_) (AllReady.cons rfl (fun K hK => ?_) AllReady.nil)
        · go_simp
          refine hK _ _ ?_
          try simp only [Act.put, List.setIfInBounds_toArray, List.set_cons_zero, List.set_cons_succ]
          clear hK K
          refine wpAny_ready (rs := [6]) (by kernel_rfl) (by simp) ?_
          refine AllReady.cons rfl (fun K hK => ?_) AllReady.nil
          go_simp
          refine hK _ _ ?_
          try simp only [Act.put, List.setIfInBounds_toArray, List.set_cons_zero, List.set_cons_succ]
          clear hK K
          refine wpAny_ready (rs := [7]) (by kernel_rfl) (by simp) ?_
          refine AllReady.cons rfl (fun K hK => ?_) AllReady.nil
          refine step_append_lies _ (by rfl) _ _ _ (by rfl) B 3 i0 _ 1 8 Try.underlying39 hi0 hz0 hz1 hz2 rfl (by decide) _ m en (by rfl) (World.ownsRow.alloc Hrow0.out _) ⟨w0.heap.size, 0, none⟩ 1 1 [.int .i64 (k : Int)] (by rfl) (by rfl) (one_int8 w0 (k : Int)) (by simp [Value.oneCell']) (by decide) (by simp only [maxLen]; omega) (by omega) (by have := Hdb.out; simp; omega) (w0.heap.size + 1) (by simp) ?_; intro g8 cp8 w8 hown8 hgrow8 hat8 hlt8
          obtain ⟨hx8, hd8, hf8⟩ := HAll.out w8 (Hta.out.trans (Touch.grown hgrow8 rfl))
          refine hK _ _ ?_
          try simp only [Act.put, List.setIfInBounds_toArray, List.set_cons_zero, List.set_cons_succ]
          clear hK K
          refine take_op (i := 8) (d := 38) (v := .pointer (some ⟨cb, 0, none⟩)) rfl rfl (by kernel_rfl) (by kernel_rfl) (by kernel_rfl) hQ (Or.inl ⟨by rfl, fun _ => by first | rfl | (go_simp; done) | (go_simp; rfl)⟩) ?_
          simp only [Act.put, List.setIfInBounds_toArray, List.set_cons_zero, List.set_cons_succ]
          refine take_op (i := 9) (d := 39) (v := .pointer (some ⟨cb, 2, none⟩)) rfl rfl (by kernel_rfl) (by kernel_rfl) (by kernel_rfl) hQ (Or.inl ⟨by rfl, fun _ => by first | rfl | (go_simp; done) | (go_simp; rfl)⟩) ?_
          simp only [Act.put, List.setIfInBounds_toArray, List.set_cons_zero, List.set_cons_succ]
          refine wpAny_ready (rs := [10]) (by kernel_rfl) (by simp) ?_
          refine AllReady.cons rfl (fun K hK => ?_) AllReady.nil
          go_simp
          refine hK _ _ ?_
          try simp only [Act.put, List.setIfInBounds_toArray, List.set_cons_zero, List.set_cons_succ]
          clear hK K
          refine wpAny_done (by kernel_rfl) (hN _ _ ?_) _
          obtain ⟨⟨t9, hC9, hR9, hg9, hF9⟩, x9, w09, w29, hfin⟩ := HEnd.out g8 cp8 w8 hown8 hgrow8 (by rw [← Hds.out]; exact hat8) _ rfl
          have f9 := hF9.cell (i := 0) rfl
          have fz9 := hF9.free 0
          have d9 := hC9.cell (i := 0) rfl
          have Hfin := Lib.hid hfin
          clear hfin hF9 hC9 hR9 hg9 t9 hown8 hgrow8 hat8 hx8 hd8 hf8 hxa hda hfa hx0 hd0 hf0 HEnd HAll Hrow0 Hrow' Hta Ht0 hlt8
          generalize w8.setCell ⟨cb, 2, none⟩ (.slice (some ⟨g8, 0, none⟩) (m + 1) cp8) = w9 at *
          go_wp2
          go_ret
          exact ⟨fun h => Bool.noConfusion h, fun _ => ⟨rfl, Hfin.out _⟩⟩
        · go_simp
          refine hK _ _ ?_
          try simp only [Act.put, List.setIfInBounds_toArray, List.set_cons_zero, List.set_cons_succ]
          clear hK K
          refine wpAny_ready (rs := [0, 7]) (by kernel_rfl) (by simp) ?_
          refine AllReady.cons rfl (fun K hK => ?_) (AllReady.cons rfl (fun K hK => ?_) AllReady.nil)
          · go_simp
            refine hK _ _ ?_
            try simp only [Act.put, List.setIfInBounds_toArray, List.set_cons_zero, List.set_cons_succ]
            clear hK K
            refine wpAny_ready (rs := [7]) (by kernel_rfl) (by simp) ?_
            refine AllReady.cons rfl (fun K hK => ?_) AllReady.nil
            refine step_append_lies _ (by rfl) _ _ _ (by rfl) B 3 i0 _ 1 8 Try.underlying39 hi0 hz0 hz1 hz2 rfl (by decide) _ m en (by rfl) (World.ownsRow.alloc Hrow0.out _) ⟨w0.heap.size, 0, none⟩ 1 1 [.int .i64 (k : Int)] (by rfl) (by rfl) (one_int8 w0 (k : Int)) (by simp [Value.oneCell']) (by decide) (by simp only [maxLen]; omega) (by omega) (by have := Hdb.out; simp; omega) (w0.heap.size + 1) (by simp) ?_; intro g8 cp8 w8 hown8 hgrow8 hat8 hlt8
            obtain ⟨hx8, hd8, hf8⟩ := HAll.out w8 (Hta.out.trans (Touch.grown hgrow8 rfl))
            refine hK _ _ ?_
            try simp only [Act.put, List.setIfInBounds_toArray, List.set_cons_zero, List.set_cons_succ]
            clear hK K
            refine take_op (i := 8) (d := 38) (v := .pointer (some ⟨cb, 0, none⟩)) rfl rfl (by kernel_rfl) (by kernel_rfl) (by kernel_rfl) hQ (Or.inl ⟨by rfl, fun _ => by first | rfl | (go_simp; done) | (go_simp; rfl)⟩) ?_
            simp only [Act.put, List.setIfInBounds_toArray, List.set_cons_zero, List.set_cons_succ]
            refine take_op (i := 9) (d := 39) (v := .pointer (some ⟨cb, 2, none⟩)) rfl rfl (by kernel_rfl) (by kernel_rfl) (by kernel_rfl) hQ (Or.inl ⟨by rfl, fun _ => by first | rfl | (go_simp; done) | (go_simp; rfl)⟩) ?_
            simp only [Act.put, List.setIfInBounds_toArray, List.set_cons_zero, List.set_cons_succ]
            refine wpAny_ready (rs := [10]) (by kernel_rfl) (by simp) ?_
            refine AllReady.cons rfl (fun K hK => ?_) AllReady.nil
            go_simp
            refine hK _ _ ?_
            try simp only [Act.put, List.setIfInBounds_toArray, List.set_cons_zero, List.set_cons_succ]
            clear hK K
            refine wpAny_done (by kernel_rfl) (hN _ _ ?_) _
            obtain ⟨⟨t9, hC9, hR9, hg9, hF9⟩, x9, w09, w29, hfin⟩ := HEnd.out g8 cp8 w8 hown8 hgrow8 (by rw [← Hds.out]; exact hat8) _ rfl
            have f9 := hF9.cell (i := 0) rfl
            have fz9 := hF9.free 0
            have d9 := hC9.cell (i := 0) rfl
            have Hfin := Lib.hid hfin
            clear hfin hF9 hC9 hR9 hg9 t9 hown8 hgrow8 hat8 hx8 hd8 hf8 hxa hda hfa hx0 hd0 hf0 HEnd HAll Hrow0 Hrow' Hta Ht0 hlt8
            generalize w8.setCell ⟨cb, 2, none⟩ (.slice (some ⟨g8, 0, none⟩) (m + 1) cp8) = w9 at *
            go_wp2
            go_ret
            exact ⟨fun h => Bool.noConfusion h, fun _ => ⟨rfl, Hfin.out _⟩⟩
          · refine step_append_lies _ (by rfl) _ _ _ (by rfl) B 3 i0 _ 1 8 Try.underlying39 hi0 hz0 hz1 hz2 rfl (by decide) _ m en (by rfl) (World.ownsRow.alloc Hrow0.out _) ⟨w0.heap.size, 0, none⟩ 1 1 [.int .i64 (k : Int)] (by rfl) (by rfl) (one_int8 w0 (k : Int)) (by simp [Value.oneCell']) (by decide) (by simp only [maxLen]; omega) (by omega) (by have := Hdb.out; simp; omega) (w0.heap.size + 1) (by simp) ?_; intro g8 cp8 w8 hown8 hgrow8 hat8 hlt8
            obtain ⟨hx8, hd8, hf8⟩ := HAll.out w8 (Hta.out.trans (Touch.grown hgrow8 rfl))
            refine hK _ _ ?_
            try simp only [Act.put, List.setIfInBounds_toArray, List.set_cons_zero, List.set_cons_succ]
            clear hK K
            refine wpAny_ready (rs := [0]) (by kernel_rfl) (by simp) ?_
            refine AllReady.cons rfl (fun K hK => ?_) AllReady.nil
            go_simp
            refine hK _ _ ?_
            try simp only [Act.put, List.setIfInBounds_toArray, List.set_cons_zero, List.set_cons_succ]
            clear hK K
            refine take_op (i := 8) (d := 38) (v := .pointer (some ⟨cb, 0, none⟩)) rfl rfl (by kernel_rfl) (by kernel_rfl) (by kernel_rfl) hQ (Or.inl ⟨by rfl, fun _ => by first | rfl | (go_simp; done) | (go_simp; rfl)⟩) ?_
            simp only [Act.put, List.setIfInBounds_toArray, List.set_cons_zero, List.set_cons_succ]
            refine take_op (i := 9) (d := 39) (v := .pointer (some ⟨cb, 2, none⟩)) rfl rfl (by kernel_rfl) (by kernel_rfl) (by kernel_rfl) hQ (Or.inl ⟨by rfl, fun _ => by first | rfl | (go_simp; done) | (go_simp; rfl)⟩) ?_
            simp only [Act.put, List.setIfInBounds_toArray, List.set_cons_zero, List.set_cons_succ]
            refine wpAny_ready (rs := [10]) (by kernel_rfl) (by simp) ?_
            refine AllReady.cons rfl (fun K hK => ?_) AllReady.nil
            go_simp
            refine hK _ _ ?_
            try simp only [Act.put, List.setIfInBounds_toArray, List.set_cons_zero, List.set_cons_succ]
            clear hK K
            refine wpAny_done (by kernel_rfl) (hN _ _ ?_) _
            obtain ⟨⟨t9, hC9, hR9, hg9, hF9⟩, x9, w09, w29, hfin⟩ := HEnd.out g8 cp8 w8 hown8 hgrow8 (by rw [← Hds.out]; exact hat8) _ rfl
            have f9 := hF9.cell (i := 0) rfl
            have fz9 := hF9.free 0
            have d9 := hC9.cell (i := 0) rfl
            have Hfin := Lib.hid hfin
            clear hfin hF9 hC9 hR9 hg9 t9 hown8 hgrow8 hat8 hx8 hd8 hf8 hxa hda hfa hx0 hd0 hf0 HEnd HAll Hrow0 Hrow' Hta Ht0 hlt8
            generalize w8.setCell ⟨cb, 2, none⟩ (.slice (some ⟨g8, 0, none⟩) (m + 1) cp8) = w9 at *
            go_wp2
            go_ret
            exact ⟨fun h => Bool.noConfusion h, fun _ => ⟨rfl, Hfin.out _⟩⟩
      · go_simp
        refine hK _ _ ?_
        try simp only [Act.put, List.setIfInBounds_toArray, List.set_cons_zero, List.set_cons_succ]
        clear hK K
        refine wpAny_ready (rs := [0, 4]) (by kernel_rfl) (by simp) ?_
        refine AllReady.cons rfl (fun K hK => ?_) (AllReady.cons rfl (fun K hK => ?_) AllReady.nil)
        · go_simp
          refine hK _ _ ?_
          try simp only [Act.put, List.setIfInBounds_toArray, List.set_cons_zero, List.set_cons_succ]
          clear hK K
          refine wpAny_ready (rs := [4]) (by kernel_rfl) (by simp) ?_
          refine AllReady.cons rfl (fun K hK => ?_) AllReady.nil
          go_simp
          refine hK _ _ ?_
          try simp only [Act.put, List.setIfInBounds_toArray, List.set_cons_zero, List.set_cons_succ]
          clear hK K
          refine wpAny_ready (rs := [7]) (by kernel_rfl) (by simp) ?_
          refine AllReady.cons rfl (fun K hK => ?_) AllReady.nil
          refine step_append_lies _ (by rfl) _ _ _ (by rfl) B 3 i0 _ 1 8 Try.underlying39 hi0 hz0 hz1 hz2 rfl (by decide) _ m en (by rfl) (World.ownsRow.alloc Hrow0.out _) ⟨w0.heap.size, 0, none⟩ 1 1 [.int .i64 (k : Int)] (by rfl) (by rfl) (one_int8 w0 (k : Int)) (by simp [Value.oneCell']) (by decide) (by simp only [maxLen]; omega) (by omega) (by have := Hdb.out; simp; omega) (w0.heap.size + 1) (by simp) ?_; intro g8 cp8 w8 hown8 hgrow8 hat8 hlt8
          obtain ⟨hx8, hd8, hf8⟩ := HAll.out w8 (Hta.out.trans (Touch.grown hgrow8 rfl))
          refine hK _ _ ?_
          try simp only [Act.put, List.setIfInBounds_toArray, List.set_cons_zero, List.set_cons_succ]
          clear hK K
          refine take_op (i := 8) (d := 38) (v := .pointer (some ⟨cb, 0, none⟩)) rfl rfl (by kernel_rfl) (by kernel_rfl) (by kernel_rfl) hQ (Or.inl ⟨by rfl, fun _ => by first | rfl | (go_simp; done) | (go_simp; rfl)⟩) ?_
          simp only [Act.put, List.setIfInBounds_toArray, List.set_cons_zero, List.set_cons_succ]
          refine take_op (i := 9) (d := 39) (v := .pointer (some ⟨cb, 2, none⟩)) rfl rfl (by kernel_rfl) (by kernel_rfl) (by kernel_rfl) hQ (Or.inl ⟨by rfl, fun _ => by first | rfl | (go_simp; done) | (go_simp; rfl)⟩) ?_
          simp only [Act.put, List.setIfInBounds_toArray, List.set_cons_zero, List.set_cons_succ]
          refine wpAny_ready (rs := [10]) (by kernel_rfl) (by simp) ?_
          refine AllReady.cons rfl (fun K hK => ?_) AllReady.nil
          go_simp
          refine hK _ _ ?_
          try simp only [Act.put, List.setIfInBounds_toArray, List.set_cons_zero, List.set_cons_succ]
          clear hK K
          refine wpAny_done (by kernel_rfl) (hN _ _ ?_) _
          obtain ⟨⟨t9, hC9, hR9, hg9, hF9⟩, x9, w09, w29, hfin⟩ := HEnd.out g8 cp8 w8 hown8 hgrow8 (by rw [← Hds.out]; exact hat8) _ rfl
          have f9 := hF9.cell (i := 0) rfl
          have fz9 := hF9.free 0
          have d9 := hC9.cell (i := 0) rfl
          have Hfin := Lib.hid hfin
          clear hfin hF9 hC9 hR9 hg9 t9 hown8 hgrow8 hat8 hx8 hd8 hf8 hxa hda hfa hx0 hd0 hf0 HEnd HAll Hrow0 Hrow' Hta Ht0 hlt8
          generalize w8.setCell ⟨cb, 2, none⟩ (.slice (some ⟨g8, 0, none⟩) (m + 1) cp8) = w9 at *
          go_wp2
          go_ret
          exact ⟨fun h => Bool.noConfusion h, fun _ => ⟨rfl, Hfin.out _⟩⟩
        · go_simp
          refine hK _ _ ?_
          try simp only [Act.put, List.setIfInBounds_toArray, List.set_cons_zero, List.set_cons_succ]
          clear hK K
          refine wpAny_ready (rs := [0, 7]) (by kernel_rfl) (by simp) ?_
          refine AllReady.cons rfl (fun K hK => ?_) (AllReady.cons rfl (fun K hK => ?_) AllReady.nil)
          · go_simp
            refine hK _ _ ?_
            try simp only [Act.put, List.setIfInBounds_toArray, List.set_cons_zero, List.set_cons_succ]
            clear hK K
            refine wpAny_ready (rs := [7]) (by kernel_rfl) (by simp) ?_
            refine AllReady.cons rfl (fun K hK => ?_) AllReady.nil
            refine step_append_lies _ (by rfl) _ _ _ (by rfl) B 3 i0 _ 1 8 Try.underlying39 hi0 hz0 hz1 hz2 rfl (by decide) _ m en (by rfl) (World.ownsRow.alloc Hrow0.out _) ⟨w0.heap.size, 0, none⟩ 1 1 [.int .i64 (k : Int)] (by rfl) (by rfl) (one_int8 w0 (k : Int)) (by simp [Value.oneCell']) (by decide) (by simp only [maxLen]; omega) (by omega) (by have := Hdb.out; simp; omega) (w0.heap.size + 1) (by simp) ?_; intro g8 cp8 w8 hown8 hgrow8 hat8 hlt8
            obtain ⟨hx8, hd8, hf8⟩ := HAll.out w8 (Hta.out.trans (Touch.grown hgrow8 rfl))
            refine hK _ _ ?_
            try simp only [Act.put, List.setIfInBounds_toArray, List.set_cons_zero, List.set_cons_succ]
            clear hK K
            refine take_op (i := 8) (d := 38) (v := .pointer (some ⟨cb, 0, none⟩)) rfl rfl (by kernel_rfl) (by kernel_rfl) (by kernel_rfl) hQ (Or.inl ⟨by rfl, fun _ => by first | rfl | (go_simp; done) | (go_simp; rfl)⟩) ?_
            simp only [Act.put, List.setIfInBounds_toArray, List.set_cons_zero, List.set_cons_succ]
            refine take_op (i := 9) (d := 39) (v := .pointer (some ⟨cb, 2, none⟩)) rfl rfl (by kernel_rfl) (by kernel_rfl) (by kernel_rfl) hQ (Or.inl ⟨by rfl, fun _ => by first | rfl | (go_simp; done) | (go_simp; rfl)⟩) ?_
            simp only [Act.put, List.setIfInBounds_toArray, List.set_cons_zero, List.set_cons_succ]
            refine wpAny_ready (rs := [10]) (by kernel_rfl) (by simp) ?_
            refine AllReady.cons rfl (fun K hK => ?_) AllReady.nil
            go_simp
            refine hK _ _ ?_
            try simp only [Act.put, List.setIfInBounds_toArray, List.set_cons_zero, List.set_cons_succ]
            clear hK K
            refine wpAny_done (by kernel_rfl) (hN _ _ ?_) _
            obtain ⟨⟨t9, hC9, hR9, hg9, hF9⟩, x9, w09, w29, hfin⟩ := HEnd.out g8 cp8 w8 hown8 hgrow8 (by rw [← Hds.out]; exact hat8) _ rfl
            have f9 := hF9.cell (i := 0) rfl
            have fz9 := hF9.free 0
            have d9 := hC9.cell (i := 0) rfl
            have Hfin := Lib.hid hfin
            clear hfin hF9 hC9 hR9 hg9 t9 hown8 hgrow8 hat8 hx8 hd8 hf8 hxa hda hfa hx0 hd0 hf0 HEnd HAll Hrow0 Hrow' Hta Ht0 hlt8
            generalize w8.setCell ⟨cb, 2, none⟩ (.slice (some ⟨g8, 0, none⟩) (m + 1) cp8) = w9 at *
            go_wp2
            go_ret
            exact ⟨fun h => Bool.noConfusion h, fun _ => ⟨rfl, Hfin.out _⟩⟩
          · refine step_append_lies _ (by rfl) _ _ _ (by rfl) B 3 i0 _ 1 8 Try.underlying39 hi0 hz0 hz1 hz2 rfl (by decide) _ m en (by rfl) (World.ownsRow.alloc Hrow0.out _) ⟨w0.heap.size, 0, none⟩ 1 1 [.int .i64 (k : Int)] (by rfl) (by rfl) (one_int8 w0 (k : Int)) (by simp [Value.oneCell']) (by decide) (by simp only [maxLen]; omega) (by omega) (by have := Hdb.out; simp; omega) (w0.heap.size + 1) (by simp) ?_; intro g8 cp8 w8 hown8 hgrow8 hat8 hlt8
            obtain ⟨hx8, hd8, hf8⟩ := HAll.out w8 (Hta.out.trans (Touch.grown hgrow8 rfl))
            refine hK _ _ ?_
            try simp only [Act.put, List.setIfInBounds_toArray, List.set_cons_zero, List.set_cons_succ]
            clear hK K
            refine wpAny_ready (rs := [0]) (by kernel_rfl) (by simp) ?_
            refine AllReady.cons rfl (fun K hK => ?_) AllReady.nil
            go_simp
            refine hK _ _ ?_
            try simp only [Act.put, List.setIfInBounds_toArray, List.set_cons_zero, List.set_cons_succ]
            clear hK K
            refine take_op (i := 8) (d := 38) (v := .pointer (some ⟨cb, 0, none⟩)) rfl rfl (by kernel_rfl) (by kernel_rfl) (by kernel_rfl) hQ (Or.inl ⟨by rfl, fun _ => by first | rfl | (go_simp; done) | (go_simp; rfl)⟩) ?_
            simp only [Act.put, List.setIfInBounds_toArray, List.set_cons_zero, List.set_cons_succ]
            refine take_op (i := 9) (d := 39) (v := .pointer (some ⟨cb, 2, none⟩)) rfl rfl (by kernel_rfl) (by kernel_rfl) (by kernel_rfl) hQ (Or.inl ⟨by rfl, fun _ => by first | rfl | (go_simp; done) | (go_simp; rfl)⟩) ?_
            simp only [Act.put, List.setIfInBounds_toArray, List.set_cons_zero, List.set_cons_succ]
            refine wpAny_ready (rs := [10]) (by kernel_rfl) (by simp) ?_
            refine AllReady.cons rfl (fun K hK => ?_) AllReady.nil
            go_simp
            refine hK _ _ ?_
            try simp only [Act.put, List.setIfInBounds_toArray, List.set_cons_zero, List.set_cons_succ]
            clear hK K
            refine wpAny_done (by kernel_rfl) (hN _ _ ?_) _
            obtain ⟨⟨t9, hC9, hR9, hg9, hF9⟩, x9, w09, w29, hfin⟩ := HEnd.out g8 cp8 w8 hown8 hgrow8 (by rw [← Hds.out]; exact hat8) _ rfl
            have f9 := hF9.cell (i := 0) rfl
            have fz9 := hF9.free 0
            have d9 := hC9.cell (i := 0) rfl
            have Hfin := Lib.hid hfin
            clear hfin hF9 hC9 hR9 hg9 t9 hown8 hgrow8 hat8 hx8 hd8 hf8 hxa hda hfa hx0 hd0 hf0 HEnd HAll Hrow0 Hrow' Hta Ht0 hlt8
            generalize w8.setCell ⟨cb, 2, none⟩ (.slice (some ⟨g8, 0, none⟩) (m + 1) cp8) = w9 at *
            go_wp2
            go_ret
            exact ⟨fun h => Bool.noConfusion h, fun _ => ⟨rfl, Hfin.out _⟩⟩
    · go_simp
      refine hK _ _ ?_
      try simp only [Act.put, List.setIfInBounds_toArray, List.set_cons_zero, List.set_cons_succ]
      clear hK K
      refine wpAny_ready (rs := [0, 1]) (by kernel_rfl) (by simp) ?_
      refine AllReady.cons rfl (fun K hK => ?_) (AllReady.cons rfl (fun K hK => ?_) AllReady.nil)
      · go_simp
        refine hK _ _ ?_
        try simp only [Act.put, List.setIfInBounds_toArray, List.set_cons_zero, List.set_cons_succ]
        clear hK K
        refine wpAny_ready (rs := [1]) (by kernel_rfl) (by simp) ?_
        refine AllReady.cons rfl (fun K hK => ?_) AllReady.nil
        go_simp
        refine hK _ _ ?_
        try simp only [Act.put, List.setIfInBounds_toArray, List.set_cons_zero, List.set_cons_succ]
        clear hK K
        refine take_op (i := 2) (d := 32) (v := .pointer (some ⟨cb, 0, none⟩)) rfl rfl (by kernel_rfl) (by kernel_rfl) (by kernel_rfl) hQ (Or.inl ⟨by rfl, fun _ => by first | rfl | (go_simp; done) | (go_simp; rfl)⟩) ?_
        simp only [Act.put, List.setIfInBounds_toArray, List.set_cons_zero, List.set_cons_succ]
        refine take_op (i := 3) (d := 33) (v := .pointer (some ⟨cb, 2, none⟩)) rfl rfl (by kernel_rfl) (by kernel_rfl) (by kernel_rfl) hQ (Or.inl ⟨by rfl, fun _ => by first | rfl | (go_simp; done) | (go_simp; rfl)⟩) ?_
        simp only [Act.put, List.setIfInBounds_toArray, List.set_cons_zero, List.set_cons_succ]
        refine wpAny_ready (rs := [4]) (by kernel_rfl) (by simp) ?_
        refine AllReady.cons rfl (fun K hK => ?_) AllReady.nil
        go_simp
        refine hK _ _ ?_
        try simp only [Act.put, List.setIfInBounds_toArray, List.set_cons_zero, List.set_cons_succ]
        clear hK K
        refine wpAny_ready (rs := [7]) (by kernel_rfl) (by simp) ?_
        refine AllReady.cons rfl (fun K hK => ?_) AllReady.nil
        refine step_append_lies _ (by rfl) _ _ _ (by rfl) B 3 i0 _ 1 8 Try.underlying39 hi0 hz0 hz1 hz2 rfl (by decide) _ m en (by rfl) (World.ownsRow.alloc Hrow0.out _) ⟨w0.heap.size, 0, none⟩ 1 1 [.int .i64 (k : Int)] (by rfl) (by rfl) (one_int8 w0 (k : Int)) (by simp [Value.oneCell']) (by decide) (by simp only [maxLen]; omega) (by omega) (by have := Hdb.out; simp; omega) (w0.heap.size + 1) (by simp) ?_; intro g8 cp8 w8 hown8 hgrow8 hat8 hlt8
        obtain ⟨hx8, hd8, hf8⟩ := HAll.out w8 (Hta.out.trans (Touch.grown hgrow8 rfl))
        refine hK _ _ ?_
        try simp only [Act.put, List.setIfInBounds_toArray, List.set_cons_zero, List.set_cons_succ]
        clear hK K
        refine take_op (i := 8) (d := 38) (v := .pointer (some ⟨cb, 0, none⟩)) rfl rfl (by kernel_rfl) (by kernel_rfl) (by kernel_rfl) hQ (Or.inl ⟨by rfl, fun _ => by first | rfl | (go_simp; done) | (go_simp; rfl)⟩) ?_
        simp only [Act.put, List.setIfInBounds_toArray, List.set_cons_zero, List.set_cons_succ]
        refine take_op (i := 9) (d := 39) (v := .pointer (some ⟨cb, 2, none⟩)) rfl rfl (by kernel_rfl) (by kernel_rfl) (by kernel_rfl) hQ (Or.inl ⟨by rfl, fun _ => by first | rfl | (go_simp; done) | (go_simp; rfl)⟩) ?_
        simp only [Act.put, List.setIfInBounds_toArray, List.set_cons_zero, List.set_cons_succ]
        refine wpAny_ready (rs := [10]) (by kernel_rfl) (by simp) ?_
        refine AllReady.cons rfl (fun K hK => ?_) AllReady.nil
        go_simp
        refine hK _ _ ?_
        try simp only [Act.put, List.setIfInBounds_toArray, List.set_cons_zero, List.set_cons_succ]
        clear hK K
        refine wpAny_done (by kernel_rfl) (hN _ _ ?_) _
        obtain ⟨⟨t9, hC9, hR9, hg9, hF9⟩, x9, w09, w29, hfin⟩ := HEnd.out g8 cp8 w8 hown8 hgrow8 (by rw [← Hds.out]; exact hat8) _ rfl
        have f9 := hF9.cell (i := 0) rfl
        have fz9 := hF9.free 0
        have d9 := hC9.cell (i := 0) rfl
        have Hfin := Lib.hid hfin
        clear hfin hF9 hC9 hR9 hg9 t9 hown8 hgrow8 hat8 hx8 hd8 hf8 hxa hda hfa hx0 hd0 hf0 HEnd HAll Hrow0 Hrow' Hta Ht0 hlt8
        generalize w8.setCell ⟨cb, 2, none⟩ (.slice (some ⟨g8, 0, none⟩) (m + 1) cp8) = w9 at *
        go_wp2
        go_ret
        exact ⟨fun h => Bool.noConfusion h, fun _ => ⟨rfl, Hfin.out _⟩⟩
      · go_simp
        refine hK _ _ ?_
        try simp only [Act.put, List.setIfInBounds_toArray, List.set_cons_zero, List.set_cons_succ]
        clear hK K
        refine take_op (i := 2) (d := 32) (v := .pointer (some ⟨cb, 0, none⟩)) rfl rfl (by kernel_rfl) (by kernel_rfl) (by kernel_rfl) hQ (Or.inl ⟨by rfl, fun _ => by first | rfl | (go_simp; done) | (go_simp; rfl)⟩) ?_
        simp only [Act.put, List.setIfInBounds_toArray, List.set_cons_zero, List.set_cons_succ]
        refine take_op (i := 3) (d := 33) (v := .pointer (some ⟨cb, 2, none⟩)) rfl rfl (by kernel_rfl) (by kernel_rfl) (by kernel_rfl) hQ (Or.inl ⟨by rfl, fun _ => by first | rfl | (go_simp; done) | (go_simp; rfl)⟩) ?_
        simp only [Act.put, List.setIfInBounds_toArray, List.set_cons_zero, List.set_cons_succ]
        refine wpAny_ready (rs := [0, 4]) (by kernel_rfl) (by simp) ?_
        refine AllReady.cons rfl (fun K hK => ?_) (AllReady.cons rfl (fun K hK => ?_) AllReady.nil)
        · go_simp
          refine hK _ _ ?_
          try simp only [Act.put, List.setIfInBounds_toArray, List.set_cons_zero, List.set_cons_succ]
          clear hK K
          refine wpAny_ready (rs := [4]) (by kernel_rfl) (by simp) ?_
          refine AllReady.cons rfl (fun K hK => ?_) AllReady.nil
          go_simp
          refine hK _ _ ?_
          try simp only [Act.put, List.setIfInBounds_toArray, List.set_cons_zero, List.set_cons_succ]
          clear hK K
          refine wpAny_ready (rs := [7]) (by kernel_rfl) (by simp) ?_
          refine AllReady.cons rfl (fun K hK => ?_) AllReady.nil
          refine step_append_lies _ (by rfl) _ _ _ (by rfl) B 3 i0 _ 1 8 Try.underlying39 hi0 hz0 hz1 hz2 rfl (by decide) _ m en (by rfl) (World.ownsRow.alloc Hrow0.out _) ⟨w0.heap.size, 0, none⟩ 1 1 [.int .i64 (k : Int)] (by rfl) (by rfl) (one_int8 w0 (k : Int)) (by simp [Value.oneCell']) (by decide) (by simp only [maxLen]; omega) (by omega) (by have := Hdb.out; simp; omega) (w0.heap.size + 1) (by simp) ?_; intro g8 cp8 w8 hown8 hgrow8 hat8 hlt8
          obtain ⟨hx8, hd8, hf8⟩ := HAll.out w8 (Hta.out.trans (Touch.grown hgrow8 rfl))
          refine hK _ _ ?_
          try simp only [Act.put, List.setIfInBounds_toArray, List.set_cons_zero, List.set_cons_succ]
          clear hK K
          refine take_op (i := 8) (d := 38) (v := .pointer (some ⟨cb, 0, none⟩)) rfl rfl (by kernel_rfl) (by kernel_rfl) (by kernel_rfl) hQ (Or.inl ⟨by rfl, fun _ => by first | rfl | (go_simp; done) | (go_simp; rfl)⟩) ?_
          simp only [Act.put, List.setIfInBounds_toArray, List.set_cons_zero, List.set_cons_succ]
          refine take_op (i := 9) (d := 39) (v := .pointer (some ⟨cb, 2, none⟩)) rfl rfl (by kernel_rfl) (by kernel_rfl) (by kernel_rfl) hQ (Or.inl ⟨by rfl, fun _ => by first | rfl | (go_simp; done) | (go_simp; rfl)⟩) ?_
          simp only [Act.put, List.setIfInBounds_toArray, List.set_cons_zero, List.set_cons_succ]
          refine wpAny_ready (rs := [10]) (by kernel_rfl) (by simp) ?_
          refine AllReady.cons rfl (fun K hK => ?_) AllReady.nil
          go_simp
          refine hK _ _ ?_
          try simp only [Act.put, List.setIfInBounds_toArray, List.set_cons_zero, List.set_cons_succ]
          clear hK K
          refine wpAny_done (by kernel_rfl) (hN _ _ ?_) _
          obtain ⟨⟨t9, hC9, hR9, hg9, hF9⟩, x9, w09, w29, hfin⟩ := HEnd.out g8 cp8 w8 hown8 hgrow8 (by rw [← Hds.out]; exact hat8) _ rfl
          have f9 := hF9.cell (i := 0) rfl
          have fz9 := hF9.free 0
          have d9 := hC9.cell (i := 0) rfl
          have Hfin := Lib.hid hfin
          clear hfin hF9 hC9 hR9 hg9 t9 hown8 hgrow8 hat8 hx8 hd8 hf8 hxa hda hfa hx0 hd0 hf0 HEnd HAll Hrow0 Hrow' Hta Ht0 hlt8
          generalize w8.setCell ⟨cb, 2, none⟩ (.slice (some ⟨g8, 0, none⟩) (m + 1) cp8) = w9 at *
          go_wp2
          go_ret
          exact ⟨fun h => Bool.noConfusion h, fun _ => ⟨rfl, Hfin.out _⟩⟩
        · go_simp
          refine hK _ _ ?_
          try simp only [Act.put, List.setIfInBounds_toArray, List.set_cons_zero, List.set_cons_succ]
          clear hK K
          refine wpAny_ready (rs := [0, 7]) (by kernel_rfl) (by simp) ?_
          refine AllReady.cons rfl (fun K hK => ?_) (AllReady.cons rfl (fun K hK => ?_) AllReady.nil)
          · go_simp
            refine hK _ _ ?_
            try simp only [Act.put, List.setIfInBounds_toArray, List.set_cons_zero, List.set_cons_succ]
            clear hK K
            refine wpAny_ready (rs := [7]) (by kernel_rfl) (by simp) ?_
            refine AllReady.cons rfl (fun K hK => ?_) AllReady.nil
            refine step_append_lies _ (by rfl) _ _ _ (by rfl) B 3 i0 _ 1 8 Try.underlying39 hi0 hz0 hz1 hz2 rfl (by decide) _ m en (by rfl) (World.ownsRow.alloc Hrow0.out _) ⟨w0.heap.size, 0, none⟩ 1 1 [.int .i64 (k : Int)] (by rfl) (by rfl) (one_int8 w0 (k : Int)) (by simp [Value.oneCell']) (by decide) (by simp only [maxLen]; omega) (by omega) (by have := Hdb.out; simp; omega) (w0.heap.size + 1) (by simp) ?_; intro g8 cp8 w8 hown8 hgrow8 hat8 hlt8
            obtain ⟨hx8, hd8, hf8⟩ := HAll.out w8 (Hta.out.trans (Touch.grown hgrow8 rfl))
            refine hK _ _ ?_
            try simp only [Act.put, List.setIfInBounds_toArray, List.set_cons_zero, List.set_cons_succ]
            clear hK K
            refine take_op (i := 8) (d := 38) (v := .pointer (some ⟨cb, 0, none⟩)) rfl rfl (by kernel_rfl) (by kernel_rfl) (by kernel_rfl) hQ (Or.inl ⟨by rfl, fun _ => by first | rfl | (go_simp; done) | (go_simp; rfl)⟩) ?_
            simp only [Act.put, List.setIfInBounds_toArray, List.set_cons_zero, List.set_cons_succ]
            refine take_op (i := 9) (d := 39) (v := .pointer (some ⟨cb, 2, none⟩)) rfl rfl (by kernel_rfl) (by kernel_rfl) (by kernel_rfl) hQ (Or.inl ⟨by rfl, fun _ => by first | rfl | (go_simp; done) | (go_simp; rfl)⟩) ?_
            simp only [Act.put, List.setIfInBounds_toArray, List.set_cons_zero, List.set_cons_succ]
            refine wpAny_ready (rs := [10]) (by kernel_rfl) (by simp) ?_
            refine AllReady.cons rfl (fun K hK => ?_) AllReady.nil
            go_simp
            refine hK _ _ ?_
            try simp only [Act.put, List.setIfInBounds_toArray, List.set_cons_zero, List.set_cons_succ]
            clear hK K
            refine wpAny_done (by kernel_rfl) (hN _ _ ?_) _
            obtain ⟨⟨t9, hC9, hR9, hg9, hF9⟩, x9, w09, w29, hfin⟩ := HEnd.out g8 cp8 w8 hown8 hgrow8 (by rw [← Hds.out]; exact hat8) _ rfl
            have f9 := hF9.cell (i := 0) rfl
            have fz9 := hF9.free 0
            have d9 := hC9.cell (i := 0) rfl
            have Hfin := Lib.hid hfin
            clear hfin hF9 hC9 hR9 hg9 t9 hown8 hgrow8 hat8 hx8 hd8 hf8 hxa hda hfa hx0 hd0 hf0 HEnd HAll Hrow0 Hrow' Hta Ht0 hlt8
            generalize w8.setCell ⟨cb, 2, none⟩ (.slice (some ⟨g8, 0, none⟩) (m + 1) cp8) = w9 at *
            go_wp2
            go_ret
            exact ⟨fun h => Bool.noConfusion h, fun _ => ⟨rfl, Hfin.out _⟩⟩
          · refine step_append_lies _ (by rfl) _ _ _ (by rfl) B 3 i0 _ 1 8 Try.underlying39 hi0 hz0 hz1 hz2 rfl (by decide) _ m en (by rfl) (World.ownsRow.alloc Hrow0.out _) ⟨w0.heap.size, 0, none⟩ 1 1 [.int .i64 (k : Int)] (by rfl) (by rfl) (one_int8 w0 (k : Int)) (by simp [Value.oneCell']) (by decide) (by simp only [maxLen]; omega) (by omega) (by have := Hdb.out; simp; omega) (w0.heap.size + 1) (by simp) ?_; intro g8 cp8 w8 hown8 hgrow8 hat8 hlt8
            obtain ⟨hx8, hd8, hf8⟩ := HAll.out w8 (Hta.out.trans (Touch.grown hgrow8 rfl))
            refine hK _ _ ?_
            try simp only [Act.put, List.setIfInBounds_toArray, List.set_cons_zero, List.set_cons_succ]
            clear hK K
            refine wpAny_ready (rs := [0]) (by kernel_rfl) (by simp) ?_
            refine AllReady.cons rfl (fun K hK => ?_) AllReady.nil
            go_simp
            refine hK _ _ ?_
            try simp only [Act.put, List.setIfInBounds_toArray, List.set_cons_zero, List.set_cons_succ]
            clear hK K
            refine take_op (i := 8) (d := 38) (v := .pointer (some ⟨cb, 0, none⟩)) rfl rfl (by kernel_rfl) (by kernel_rfl) (by kernel_rfl) hQ (Or.inl ⟨by rfl, fun _ => by first | rfl | (go_simp; done) | (go_simp; rfl)⟩) ?_
            simp only [Act.put, List.setIfInBounds_toArray, List.set_cons_zero, List.set_cons_succ]
            refine take_op (i := 9) (d := 39) (v := .pointer (some ⟨cb, 2, none⟩)) rfl rfl (by kernel_rfl) (by kernel_rfl) (by kernel_rfl) hQ (Or.inl ⟨by rfl, fun _ => by first | rfl | (go_simp; done) | (go_simp; rfl)⟩) ?_
            simp only [Act.put, List.setIfInBounds_toArray, List.set_cons_zero, List.set_cons_succ]
            refine wpAny_ready (rs := [10]) (by kernel_rfl) (by simp) ?_
            refine AllReady.cons rfl (fun K hK => ?_) AllReady.nil
            go_simp
            refine hK _ _ ?_
            try simp only [Act.put, List.setIfInBounds_toArray, List.set_cons_zero, List.set_cons_succ]
            clear hK K
            refine wpAny_done (by kernel_rfl) (hN _ _ ?_) _
            obtain ⟨⟨t9, hC9, hR9, hg9, hF9⟩, x9, w09, w29, hfin⟩ := HEnd.out g8 cp8 w8 hown8 hgrow8 (by rw [← Hds.out]; exact hat8) _ rfl
            have f9 := hF9.cell (i := 0) rfl
            have fz9 := hF9.free 0
            have d9 := hC9.cell (i := 0) rfl
            have Hfin := Lib.hid hfin
            clear hfin hF9 hC9 hR9 hg9 t9 hown8 hgrow8 hat8 hx8 hd8 hf8 hxa hda hfa hx0 hd0 hf0 HEnd HAll Hrow0 Hrow' Hta Ht0 hlt8
            generalize w8.setCell ⟨cb, 2, none⟩ (.slice (some ⟨g8, 0, none⟩) (m + 1) cp8) = w9 at *
            go_wp2
            go_ret
            exact ⟨fun h => Bool.noConfusion h, fun _ => ⟨rfl, Hfin.out _⟩⟩
end Go.Proofs.Ythhllpnbmelidaa
