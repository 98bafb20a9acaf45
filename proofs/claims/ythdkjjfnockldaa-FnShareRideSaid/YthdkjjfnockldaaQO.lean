/- The program's PartsOwner. -/
import Derived.Test.YthdkjjfnockldaaQK
namespace Go.Proofs.Ythdkjjfnockldaa
open Go.RowKit Go.Shelf
attribute [local go_sem] Oper.semAt_some

/-- The mile's box, the two results. -/
def Ow3 (w W : World) (m : Int) : Prop := Boxed W w.heap.size 3 (.int .i64 m) ∧ Boxed W (w.heap.size + 1) 3 (.int .i64 0) ∧ Boxed W (w.heap.size + 2) 4 (.bool false)
def OwI (w : World) (m : Int) (T : Nat → Prop) (pre : List Nat) (W : World) : Prop :=
  (∀ k ∈ pre, (k : Int) ≠ m) ∧ Ow3 w W m ∧ (¬ T (w.heap.size + 1) ∧ ¬ T (w.heap.size + 2)) ∧ Below w.heap.size w W ∧ w.heap.size + 3 ≤ W.heap.size
def OwX (w : World) (m : Int) (own : Nat → Int) (c : Code) (_T : Nat → Prop) (pre : List Nat) (W : World) : Prop :=
  c = .ret ∧ (∃ k ∈ pre, (k : Int) = m ∧ W.cell? ⟨w.heap.size + 1, 0, none⟩ = some (.int .i64 (own k))) ∧ W.cell? ⟨w.heap.size + 2, 0, none⟩ = some (.bool true) ∧ Below w.heap.size w W ∧ w.heap.size + 3 ≤ W.heap.size

theorem OwI.abide (w : World) (m : Int) {B : Nat} (hB : w.heap.size + 3 ≤ B) : Abide B (OwI w m) := fun T T' s W W' ⟨h1, ⟨h2, h3, h4⟩, h5, h6, h7⟩ ht hT =>
  ⟨h1, ⟨(ht.block w.heap.size (by omega) (fun e => by omega)).trans h2, (ht.block (w.heap.size + 1) (by omega) (fun e => by omega)).trans h3, (ht.block (w.heap.size + 2) (by omega) (fun e => by omega)).trans h4⟩,
    ⟨fun h => (hT _ h).elim h5.1 (fun h => by omega), fun h => (hT _ h).elim h5.2 (fun h => by omega)⟩, h6.trans (ht.below (fun j hj => by omega) (by omega)), Nat.le_trans h7 ht.size⟩
theorem OwX.abide (w : World) (m : Int) (own : Nat → Int) (c : Code) {B : Nat} (hB : w.heap.size + 3 ≤ B) : Abide B (OwX w m own c) := fun T T' s W W' ⟨h1, ⟨k, hk, e, h2⟩, h3, h6, h7⟩ ht hT =>
  ⟨h1, ⟨k, hk, e, (World.cell?_of_block (a := ⟨w.heap.size + 1, 0, none⟩) (ht.block (w.heap.size + 1) (by omega) (fun e => by omega))).trans h2⟩, (World.cell?_of_block (a := ⟨w.heap.size + 2, 0, none⟩) (ht.block (w.heap.size + 2) (by omega) (fun e => by omega))).trans h3,
    h6.trans (ht.below (fun j hj => by omega) (by omega)), Nat.le_trans h7 ht.size⟩

theorem putCell {W : World} {D b : Nat} (i : Nat) (o : Obj) (h : b ≠ D) : (W.putObj D o).cell? ⟨b, i, none⟩ = W.cell? ⟨b, i, none⟩ := World.cell?_of_block (a := ⟨b, i, none⟩) (World.putObj_heap_other h)

/-- The two results are read out of their cells. -/
theorem owRes (W : World) (n : Nat) (x : Int) (q : Bool) (tmps : Array Value) (h4 : tmps.getD 4 undef = .pointer (some ⟨n + 1, 0, none⟩)) (h5 : tmps.getD 5 undef = .pointer (some ⟨n + 2, 0, none⟩)) (c1 : W.cell? ⟨n + 1, 0, none⟩ = some (.int .i64 x)) (c2 : W.cell? ⟨n + 2, 0, none⟩ = some (.bool q)) :
    (results Try.f19 tmps).run Try.prog W = .ok (.tuple #[.int .i64 x, .bool q]) W := by
  have h4' : tmps[4]?.getD undef = .pointer (some ⟨n + 1, 0, none⟩) := by simpa using h4
  have h5' : tmps[5]?.getD undef = .pointer (some ⟨n + 2, 0, none⟩) := by simpa using h5
  simp [results, Try.f19, go_sem, h4', h5', c1, c2]

set_option maxRecDepth 100000 in
set_option maxHeartbeats 2000000 in
theorem owner2_any (v : Value) (l : List Pt) (m : Int) (w : World) (hv : PtIn w v l) (hm : l.length ≤ 1048576) :
    Calls Try.prog 19 #[v, .int .i64 m] w (Gives (.tuple #[.int .i64 (mileX l m), .bool (mileOk l m)]) w) := by
  have hB3 : ∀ W, W = ((w.alloc (.cells #[.int .i64 m] 3)).alloc (.cells #[.int .i64 0] 3)).alloc (.cells #[.bool false] 4) → Below w.heap.size w W ∧ W.heap.size = w.heap.size + 3 ∧ Ow3 w W m := fun W e => by
    subst e
    refine ⟨(((Below.refl _ w).alloc (Nat.le_refl _) _).alloc (by simp) _).alloc (by simp; omega) _, by simp, ?_, ?_, ?_⟩
    · exact ((Boxed.new w 3 _).alloc _).alloc _
    · have := (Boxed.new (w.alloc (.cells #[.int .i64 m] 3)) 3 (.int .i64 0)).alloc (.cells #[.bool false] 4)
      rwa [World.size_alloc] at this
    · have := Boxed.new ((w.alloc (.cells #[.int .i64 m] 3)).alloc (.cells #[.int .i64 0] 3)) 4 (.bool false)
      rwa [World.size_alloc, World.size_alloc] at this
  have HB3 := Lib.hid hB3; clear hB3
  have Hval := Lib.hid (fun W (h : Below w.heap.size w W) => valid2_any v l W (hv.below h) hm)
  cases hz : validP l with
  | false =>
    have ho : mileOk l m = false := by unfold mileOk; rw [hz]; rfl
    have hx : mileX l m = 0 := by unfold mileX; rw [ho]; rfl
    have Hx := Lib.hid hx; clear hx
    have Ho := Lib.hid ho; clear ho
    rw [hz] at Hval
    obtain ⟨a, cap, rfl, _, _⟩ := hv
    refine (callsIn_wide (n := 10)).1 ?_
    refine callsIn_of_wp_marks Try.func19 rfl trivial ?_ rfl
    simp only [Try.ntmps19, List.size_toArray, List.length_cons, List.length_nil, Nat.reduceAdd, Nat.reduceSub, Array.replicate_succ, Array.replicate_zero, List.push_toArray, List.append_toArray, List.nil_append, List.cons_append]
    gi_wp2_with (refine ⟨trivial, ?_⟩; gi_at_call 49; refine ((callsIn_wide (n := 9)).2 (Hval.out _ (HB3.out _ rfl).1)).mono ?_; rintro e w1 ⟨rfl, hb1⟩; obtain ⟨q1, q2, q3, q4, q5⟩ := HB3.out _ rfl; have HQ := Lib.hid q1; have HS := Lib.hid q2; have hb3 := Keep.boxed (T := fun _ => True) ⟨hb1.size, fun j hj _ => hb1.block j hj⟩ q4 trivial; have hb4 := Keep.boxed (T := fun _ => True) ⟨hb1.size, fun j hj _ => hb1.block j hj⟩ q5 trivial; have c3 := hb3.cell; have c4 := hb4.cell; have f3 := hb3.frozen; have f4 := hb4.frozen; have HB1 := Lib.hid hb1; clear q1 q2 q3 q4 q5 hb1 hb3 hb4)
    have hs1 := HB1.out.size
    rw [HS.out] at hs1
    have hcA : ((w1.setCell ⟨w.heap.size + 1, 0, none⟩ (.int .i64 0)).setCell ⟨w.heap.size + 1 + 1, 0, none⟩ (.bool false)).cell? ⟨w.heap.size + 1, 0, none⟩ = some (.int .i64 0) := by
      rw [World.cell?_setCell_other _ _ _ _ (by intro e; injection e; omega), World.cell?_setCell_same _ _ _ c3]
    have hcB : ((w1.setCell ⟨w.heap.size + 1, 0, none⟩ (.int .i64 0)).setCell ⟨w.heap.size + 1 + 1, 0, none⟩ (.bool false)).cell? ⟨w.heap.size + 2, 0, none⟩ = some (.bool false) :=
      World.cell?_setCell_same _ _ _ ((World.cell?_setCell_other _ _ _ _ (by intro e; injection e; omega)).trans c4)
    refine ⟨_, owRes _ w.heap.size _ _ _ rfl rfl hcA hcB, ?_⟩
    rw [Hx.out, Ho.out]
    exact ⟨rfl, (((HQ.out.trans (HB1.out.mono (by rw [HS.out]; omega))).setCell (p := ⟨w.heap.size + 1, 0, none⟩) (Nat.le_succ _) _).setCell (p := ⟨w.heap.size + 1 + 1, 0, none⟩) (by simp; omega) _)⟩
  | true =>
    rw [hz] at Hval
    obtain ⟨b, o, cap, rfl, _, hb, hl⟩ := hv.full hz
    have Hz := Lib.hid hz
    have Hl := Lib.hid hl
    have hlen := ownP_len hz
    clear hz hl
    refine (callsIn_wide (n := 10)).1 ?_
    refine callsIn_of_wp_marks Try.func19 rfl trivial ?_ rfl
    simp only [Try.ntmps19, List.size_toArray, List.length_cons, List.length_nil, Nat.reduceAdd, Nat.reduceSub, Array.replicate_succ, Array.replicate_zero, List.push_toArray, List.append_toArray, List.nil_append, List.cons_append]
    gi_wp2_with (first | (refine ⟨trivial, ?_⟩; gi_at_call 49; refine ((callsIn_wide (n := 9)).2 (Hval.out _ (HB3.out _ rfl).1)).mono ?_; rintro e w1 ⟨rfl, hb1⟩; obtain ⟨q1, q2, q3, q4, q5⟩ := HB3.out _ rfl; have HQ := Lib.hid (q1.trans (hb1.mono (by rw [q2]; omega))); have hs1 := hb1.size; rw [q2] at hs1; have HO := Lib.hid (show Ow3 w w1 m from ⟨Keep.boxed (T := fun _ => True) ⟨hb1.size, fun j hj _ => hb1.block j hj⟩ q3 trivial, Keep.boxed (T := fun _ => True) ⟨hb1.size, fun j hj _ => hb1.block j hj⟩ q4 trivial, Keep.boxed (T := fun _ => True) ⟨hb1.size, fun j hj _ => hb1.block j hj⟩ q5 trivial⟩); clear q1 q2 q3 q4 q5 hb1) | (refine ⟨trivial, ?_⟩; gi_at_call 51; refine ((callsIn_wide (n := 9)).2 (milesOf_any (some ⟨b, o, none⟩) l.length cap _)).mono ?_; rintro e w' ⟨rfl, rfl⟩))
    have hB1 := HQ.out
    have hmc := miles_comes w1.heap.size b o cap l (fun j => j < w.heap.size ∨ j = w1.heap.size) (w1.alloc (.cells #[.slice (some ⟨b, o, none⟩) l.length cap] 23)) (news1 w1 _ _ 0 _ rfl) (by simp) (by simp; omega) (.inl hb)
      (fun j hj => by simp; omega) Hz.out (Hl.out.below (hB1.alloc hB1.size _) hb)
    have Hmc := Lib.hid hmc
    have hI0 : OwI w m (fun j => j < w.heap.size ∨ j = w1.heap.size) [] (w1.alloc (.cells #[.slice (some ⟨b, o, none⟩) l.length cap] 23)) :=
      ⟨(fun k hk => by cases hk), ⟨HO.out.1.alloc _, HO.out.2.1.alloc _, HO.out.2.2.alloc _⟩, ⟨fun h => by omega, fun h => by omega⟩, hB1.alloc hB1.size _, by simp; omega⟩
    have HI0 := Lib.hid hI0
    clear hI0 hmc hB1
    have hs0 : (w1.alloc (.cells #[.slice (some ⟨b, o, none⟩) l.length cap] 23)).heap.size = w1.heap.size + 1 := by simp
    generalize w1.alloc (.cells #[.slice (some ⟨b, o, none⟩) l.length cap] 23) = W0 at *
    refine rangeComes (gf := 77) (lb := #[.pointer (some ⟨w1.heap.size, 0, none⟩)]) (by simp [go_sem]) (enters_of Try.func77 (by kernel_rfl) rfl) Hmc.out (fun j hj => by omega) (Below.refl _ _) (fun _ => rfl)
      (OwI w m) (OwX w m (ownAt l)) (OwI.abide w m (by omega)) (fun c => OwX.abide w m (ownAt l) c (by omega)) HI0.out
      (fun k => { tmps := #[.slice (some ⟨b, o, none⟩) l.length cap, .int .i64 m, undef, .pointer (some ⟨w.heap.size, 0, none⟩), .pointer (some ⟨w.heap.size + 1, 0, none⟩), .pointer (some ⟨w.heap.size + 1 + 1, 0, none⟩), .int .i64 (k : Nat), .int .i64 (ownAt l k), .slice (some ⟨b, o, none⟩) l.length cap, .bool true, .bool false,
        .slice (some ⟨b, o, none⟩) l.length cap, .func (.func 77) #[] #[.pointer (some ⟨w1.heap.size, 0, none⟩)], .int .i64 (k : Nat), .int .i64 (ownAt l k), undef, undef, undef, undef], defers := [] }) ?assign ?body ?done ?stop
    case assign =>
      intro l2 x W K hK
      simp only [encO]
      gi_wp2
      exact hK
    case body =>
      rintro l2 T pre k W hpre hsz hTl ⟨h1, ⟨h2, h3, h4⟩, h5, h6, h7⟩
      have c2 := h2.cell
      have c3 := h3.cell
      have c4 := h4.cell
      have f3 := h3.frozen
      have f4 := h4.frozen
      have H1 := Lib.hid h1
      have H2 := Lib.hid h2
      have H3 := Lib.hid h3
      have H4 := Lib.hid h4
      have H5 := Lib.hid h5
      have H6 := Lib.hid h6
      clear h1 h2 h3 h4 h5 h6 hTl hpre
      by_cases q : (k : Int) = m
      · have Q := Lib.hid q
        have hd : ((k : Int) == m) = true := by simpa using q
        clear q
        gi_wp2
        have cA : ((W.setCell ⟨w.heap.size + 1, 0, none⟩ (.int .i64 (ownAt l k))).setCell ⟨w.heap.size + 1 + 1, 0, none⟩ (.bool true)).cell? ⟨w.heap.size + 1, 0, none⟩ = some (.int .i64 (ownAt l k)) := by
          rw [World.cell?_setCell_other _ _ _ _ (by intro e; injection e; omega), World.cell?_setCell_same _ _ _ c3]
        have cB : ((W.setCell ⟨w.heap.size + 1, 0, none⟩ (.int .i64 (ownAt l k))).setCell ⟨w.heap.size + 1 + 1, 0, none⟩ (.bool true)).cell? ⟨w.heap.size + 2, 0, none⟩ = some (.bool true) :=
          World.cell?_setCell_same _ _ _ ((World.cell?_setCell_other _ _ _ _ (by intro e; injection e; omega)).trans c4)
        exact ⟨((Keep.refl T W).setCell (p := ⟨w.heap.size + 1, 0, none⟩) H5.out.1 _).setCell (p := ⟨w.heap.size + 1 + 1, 0, none⟩) H5.out.2 _, rfl, ⟨k, by simp, Q.out, cA⟩, cB,
          (H6.out.setCell (p := ⟨w.heap.size + 1, 0, none⟩) (Nat.le_succ _) _).setCell (p := ⟨w.heap.size + 1 + 1, 0, none⟩) (by simp; omega) _, by rw [World.size_setCell, World.size_setCell]; exact h7⟩
      · have Q := Lib.hid q
        have hd : ((k : Int) == m) = false := by simpa using q
        clear q
        gi_wp2
        refine ⟨Keep.refl _ _, fun j hj => ?_, ⟨H2.out, H3.out, H4.out⟩, H5.out, H6.out, h7⟩
        rcases List.mem_append.1 hj with hj | hj
        · exact H1.out j hj
        · simp at hj; subst hj; exact Q.out
    case done =>
      rintro D T W hD hTD ⟨h1, ⟨h2, h3, h4⟩, h5, h6, h7⟩ hK
      have hno : mileOk l m = false := bnot_of mileOk_iff (fun h => h1 m.toNat (List.mem_range.2 (by omega)) (by omega))
      have hx : mileX l m = 0 := by unfold mileX; rw [hno]; rfl
      have Hno := Lib.hid hno
      have Hx := Lib.hid hx
      have c3 := h3.cell
      have c4 := h4.cell
      have f3 := h3.frozen
      have f4 := h4.frozen
      have H6 := Lib.hid h6
      clear h1 h6 hno hx
      gi_wp2
      have hK1 := (Below.heap_setCell W ⟨w.heap.size + 1, 0, none⟩ (.int .i64 0) D (show D ≠ w.heap.size + 1 by omega)).trans hK
      have hK2 := (Below.heap_setCell (W.setCell ⟨w.heap.size + 1, 0, none⟩ (.int .i64 0)) ⟨w.heap.size + 1 + 1, 0, none⟩ (.bool false) D (show D ≠ w.heap.size + 1 + 1 by omega)).trans hK1
      refine ⟨by simp, .inl ⟨_, _, rfl, run_takeDeferred hK2, ?_⟩⟩
      have cA : ((W.setCell ⟨w.heap.size + 1, 0, none⟩ (.int .i64 0)).setCell ⟨w.heap.size + 1 + 1, 0, none⟩ (.bool false)).cell? ⟨w.heap.size + 1, 0, none⟩ = some (.int .i64 0) := by
        rw [World.cell?_setCell_other _ _ _ _ (by intro e; injection e; omega), World.cell?_setCell_same _ _ _ c3]
      have cB : ((W.setCell ⟨w.heap.size + 1, 0, none⟩ (.int .i64 0)).setCell ⟨w.heap.size + 1 + 1, 0, none⟩ (.bool false)).cell? ⟨w.heap.size + 2, 0, none⟩ = some (.bool false) :=
        World.cell?_setCell_same _ _ _ ((World.cell?_setCell_other _ _ _ _ (by intro e; injection e; omega)).trans c4)
      refine ⟨_, owRes _ w.heap.size 0 false _ rfl rfl ((putCell _ _ (by omega)).trans cA) ((putCell _ _ (by omega)).trans cB), ?_⟩
      rw [Hx.out, Hno.out]
      exact ⟨rfl, ((H6.out.setCell (p := ⟨w.heap.size + 1, 0, none⟩) (Nat.le_succ _) _).setCell (p := ⟨w.heap.size + 1 + 1, 0, none⟩) (by simp; omega) _).trans ((touch_putObj (S := fun j => j = D) _ _ rfl).below (fun j hj => by omega) (by rw [World.size_setCell, World.size_setCell]; omega))⟩
    case stop =>
      rintro D c T pre W hD hTD hpre ⟨rfl, ⟨k, hk, e, c3⟩, c4, h6, h7⟩ hK
      have hkl : k < (ownP l).length := List.mem_range.1 (hpre.subset hk)
      have hyes : mileOk l m = true := mileOk_iff.2 ⟨Hz.out, by omega, by omega⟩
      have hx : mileX l m = ownAt l k := by unfold mileX; rw [hyes, if_pos rfl, ← e, Int.toNat_natCast]
      gi_wp2
      refine ⟨by simp, .inl ⟨_, _, rfl, run_takeDeferred hK, ?_⟩⟩
      refine ⟨_, owRes _ w.heap.size (ownAt l k) true _ rfl rfl ((putCell _ _ (by omega)).trans c3) ((putCell _ _ (by omega)).trans c4), ?_⟩
      rw [hx, hyes]
      exact ⟨rfl, h6.trans ((touch_putObj (S := fun j => j = D) _ _ rfl).below (fun j hj => by omega) (by omega))⟩


end Go.Proofs.Ythdkjjfnockldaa
