/- Texts of this law in one: JU JV JX7 HD JY7 IC. -/
import Derived.StillTailTactics
import Derived.Test.YtmkcnoaphoiiaaaJQB
import Derived.Test.YtmkcnoaphoiiaaaJ4
import Derived.Test.YtmkcnoaphoiiaaaVC
import Derived.Test.YtmkcnoaphoiiaaaJK
import Derived.Test.YtmkcnoaphoiiaaaM7
import Derived.Test.YtmkcnoaphoiiaaaM
import Derived.Deep.RegionHeld3
import Derived.Deep.RegionWith
import Derived.Test.YtmkcnoaphoiiaaaJR
import Derived.Deep.AppendLies
import Derived.Test.YtmkcnoaphoiiaaaOC
import Derived.Test.YtmkcnoaphoiiaaaI
set_option linter.unusedVariables false
set_option linter.unusedSimpArgs false
/- PostFewest of the program: the tables, and what is called for each letter. -/
namespace Go.Proofs.Ytmkcnoaphoiiaaa
open Go.RowKit
set_option linter.unusedVariables false
set_option linter.unusedSimpArgs false

/-- What leads to all tables. -/
structure TbsAt (w : World) (nb tc g cap N : Nat) (tb eb : Nat → Nat) : Prop where
  n : Whole w nb 3 #[.int .i64 (N : Int)]
  c : Whole w tc 98 #[.slice (some ⟨g, 0, none⟩) N cap]
  gl : g < w.heap.size
  row : ∀ i, i < N → w.cell? ⟨g, i, none⟩ = some (.pointer (some ⟨tb i, 0, none⟩))
  ne : ∀ i, i < N → eb i ≠ nb ∧ eb i ≠ tc ∧ eb i ≠ g ∧ ∀ j, j < N → eb i ≠ tb j ∧ (i ≠ j → eb i ≠ eb j)
theorem TbsAt.touch {w w' : World} {nb tc g cap N : Nat} {tb eb : Nat → Nat} {S : Nat → Prop} (h : TbsAt w nb tc g cap N tb eb) (ht : Touch S w w') (h1 : ¬ S nb) (h2 : ¬ S tc) (h3 : ¬ S g) : TbsAt w' nb tc g cap N tb eb :=
  ⟨h.n.touch7 ht h1, h.c.touch7 ht h2, Nat.lt_of_lt_of_le h.gl ht.size, fun i hi => by rw [ht.cell h.gl h3]; exact h.row i hi, h.ne⟩
theorem TbsAt.below {w w' : World} {nb tc g cap N : Nat} {tb eb : Nat → Nat} (h : TbsAt w nb tc g cap N tb eb) (hb : Below w.heap.size w w') : TbsAt w' nb tc g cap N tb eb :=
  h.touch (Touch.of_below (S := fun _ => False) hb) (fun h => h) (fun h => h) (fun h => h)

def InvB (nb tc g cap N pb : Nat) (tb eb : Nat → Nat) (T : Tbl) (w : World) : Prop :=
  TbsAt w nb tc g cap N tb eb ∧ ∀ i : Nat, i < N → PTab w (tb i) (eb i) pb N (T (i : Int))
theorem InvB.below {nb tc g cap N pb : Nat} {tb eb : Nat → Nat} {T : Tbl} {w w' : World} (h : InvB nb tc g cap N pb tb eb T w) (hb : Below w.heap.size w w') : InvB nb tc g cap N pb tb eb T w' :=
  ⟨h.1.below hb, fun i hi => (h.2 i hi).below hb⟩

theorem impr_two (n : Int) (T : Tbl) (x : Ltr) (h : x.r < n) : (impr (κ2 n) T x).2 = beat (T x.r x.u) x ∧ (impr (κ2 n) T x).1 = fun k => if k = x.r then upT (T x.r) x else T k := by
  unfold impr κ2
  dsimp only
  by_cases hb : beat (T x.r x.u) x = true
  · rw [if_pos ⟨decide_eq_true h, hb⟩]
    refine ⟨hb.symm, ?_⟩
    funext k u
    unfold putT upT
    by_cases e : k = x.r
    · subst e; simp [hb]
    · simp [e]
  · rw [if_neg (fun h => hb h.2)]
    have hb' := Bool.eq_false_iff.2 hb
    refine ⟨hb'.symm, ?_⟩
    funext k
    by_cases e : k = x.r
    · rw [if_pos e, upT_no hb', e]
    · rw [if_neg e]
theorem impr_out (n : Int) (T : Tbl) (x : Ltr) (h : ¬ x.r < n) : impr (κ2 n) T x = (T, false) := by
  unfold impr κ2
  dsimp only
  rw [if_neg (fun e => h (of_decide_eq_true e.1))]

theorem InvB.put {nb tc g cap N pb : Nat} {tb eb : Nat → Nat} {T : Tbl} {w w' : World} (h : InvB nb tc g cap N pb tb eb T w) {i : Nat} (hi : i < N) {T' : Int → Option Ltr} (hp : PTab w' (tb i) (eb i) pb N T') (ht : Touch (fun p => p = eb i) w w') :
    InvB nb tc g cap N pb tb eb (fun k => if k = (i : Int) then T' else T k) w' := by
  obtain ⟨n1, n2, n3, n4⟩ := h.1.ne i hi
  refine ⟨h.1.touch ht (fun e => n1 e.symm) (fun e => n2 e.symm) (fun e => n3 e.symm), fun j hj => ?_⟩
  by_cases e : j = i
  · subst e; simp only [if_true]; exact hp
  · have e' : ¬ ((j : Int) = (i : Int)) := by omega
    show PTab w' (tb j) (eb j) pb N (if (j : Int) = (i : Int) then T' else T (j : Int))
    rw [if_neg e']
    obtain ⟨m1, m2⟩ := n4 j hj
    obtain ⟨_, cs, hw, _, _⟩ := h.2 i hi
    exact (h.2 j hj).touch ht (fun e => m1 e.symm) (fun e2 => m2 (fun h => e h.symm) e2.symm) (fun q cs' hq e => whole_ne hq hw (by decide) e)

set_option maxRecDepth 100000 in
set_option maxHeartbeats 1000000 in
theorem callB (nb tc g cap N pb : Nat) (tb eb : Nat → Nat) (B0 : Nat) (hN : N ≤ 8) : CallsspreadB (κ2 (N : Int)) (N : Int) (InvB nb tc g cap N pb tb eb) (fun p => ∃ i, i < N ∧ p = eb i) B0 nb tc := by
  intro T x w h _ hu0 hu1 _ _ hr0 _
  have hb : Below w.heap.size w (w.alloc (.cells (ltC x) 81)) := (Below.refl _ _).alloc (Nat.le_refl _) _
  have hW := Whole.made w 81 (ltC x)
  have h1 := h.below hb
  have HInv := Lib.hid h1
  have HB := Lib.hid hb
  have cn := h1.1.n.cell (i := 0) rfl
  have cc := h1.1.c.cell (i := 0) rfl
  have Hrow := Lib.hid h1.1.row
  have HI := Lib.hid (fun (i : Nat) (hi : i < N) w' hb => improve_any (tb i) (eb i) pb N (T (i : Int)) x.u x.t x.r w' ((h1.2 i hi).below hb) ⟨hu0, hu1⟩)
  have Hout := Lib.hid (fun (hr : ¬ x.r < (N : Int)) => impr_out (N : Int) T x hr)
  have Htwo := Lib.hid (fun (hr : x.r < (N : Int)) => impr_two (N : Int) T x hr)
  obtain ⟨u, t, r⟩ := x
  unfold ltC at *
  unfold ltV
  simp only at *
  have e0 : (w.alloc (.cells #[.int .i64 u, .int .i64 t, .int .i64 r] 81)).cell? ⟨w.heap.size, 0, none⟩ = some (.int .i64 u) := hW.cell rfl
  have e1 : (w.alloc (.cells #[.int .i64 u, .int .i64 t, .int .i64 r] 81)).cell? ⟨w.heap.size, 1, none⟩ = some (.int .i64 t) := hW.cell rfl
  have e2 : (w.alloc (.cells #[.int .i64 u, .int .i64 t, .int .i64 r] 81)).cell? ⟨w.heap.size, 2, none⟩ = some (.int .i64 r) := hW.cell rfl
  clear h hb hW h1
  by_cases hlt : r < (N : Int)
  · obtain ⟨i, rfl⟩ : ∃ i : Nat, r = (i : Int) := ⟨r.toNat, by omega⟩
    have hi : i < N := by omega
    have ci := Hrow.out i hi
    have d1 : decide ((i : Int) < (N : Int)) = true := decide_eq_true hlt
    have i0 : (0 : Int) ≤ (i : Int) := Int.natCast_nonneg _
    go_enter Try.func80, Try.ntmps80
    go_wp2_with fail
    generalize w.alloc (.cells #[.int .i64 u, .int .i64 t, .int .i64 (i : Int)] 81) = w0 at *
    go_still_tail 11, (by kernel_rfl)
    go_wp2_with fail
    refine (HI.out i hi _ (Below.refl _ _).drew).mono ?_; rintro e w3 ⟨rfl, hp3, ht3⟩
    have ht4 : Touch (fun p => p = eb i) w0 w3 := ((Touch.refl _ w0).drew).trans ht3
    have H3 := Lib.hid (InvB.put HInv.out hi hp3 ht4)
    have Ht3 := Lib.hid ht4
    have T2 := Lib.hid (Htwo.out hlt)
    clear hp3 ht3 ht4
    go_wp2
    go_ret
    exact ⟨ret_bool T2.out.1.symm, by rw [T2.out.2]; exact H3.out, (Touch.of_below HB.out).trans (Ht3.out.mono (fun p hp => ⟨i, hi, hp⟩))⟩
  · have Ho := Lib.hid (Hout.out hlt)
    have d0 : decide (r < (N : Int)) = false := decide_eq_false hlt
    clear Htwo HI Hrow Hout
    go_enter Try.func80, Try.ntmps80
    go_wp2_with fail
    go_region
    all_goals go_wp2
    all_goals go_ret
    all_goals exact ⟨ret_bool (by rw [Ho.out]), by rw [Ho.out]; exact HInv.out.below (by first | exact (Below.refl _ _).drewN _ | exact (Below.refl _ _).drew | exact ((Below.refl _ _).drewN _).drewN _ | exact Below.refl _ _), Touch.of_below (by first | exact HB.out.drewN _ | exact HB.out.drew | exact (HB.out.drewN _).drewN _ | exact HB.out)⟩

end Go.Proofs.Ytmkcnoaphoiiaaa
/- PostFewest of the program: the first table that has the town. -/
namespace Go.Proofs.Ytmkcnoaphoiiaaa
open Go.RowKit
set_option linter.unusedVariables false
set_option linter.unusedSimpArgs false

set_option maxRecDepth 100000 in
set_option maxHeartbeats 1000000 in
theorem hasTo_any (tb eb pb n bb : Nat) (T : Int → Option Ltr) (u : Int) (w : World) (h : PTab w tb eb pb n T) (hu : 0 ≤ u ∧ u < n) (hc : w.cell? ⟨bb, 0, none⟩ = some (.int .i64 u)) :
    Calls Try.prog 83 #[.pointer (some ⟨tb, 0, none⟩), .pointer (some ⟨bb, 0, none⟩)] w fun e w' => e = .returned (.bool (T u).isSome) ∧ w' = w := by
  have HH := Lib.hid (has_any tb eb pb n T u w h hu)
  clear h hu
  go_enter Try.func83, Try.ntmps83
  go_wp2_with fail
  refine HH.out.mono ?_; rintro e w' ⟨rfl, rfl⟩
  go_wp2
  go_ret
  exact ⟨rfl, rfl⟩

def idxB (N : Nat) (T : Tbl) (u : Int) : Int := match (List.range N).find? (fun k : Nat => (T (k : Int) u).isSome) with | some k => (k : Int) | none => -1
theorem idxB_at {N k : Nat} {T : Tbl} {u : Int} (hk : k < N) (h : (T (k : Int) u).isSome = true) (h' : ∀ j, j < k → (T (j : Int) u).isSome = false) : idxB N T u = k := by
  unfold idxB
  have : (List.range N).find? (fun k : Nat => (T (k : Int) u).isSome) = some k := by
    rw [List.find?_range_eq_some]
    exact ⟨h, by simpa using hk, fun j hj => by rw [h' j hj]; rfl⟩
  rw [this]
theorem idxB_no {N : Nat} {T : Tbl} {u : Int} (h' : ∀ j, j < N → (T (j : Int) u).isSome = false) : idxB N T u = -1 := by
  unfold idxB
  have : (List.range N).find? (fun k : Nat => (T (k : Int) u).isSome) = none := by
    rw [List.find?_eq_none]
    intro k hk
    rw [h' k (List.mem_range.1 hk)]
    simp
  rw [this]

set_option maxRecDepth 100000 in
set_option maxHeartbeats 1000000 in
theorem idxB_any (nb tc g cap N pb bb : Nat) (tb eb : Nat → Nat) (T : Tbl) (u : Int) (w : World) (h : InvB nb tc g cap N pb tb eb T w) (hu : 0 ≤ u ∧ u < N) (hc : w.cell? ⟨bb, 0, none⟩ = some (.int .i64 u)) (hbb : bb < w.heap.size) (hN : N ≤ 8) :
    Calls Try.prog 82 #[.slice (some ⟨g, 0, none⟩) N cap, .func (.func 83) #[] #[.pointer (some ⟨bb, 0, none⟩)]] w (Gives (.int .i64 (idxB N T u)) w) := by
  have HI := Lib.hid h
  have HH := Lib.hid (fun (i : Nat) (hi : i < N) (w' : World) (hb : Below w.heap.size w w') => hasTo_any (tb i) (eb i) pb N bb (T (i : Int)) u w' ((h.2 i hi).below hb) hu (by rw [hb.cell (p := ⟨bb, 0, none⟩) hbb]; exact hc))
  have Hrow := Lib.hid (fun (i : Nat) (hi : i < N) (w' : World) (hb : Below w.heap.size w w') => (h.below hb).1.row i hi)
  clear h hu hc hbb
  go_enter Try.func82, Try.ntmps82
  go_wp2
  go_loopw [8] (fun i wr => ∃ k : Nat, k ≤ N ∧ i = .int .i64 k ∧ (∀ j, j < k → (T (j : Int) u).isSome = false) ∧ Below w.heap.size w wr) (fun i _ => N - (intOf i).toNat)
  case atStart => exact ⟨0, Nat.zero_le _, rfl, fun j hj => by omega, Below.refl _ _⟩
  case round =>
    obtain ⟨k, hk, rfl, hno, hb⟩ := hrel
    have Hno := Lib.hid hno
    have HB := Lib.hid hb
    by_cases hlt : k < N
    · have hk' : (k : Int) < (N : Int) := by omega
      have hk0 : (0 : Int) ≤ (k : Int) := Int.natCast_nonneg _
      have ck := Hrow.out k hlt _ hb
      clear hno hb
      go_wp2_with fail
      refine (HH.out k hlt _ HB.out).mono ?_; rintro e w1 ⟨rfl, rfl⟩
      cases hq : (T (k : Int) u).isSome with
      | true =>
        have HQ := Lib.hid hq
        clear hq
        go_wp2
        go_ret
        exact ⟨ret_int (idxB_at hlt HQ.out Hno.out).symm, HB.out⟩
      | false =>
        have HQ := Lib.hid hq
        clear hq
        go_wp2
        exact ⟨⟨k + 1, hlt, by go_num, fun j hj => by
          by_cases e : j = k
          · rw [e]; exact HQ.out
          · exact Hno.out j (by omega), HB.out⟩, by simp [intOf]; omega⟩
    · obtain rfl : k = N := by omega
      clear hno hb
      go_wp2
      go_ret
      exact ⟨ret_int (idxB_no Hno.out).symm, HB.out⟩

end Go.Proofs.Ytmkcnoaphoiiaaa
/- PostFewest of the program: the row of tables, built up. -/
namespace Go.Proofs.Ytmkcnoaphoiiaaa
open Go.RowKit
set_option linter.unusedVariables false
set_option linter.unusedSimpArgs false

/-- The tables made so far. -/
structure FewRel (B tc N pb : Nat) (w3 : World) (k : Nat) (cv : Value) (tb eb : Nat → Nat) (wr : World) : Prop where
  own : wr.ownsRow B 87 1 cv k (ptrs tb k)
  top : Whole wr tc 98 #[cv]
  tabs : ∀ i, i < k → PTab wr (tb i) (eb i) pb N (fun _ => none)
  sep : ∀ i, i < k → B ≤ eb i ∧ ∀ j, j < k → i ≠ j → eb i ≠ eb j
  bel : Below B w3 wr
  tcB : B ≤ tc
theorem FewRel.below {B tc N pb k : Nat} {w3 w w' : World} {cv : Value} {tb eb : Nat → Nat} (h : FewRel B tc N pb w3 k cv tb eb w) (hB : B ≤ w.heap.size) (hb : Below w.heap.size w w') : FewRel B tc N pb w3 k cv tb eb w' :=
  ⟨own_touch7 h.own (Touch.of_below (S := fun _ => False) hb) (fun _ _ h => h), h.top.below hb h.top.lt, fun i hi => (h.tabs i hi).below hb, h.sep, h.bel.trans (hb.mono hB), h.tcB⟩

theorem FewRel.step {B tc N pb k g2 cp2 : Nat} {w3 W0 w5 w8 : World} {cv : Value} {tb eb : Nat → Nat} (h : FewRel B tc N pb w3 k cv tb eb W0) (hB : B ≤ W0.heap.size)
    (hT : PTab w5 (W0.heap.size + 1) W0.heap.size pb N (fun _ => none)) (hb : Below W0.heap.size W0 w5)
    (hgrow : (w5.alloc (.cells #[.pointer (some ⟨W0.heap.size + 1, 0, none⟩)] 87)).grownBy w8 cv.ownBlock)
    (hown : w8.ownsRow B 87 1 (.slice (some ⟨g2, 0, none⟩) (k + 1) cp2) (k + 1) (ptrs tb k ++ [.pointer (some ⟨W0.heap.size + 1, 0, none⟩)])) :
    FewRel B tc N pb w3 (k + 1) (.slice (some ⟨g2, 0, none⟩) (k + 1) cp2) (fun i => if i = k then W0.heap.size + 1 else tb i) (fun i => if i = k then W0.heap.size else eb i) (w8.setCell ⟨tc, 0, none⟩ (.slice (some ⟨g2, 0, none⟩) (k + 1) cp2)) := by
  have h5 := h.below hB hb
  have hs5 := hb.size
  have hown5 := h5.own
  have htop5 := h5.top
  have hneq : ∀ q, cv.ownBlock = some q → ∀ g t cs, t ≠ 87 → Whole w5 g t cs → q ≠ g := fun q hq g t cs ht hw => hw.type_ne hown5 ht hq
  have hT8 : Touch (fun q => cv.ownBlock = some q) w5 w8 := ⟨by rw [hgrow.os]; rfl, by rw [hgrow.tape]; rfl, by rw [hgrow.output]; rfl, by have := hgrow.size; simp at this; omega, fun j hj hS => (hgrow.block j (by simp; omega) (fun e => hS e.symm)).trans (((Below.refl w5.heap.size w5).alloc (Nat.le_refl _) _).block j hj)⟩
  have hT9 : Touch (fun q => cv.ownBlock = some q ∨ q = tc) w5 (w8.setCell ⟨tc, 0, none⟩ (.slice (some ⟨g2, 0, none⟩) (k + 1) cp2)) := Touch.setCell ⟨hT8.os, hT8.tape, hT8.output, hT8.size, fun j hj hS => hT8.block j hj (fun h => hS (.inl h))⟩ (.inr rfl) _
  have hW8 : Whole w8 tc 98 #[cv] := htop5.touch7 hT8 (fun e => htop5.type_ne hown5 (by decide) e rfl)
  have hkeep : ∀ tb eb, PTab w5 tb eb pb N (fun _ => none) → PTab (w8.setCell ⟨tc, 0, none⟩ (.slice (some ⟨g2, 0, none⟩) (k + 1) cp2)) tb eb pb N (fun _ => none) := fun tb eb hp => hp.touch hT9
    (fun hS => by
      rcases hS with hS | hS
      · exact hneq _ hS _ _ _ (by decide) hp.top rfl
      · exact whole_ne hp.top htop5 (by decide) hS)
    (fun hS => by
      obtain ⟨_, cs, hw, _, _⟩ := hp
      rcases hS with hS | hS
      · exact hneq _ hS _ _ _ (by decide) hw rfl
      · exact whole_ne hw htop5 (by decide) hS)
    (fun q cs hw hS => by
      rcases hS with hS | hS
      · exact hneq _ hS _ _ _ (by decide) hw rfl
      · exact whole_ne hw htop5 (by decide) hS)
  have hold : ∀ i, i < k → eb i < W0.heap.size := fun i hi => by obtain ⟨_, cs, hw, _, _⟩ := h.tabs i hi; exact hw.lt
  refine ⟨?_, hW8.set 0 _, fun i hi => ?_, fun i hi => ⟨?_, fun j hj hij => ?_⟩, ?_, h.tcB⟩
  · rw [ptrs_succ]
    exact own_touch7 hown (Touch.setCell (Touch.refl (fun q => q = tc) w8) rfl _) (fun q hq e => by rw [e] at hq; exact hW8.type_ne hown (by decide) hq rfl)
  · try dsimp only
    by_cases hik : i = k
    · subst hik; rw [if_pos rfl, if_pos rfl]; exact hkeep _ _ hT
    · rw [if_neg hik, if_neg hik]; exact hkeep _ _ (h5.tabs i (by omega))
  · try dsimp only
    by_cases hik : i = k
    · rw [if_pos hik]; exact hB
    · rw [if_neg hik]; exact (h.sep i (by omega)).1
  · try dsimp only
    by_cases hik : i = k
    · rw [if_pos hik, if_neg (by omega)]
      have := hold j (by omega)
      omega
    · rw [if_neg hik]
      by_cases hjk : j = k
      · rw [if_pos hjk]
        have := hold i (by omega)
        omega
      · rw [if_neg hjk]
        exact (h.sep i (by omega)).2 j (by omega) hij
  · refine h5.bel.trans (hT9.below (fun j hj => ?_) (by omega))
    rcases hj with hj | hj
    · exact (hown5.lt j hj).1
    · rw [hj]; exact h.tcB

/-- All tables stand. -/
theorem FewRel.inv {B nb tc N pb : Nat} {w3 wr : World} {cv : Value} {tb eb : Nat → Nat} (h : FewRel B tc N pb w3 N cv tb eb wr) (h0 : 0 < N) (hn : Whole w3 nb 3 #[.int .i64 (N : Int)]) (hnb : nb < B) :
    ∃ g cap, cv = .slice (some ⟨g, 0, none⟩) N cap ∧ N ≤ cap ∧ InvB nb tc g cap N pb tb eb noT wr := by
  have hown := h.own
  have htop := h.top
  obtain ⟨a2, cap2, cb2, rfl, hc2, h2⟩ := owns_done hown
  obtain ⟨rfl, g3, g4, g5⟩ := h2 h0
  refine ⟨cb2, cap2, rfl, hc2, ⟨hn.below h.bel hnb, htop, g4, fun i hi => g5 i _ (by unfold ptrs; simp [hi]), fun i hi => ?_⟩, fun i hi => h.tabs i hi⟩
  have hp := h.tabs i hi
  obtain ⟨s1, s2⟩ := h.sep i hi
  obtain ⟨_, cs, hw, _, _⟩ := hp
  exact ⟨by omega, whole_ne hw htop (by decide), fun e => hw.type_ne hown (by decide) (q := cb2) rfl e.symm, fun j hj => ⟨whole_ne hw (h.tabs j hj).top (by decide), s2 j hj⟩⟩

/-- The first table with the town is the fewest rides. -/
theorem few_idx {N : Nat} {net : List (List Rd)} {f to t0 ch : Int} (h : okT7 (N : Int) net f t0 ch = true) (hto : isTown (N : Int) to = true) : fewX (N : Int) net f to t0 ch = idxB N (tab2 (N : Int) net ch f t0) to := by
  obtain ⟨o1, ⟨o2, o3⟩, o4, o6⟩ := okT7_iff.1 h
  rcases pa_few h hto with ⟨_, K, hK⟩ | ⟨_, hno⟩
  · obtain ⟨h1, h2⟩ := few_tab2 o1 o2 o4 o6 hK
    have hlt := few_lt o1 o2 o4 hK
    rw [fewX_yes h hto hK, idxB_at (k := K) (by omega) h1 (fun j hj => by rw [h2 j hj]; rfl)]
  · rw [fewX_no hto hno h, idxB_no (fun j hj => by rw [few_none o1 o2 hno j]; rfl)]

end Go.Proofs.Ytmkcnoaphoiiaaa
/- A drawn region walked operation by operation. -/
namespace Go.Proofs.Ytmkcnoaphoiiaaa
open Go.RowKit

theorem take_op {P : Program} {ops : Array Oper} {Q : Exit → Act → World → Prop} {md : Region.Mode} {i : Nat} {d : Tmp} {oi : Oper} {v : Value} {fuel : Nat} {listed : Array Bool} {a : Act} {w : World} (hi : ops[i]? = some oi) (hd : oi.dst = some d)
    (hs : Region.noSelect ops = true) (hf : Region.free md ops listed i = true) (hr : (Region.ready md ops listed).contains i = true)
    (hQ : ∀ c (a : Act) d v w, Q (.panic c) (a.put (some d) v) w → Q (.panic c) a w) (hy : Yields P ops oi v a)
    (h : wpAny P md ops Q fuel (listed.setIfInBounds i true) (a.put (some d) v) w) : wpAny P md ops Q (fuel + 1) listed a w :=
  wpAny_take hi hs hf hr (fun c a w h' => by rw [hd] at h'; exact hQ _ _ _ _ _ h') hy (by rw [hd]; exact h)

theorem with_Q {P : Program} {ops : Array Oper} {Q : Exit → Act → World → Prop} {md : Region.Mode} {fuel : Nat} {listed : Array Bool} {a : Act} {w : World} (hQ : ∀ c (a : Act) d v w, Q (.panic c) (a.put (some d) v) w → Q (.panic c) a w)
    (h : ∀ Q' : Exit → Act → World → Prop, (∀ c (a : Act) d v w, Q' (.panic c) (a.put (some d) v) w → Q' (.panic c) a w) → (∀ a w, Q .normal a w → Q' .normal a w) → wpAny P md ops Q' fuel listed a w) : wpAny P md ops Q fuel listed a w :=
  h Q hQ (fun _ _ h => h)

end Go.Proofs.Ytmkcnoaphoiiaaa
/- PostFewest of the program. -/
namespace Go.Proofs.Ytmkcnoaphoiiaaa
open Go.RowKit
set_option linter.unusedVariables false
set_option linter.unusedSimpArgs false

theorem tblInfo : (Try.prog.info? 87).map (fun i => (i.zero, i.size, i.bytes)) = some (some (.pointer none), 1, 8) := by kernel_rfl

set_option maxRecDepth 100000 in
set_option maxHeartbeats 4000000 in
theorem postFewest2_any (n : Int) (v : Value) (net : List (List Rd)) (f to t0 ch : Int) (w : World) (hv : NtIn w v net) (hm : totN net ≤ 1048577) :
    Calls Try.prog 48 #[.int .i64 n, v, .int .i64 f, .int .i64 to, .int .i64 t0, .int .i64 ch] w (Gives (.int .i64 (fewX n net f to t0 ch)) w) := by
  obtain ⟨i0, hi0, hz0, hz1, hz2⟩ := info_parts tblInfo
  have hb0 : Below w.heap.size w ((w.alloc (.cells #[.int .i64 n] 3)).alloc (.cells #[.int .i64 to] 3)) := ((Below.refl _ _).alloc (Nat.le_refl _) _).alloc (by simp) _
  have hs0 : ((w.alloc (.cells #[.int .i64 n] 3)).alloc (.cells #[.int .i64 to] 3)).heap.size = w.heap.size + 2 := by simp
  have hn0 : Whole ((w.alloc (.cells #[.int .i64 n] 3)).alloc (.cells #[.int .i64 to] 3)) w.heap.size 3 #[.int .i64 n] := (Whole.made w 3 #[.int .i64 n]).below ((Below.refl _ _).alloc (Nat.le_refl _) _) (by simp)
  have ht0 : Whole ((w.alloc (.cells #[.int .i64 n] 3)).alloc (.cells #[.int .i64 to] 3)) (w.heap.size + 1) 3 #[.int .i64 to] := by
    have := Whole.made (w.alloc (.cells #[.int .i64 n] 3)) 3 #[.int .i64 to]
    rwa [World.size_alloc] at this
  have HC := Lib.hid (pnOf_any n v net ch _ (hv.below hb0) hm)
  have Hk := Lib.hid (show okT7 n net f t0 ch = (okP n net ch && isTown n f && isT t0) from rfl)
  have HB0 := Lib.hid hb0
  have HN0 := Lib.hid hn0
  have HT0 := Lib.hid ht0
  have HS0 := Lib.hid hs0
  clear hv hm hb0 hs0
  go_enter Try.func48, Try.ntmps48
  have c0 : ((w.alloc (.cells #[.int .i64 n] 3)).alloc (.cells #[.int .i64 to] 3)).cell? ⟨w.heap.size, 0, none⟩ = some (.int .i64 n) := hn0.cell rfl
  clear hn0 ht0
  go_wp2_with fail
  generalize (w.alloc (.cells #[.int .i64 n] 3)).alloc (.cells #[.int .i64 to] 3) = w0 at *
  cases hp : okP n net ch with
  | false =>
    have Ho := Lib.hid (show ¬ (okT7 n net f t0 ch = true ∧ isTown n to = true) by rw [Hk.out, hp]; simp)
    have Hp := Lib.hid hp; clear hp Hk
    refine HC.out.mono ?_; rintro e w1 ⟨_, h1⟩
    obtain ⟨rfl, hb⟩ := h1 Hp.out
    have HB := Lib.hid (HB0.out.trans (hb.mono HB0.out.size))
    have cN : w1.cell? ⟨w.heap.size, 0, none⟩ = some (.int .i64 n) := (HN0.out.below hb HN0.out.lt).cell rfl
    have cT : w1.cell? ⟨w.heap.size + 1, 0, none⟩ = some (.int .i64 to) := (HT0.out.below hb HT0.out.lt).cell rfl
    clear h1 HC hb c0
    go_wp2
    go_ret
    exact ⟨ret_int (fewX_bad Ho.out).symm, HB.out⟩
  | true =>
    have Hp := Lib.hid hp
    rw [hp, Bool.true_and] at Hk
    clear hp
    refine HC.out.mono ?_; rintro e w3 ⟨h1, _⟩
    obtain ⟨pb, a, cap, cb, tbs, hss, rfl, hP, hb⟩ := h1 Hp.out
    have HP := Lib.hid hP
    have HB := Lib.hid (HB0.out.trans (hb.mono HB0.out.size))
    have HN := Lib.hid (HN0.out.below hb HN0.out.lt)
    have HT := Lib.hid (HT0.out.below hb HT0.out.lt)
    have HSz := Lib.hid (show w.heap.size + 2 ≤ w3.heap.size by have := HS0.out; have := hb.size; omega)
    clear h1 HC hP hb c0 HN0 HT0 HB0 HS0
    have cN : w3.cell? ⟨w.heap.size, 0, none⟩ = some (.int .i64 n) := HN.out.cell rfl
    have cT : w3.cell? ⟨w.heap.size + 1, 0, none⟩ = some (.int .i64 to) := HT.out.cell rfl
    go_wp2_with fail
    refine (hasTown_any n f _).mono ?_; rintro e w' ⟨rfl, rfl⟩
    cases hq : isTown n f with
    | false =>
      have Ho := Lib.hid (show ¬ (okT7 n net f t0 ch = true ∧ isTown n to = true) by rw [Hk.out, hq]; simp)
      clear hq Hk
      go_wp2
      go_ret
      exact ⟨ret_int (fewX_bad Ho.out).symm, HB.out⟩
    | true =>
      rw [hq, Bool.true_and] at Hk
      clear hq
      go_wp2_with fail
      refine (hasTown_any n to _).mono ?_; rintro e w9 ⟨rfl, rfl⟩
      cases hq : isTown n to with
      | false =>
        have Ho := Lib.hid (show ¬ (okT7 n net f t0 ch = true ∧ isTown n to = true) by rw [hq]; simp)
        clear hq Hk
        go_wp2
        go_ret
        exact ⟨ret_int (fewX_bad Ho.out).symm, HB.out⟩
      | true =>
        have Hto := Lib.hid hq
        clear hq
        go_wp2_with fail
        refine (isTime_any t0 _).mono ?_; rintro e w8 ⟨rfl, rfl⟩
        cases hq : isT t0 with
        | false =>
          have Ho := Lib.hid (show ¬ (okT7 n net f t0 ch = true ∧ isTown n to = true) by rw [Hk.out, hq]; simp)
          clear hq Hk
          go_wp2
          go_ret
          exact ⟨ret_int (fewX_bad Ho.out).symm, HB.out⟩
        | true =>
          have ho : okT7 n net f t0 ch = true := by rw [Hk.out, hq]
          have Ho := Lib.hid ho
          obtain ⟨o1, ⟨o2, o3⟩, ⟨o4, o5⟩, o6, o7⟩ := okT7_iff.1 ho
          have n8 := (okNet_iff.1 o1).1.2.1
          have n1 := (okNet_iff.1 o1).1.1
          have O1 := Lib.hid o1
          obtain ⟨t1, t2⟩ := isTown_iff.1 Hto.out
          clear hq Hk ho o1
          obtain ⟨N, rfl⟩ : ∃ N : Nat, n = (N : Int) := ⟨n.toNat, by omega⟩
          have hN8 : N ≤ 8 := by omega
          have hN0 : 0 < N := by omega
          have hlt3 : w.heap.size < w9.heap.size := by have := HSz.out; omega
          have hA1 : Below w9.heap.size w9 (w9.alloc (.cells #[] 87)) := (Below.refl _ _).alloc (Nat.le_refl _) _
          have hA2 : Below w9.heap.size w9 ((w9.alloc (.cells #[] 87)).alloc (.cells #[.slice (some ⟨w9.heap.size, 0, none⟩) 0 0] 98)) := hA1.alloc (by simp) _
          have hR0 : FewRel w9.heap.size (w9.heap.size + 1) N pb w9 0 (.slice (some ⟨w9.heap.size, 0, none⟩) 0 0) (fun _ => 0) (fun _ => 0) ((w9.alloc (.cells #[] 87)).alloc (.cells #[.slice (some ⟨w9.heap.size, 0, none⟩) 0 0] 98)) := by
            have h1 : (w9.alloc (.cells #[] 87)).ownsRow w9.heap.size 87 1 (.slice (some ⟨w9.heap.size, 0, none⟩) 0 0) 0 (ptrs (fun _ => 0) 0) :=
              ⟨rfl, .inr ⟨w9.heap.size, 0, #[], rfl, Nat.le_refl _, heap_alloc_new w9 _, Nat.le_refl _, by unfold maxLen; omega, rfl, rfl⟩⟩
            refine ⟨World.ownsRow.alloc h1 _, ?_, fun i hi => by omega, fun i hi => by omega, hA2, by omega⟩
            have := Whole.made (w9.alloc (.cells #[] 87)) 98 #[.slice (some ⟨w9.heap.size, 0, none⟩) 0 0]
            rwa [World.size_alloc] at this
          have HR0 := Lib.hid hR0
          clear hA1 hA2 hR0
          go_wp2_with fail
          go_loopw [44] (fun iv wr => ∃ (k : Nat) (cv : Value) (tb eb : Nat → Nat), k ≤ N ∧ iv = .int .i64 k ∧ FewRel w9.heap.size (w9.heap.size + 1) N pb w9 k cv tb eb wr) (fun iv _ => N - (intOf iv).toNat)
          case atStart => exact ⟨0, _, _, _, Nat.zero_le _, rfl, HR0.out⟩
          case round =>
            clear HR0 cN cT
            obtain ⟨k, cv, tb, eb, hk, rfl, hR⟩ := hrel
            have hsz := hR.bel.size
            by_cases hlt : k < N
            · have hk' : (k : Int) < (N : Int) := by omega
              go_wp2_with fail
              have hdr : Below wr.heap.size wr (World.drew wr) := (Below.refl _ _).drew
              have hRd := hR.below hsz hdr
              have hsd : w9.heap.size ≤ (World.drew wr).heap.size := hsz
              have hcl : ∀ wz : World, wz = World.drew wr → FewRel w9.heap.size (w9.heap.size + 1) N pb w9 k cv tb eb wz ∧ w9.heap.size ≤ wz.heap.size := fun wz e => by rw [e]; exact ⟨hRd, hsd⟩
              clear hR hsz hdr hRd hsd
              refine wp_region_any (by kernel_rfl) ?_
              change wpAny _ _ _ _ 7 #[false, false, false, false, false, false, false] _ (World.drew _)
              refine with_Q (fun _ _ _ _ _ h => h) (fun Q hQ hN => ?_)
              obtain ⟨hR0, hs0⟩ := hcl _ rfl
              generalize World.drew wr = w0 at *
              clear hcl
              have hW0 := hR0.top
              have c46 : w0.cell? ⟨w9.heap.size + 1, 0, none⟩ = some cv := hW0.cell rfl
              have c48 : w0.cell? ⟨w.heap.size, 0, none⟩ = some (.int .i64 N) := (HN.out.below hR0.bel HN.out.lt).cell rfl
              refine take_op (i := 1) (d := 47) (v := .pointer (some ⟨pb, 0, none⟩)) rfl rfl (by kernel_rfl) (by kernel_rfl) (by kernel_rfl) hQ (Or.inl ⟨by rfl, fun _ => by first | rfl | (go_simp; done) | (go_simp; rfl)⟩) ?_
              simp only [Act.put, List.setIfInBounds_toArray, List.set_cons_zero, List.set_cons_succ]
              refine wpAny_ready (rs := [0, 2]) (by kernel_rfl) (by simp) ?_
              refine AllReady.cons rfl (fun K hK => ?_) (AllReady.cons rfl (fun K hK => ?_) AllReady.nil)
              · go_simp
                refine hK _ _ ?_
                try simp only [Act.put, List.setIfInBounds_toArray, List.set_cons_zero, List.set_cons_succ]
                clear hK K
                refine wpAny_ready (rs := [2]) (by kernel_rfl) (by simp) ?_
                refine AllReady.cons rfl (fun K hK => ?_) AllReady.nil
                go_simp
                refine hK _ _ ?_
                try simp only [Act.put, List.setIfInBounds_toArray, List.set_cons_zero, List.set_cons_succ]
                clear hK K
                refine wpAny_ready (rs := [3]) (by kernel_rfl) (by simp) ?_
                refine AllReady.cons rfl (fun K hK => ?_) AllReady.nil
                go_simp
                go_at_call 78
                refine (newTable_any pb N _ hN8).mono ?_; rintro e w5 ⟨rfl, hT5, hb5⟩
                have hR5 := hR0.below hs0 hb5
                have hW5 := hR5.top
                have c5 : w5.cell? ⟨w9.heap.size + 1, 0, none⟩ = some cv := hW5.cell rfl
                have hA5 : Below w5.heap.size w5 (World.alloc w5 (.cells #[.pointer (some ⟨w0.heap.size + 1, 0, none⟩)] 87)) := (Below.refl _ _).alloc (Nat.le_refl _) _
                have c6 : (World.alloc w5 (.cells #[.pointer (some ⟨w0.heap.size + 1, 0, none⟩)] 87)).cell? ⟨w9.heap.size + 1, 0, none⟩ = some cv := (hW5.below hA5 hW5.lt).cell rfl
                refine hK _ _ ?_
                try simp only [Act.put, List.setIfInBounds_toArray, List.set_cons_zero, List.set_cons_succ]
                clear hK K
                refine wpAny_ready (rs := [4]) (by kernel_rfl) (by simp) ?_
                refine AllReady.cons rfl (fun K hK => ?_) AllReady.nil
                go_simp
                refine hK _ _ ?_
                try simp only [Act.put, List.setIfInBounds_toArray, List.set_cons_zero, List.set_cons_succ]
                clear hK K
                refine wpAny_ready (rs := [5]) (by kernel_rfl) (by simp) ?_
                refine AllReady.cons rfl (fun K hK => ?_) AllReady.nil
                refine step_append_lies _ (by rfl) _ _ _ (by rfl) w9.heap.size 87 i0 _ 1 8 Try.underlying98 hi0 hz0 hz1 hz2 rfl (by decide) _ k (ptrs tb k) (by rfl) (World.ownsRow.alloc hR5.own _) ⟨w5.heap.size, 0, none⟩ 1 1 [.pointer (some ⟨w0.heap.size + 1, 0, none⟩)] (by rfl) rfl (one_news w5 _ _) (by simp [Value.oneCell']) (by decide) (by simp only [maxLen]; omega) (by omega) (by have := hb5.size; simp; omega) _ rfl ?_; intro g2 cp2 w8 hown8 hgrow8 _ _
                have hW8 := (hW5.below hA5 hW5.lt).grown7 hgrow8 (fun e => (hW5.below hA5 hW5.lt).type_ne (World.ownsRow.alloc hR5.own _) (by decide) e rfl)
                have c8 : w8.cell? ⟨w9.heap.size + 1, 0, none⟩ = some cv := hW8.cell rfl
                have f8 := hW8.free 0
                refine hK _ _ ?_
                try simp only [Act.put, List.setIfInBounds_toArray, List.set_cons_zero, List.set_cons_succ]
                clear hK K
                refine wpAny_ready (rs := [6]) (by kernel_rfl) (by simp) ?_
                refine AllReady.cons rfl (fun K hK => ?_) AllReady.nil
                go_simp
                refine hK _ _ ?_
                try simp only [Act.put, List.setIfInBounds_toArray, List.set_cons_zero, List.set_cons_succ]
                clear hK K
                refine wpAny_done (by kernel_rfl) (hN _ _ ?_) _
                have hst := hR0.step hs0 hT5 hb5 hgrow8 hown8
                clear hW0 c46 c48 hR5 hW5 c5 hA5 c6 hW8 c8 f8 hT5 hb5 hgrow8 hown8 hR0
                go_wp2
                exact ⟨⟨k + 1, _, _, _, hlt, by go_num, hst⟩, by simp [intOf]; omega⟩
              · go_simp
                refine hK _ _ ?_
                try simp only [Act.put, List.setIfInBounds_toArray, List.set_cons_zero, List.set_cons_succ]
                clear hK K
                refine wpAny_ready (rs := [0, 3]) (by kernel_rfl) (by simp) ?_
                refine AllReady.cons rfl (fun K hK => ?_) (AllReady.cons rfl (fun K hK => ?_) AllReady.nil)
                · go_simp
                  refine hK _ _ ?_
                  try simp only [Act.put, List.setIfInBounds_toArray, List.set_cons_zero, List.set_cons_succ]
                  clear hK K
                  refine wpAny_ready (rs := [3]) (by kernel_rfl) (by simp) ?_
                  refine AllReady.cons rfl (fun K hK => ?_) AllReady.nil
                  go_simp
                  go_at_call 78
                  refine (newTable_any pb N _ hN8).mono ?_; rintro e w5 ⟨rfl, hT5, hb5⟩
                  have hR5 := hR0.below hs0 hb5
                  have hW5 := hR5.top
                  have c5 : w5.cell? ⟨w9.heap.size + 1, 0, none⟩ = some cv := hW5.cell rfl
                  have hA5 : Below w5.heap.size w5 (World.alloc w5 (.cells #[.pointer (some ⟨w0.heap.size + 1, 0, none⟩)] 87)) := (Below.refl _ _).alloc (Nat.le_refl _) _
                  have c6 : (World.alloc w5 (.cells #[.pointer (some ⟨w0.heap.size + 1, 0, none⟩)] 87)).cell? ⟨w9.heap.size + 1, 0, none⟩ = some cv := (hW5.below hA5 hW5.lt).cell rfl
                  refine hK _ _ ?_
                  try simp only [Act.put, List.setIfInBounds_toArray, List.set_cons_zero, List.set_cons_succ]
                  clear hK K
                  refine wpAny_ready (rs := [4]) (by kernel_rfl) (by simp) ?_
                  refine AllReady.cons rfl (fun K hK => ?_) AllReady.nil
                  go_simp
                  refine hK _ _ ?_
                  try simp only [Act.put, List.setIfInBounds_toArray, List.set_cons_zero, List.set_cons_succ]
                  clear hK K
                  refine wpAny_ready (rs := [5]) (by kernel_rfl) (by simp) ?_
                  refine AllReady.cons rfl (fun K hK => ?_) AllReady.nil
                  refine step_append_lies _ (by rfl) _ _ _ (by rfl) w9.heap.size 87 i0 _ 1 8 Try.underlying98 hi0 hz0 hz1 hz2 rfl (by decide) _ k (ptrs tb k) (by rfl) (World.ownsRow.alloc hR5.own _) ⟨w5.heap.size, 0, none⟩ 1 1 [.pointer (some ⟨w0.heap.size + 1, 0, none⟩)] (by rfl) rfl (one_news w5 _ _) (by simp [Value.oneCell']) (by decide) (by simp only [maxLen]; omega) (by omega) (by have := hb5.size; simp; omega) _ rfl ?_; intro g2 cp2 w8 hown8 hgrow8 _ _
                  have hW8 := (hW5.below hA5 hW5.lt).grown7 hgrow8 (fun e => (hW5.below hA5 hW5.lt).type_ne (World.ownsRow.alloc hR5.own _) (by decide) e rfl)
                  have c8 : w8.cell? ⟨w9.heap.size + 1, 0, none⟩ = some cv := hW8.cell rfl
                  have f8 := hW8.free 0
                  refine hK _ _ ?_
                  try simp only [Act.put, List.setIfInBounds_toArray, List.set_cons_zero, List.set_cons_succ]
                  clear hK K
                  refine wpAny_ready (rs := [6]) (by kernel_rfl) (by simp) ?_
                  refine AllReady.cons rfl (fun K hK => ?_) AllReady.nil
                  go_simp
                  refine hK _ _ ?_
                  try simp only [Act.put, List.setIfInBounds_toArray, List.set_cons_zero, List.set_cons_succ]
                  clear hK K
                  refine wpAny_done (by kernel_rfl) (hN _ _ ?_) _
                  have hst := hR0.step hs0 hT5 hb5 hgrow8 hown8
                  clear hW0 c46 c48 hR5 hW5 c5 hA5 c6 hW8 c8 f8 hT5 hb5 hgrow8 hown8 hR0
                  go_wp2
                  exact ⟨⟨k + 1, _, _, _, hlt, by go_num, hst⟩, by simp [intOf]; omega⟩
                · go_simp
                  go_at_call 78
                  refine (newTable_any pb N _ hN8).mono ?_; rintro e w5 ⟨rfl, hT5, hb5⟩
                  have hR5 := hR0.below hs0 hb5
                  have hW5 := hR5.top
                  have c5 : w5.cell? ⟨w9.heap.size + 1, 0, none⟩ = some cv := hW5.cell rfl
                  have hA5 : Below w5.heap.size w5 (World.alloc w5 (.cells #[.pointer (some ⟨w0.heap.size + 1, 0, none⟩)] 87)) := (Below.refl _ _).alloc (Nat.le_refl _) _
                  have c6 : (World.alloc w5 (.cells #[.pointer (some ⟨w0.heap.size + 1, 0, none⟩)] 87)).cell? ⟨w9.heap.size + 1, 0, none⟩ = some cv := (hW5.below hA5 hW5.lt).cell rfl
                  refine hK _ _ ?_
                  try simp only [Act.put, List.setIfInBounds_toArray, List.set_cons_zero, List.set_cons_succ]
                  clear hK K
                  refine wpAny_ready (rs := [0, 4]) (by kernel_rfl) (by simp) ?_
                  refine AllReady.cons rfl (fun K hK => ?_) (AllReady.cons rfl (fun K hK => ?_) AllReady.nil)
                  · go_simp
                    refine hK _ _ ?_
                    try simp only [Act.put, List.setIfInBounds_toArray, List.set_cons_zero, List.set_cons_succ]
                    clear hK K
                    refine wpAny_ready (rs := [4]) (by kernel_rfl) (by simp) ?_
                    refine AllReady.cons rfl (fun K hK => ?_) AllReady.nil
                    go_simp
                    refine hK _ _ ?_
                    try simp only [Act.put, List.setIfInBounds_toArray, List.set_cons_zero, List.set_cons_succ]
                    clear hK K
                    refine wpAny_ready (rs := [5]) (by kernel_rfl) (by simp) ?_
                    refine AllReady.cons rfl (fun K hK => ?_) AllReady.nil
                    refine step_append_lies _ (by rfl) _ _ _ (by rfl) w9.heap.size 87 i0 _ 1 8 Try.underlying98 hi0 hz0 hz1 hz2 rfl (by decide) _ k (ptrs tb k) (by rfl) (World.ownsRow.alloc hR5.own _) ⟨w5.heap.size, 0, none⟩ 1 1 [.pointer (some ⟨w0.heap.size + 1, 0, none⟩)] (by rfl) rfl (one_news w5 _ _) (by simp [Value.oneCell']) (by decide) (by simp only [maxLen]; omega) (by omega) (by have := hb5.size; simp; omega) _ rfl ?_; intro g2 cp2 w8 hown8 hgrow8 _ _
                    have hW8 := (hW5.below hA5 hW5.lt).grown7 hgrow8 (fun e => (hW5.below hA5 hW5.lt).type_ne (World.ownsRow.alloc hR5.own _) (by decide) e rfl)
                    have c8 : w8.cell? ⟨w9.heap.size + 1, 0, none⟩ = some cv := hW8.cell rfl
                    have f8 := hW8.free 0
                    refine hK _ _ ?_
                    try simp only [Act.put, List.setIfInBounds_toArray, List.set_cons_zero, List.set_cons_succ]
                    clear hK K
                    refine wpAny_ready (rs := [6]) (by kernel_rfl) (by simp) ?_
                    refine AllReady.cons rfl (fun K hK => ?_) AllReady.nil
                    go_simp
                    refine hK _ _ ?_
                    try simp only [Act.put, List.setIfInBounds_toArray, List.set_cons_zero, List.set_cons_succ]
                    clear hK K
                    refine wpAny_done (by kernel_rfl) (hN _ _ ?_) _
                    have hst := hR0.step hs0 hT5 hb5 hgrow8 hown8
                    clear hW0 c46 c48 hR5 hW5 c5 hA5 c6 hW8 c8 f8 hT5 hb5 hgrow8 hown8 hR0
                    go_wp2
                    exact ⟨⟨k + 1, _, _, _, hlt, by go_num, hst⟩, by simp [intOf]; omega⟩
                  · go_simp
                    refine hK _ _ ?_
                    try simp only [Act.put, List.setIfInBounds_toArray, List.set_cons_zero, List.set_cons_succ]
                    clear hK K
                    refine wpAny_ready (rs := [0]) (by kernel_rfl) (by simp) ?_
                    refine AllReady.cons rfl (fun K hK => ?_) AllReady.nil
                    go_simp
                    refine hK _ _ ?_
                    try simp only [Act.put, List.setIfInBounds_toArray, List.set_cons_zero, List.set_cons_succ]
                    clear hK K
                    refine wpAny_ready (rs := [5]) (by kernel_rfl) (by simp) ?_
                    refine AllReady.cons rfl (fun K hK => ?_) AllReady.nil
                    refine step_append_lies _ (by rfl) _ _ _ (by rfl) w9.heap.size 87 i0 _ 1 8 Try.underlying98 hi0 hz0 hz1 hz2 rfl (by decide) _ k (ptrs tb k) (by rfl) (World.ownsRow.alloc hR5.own _) ⟨w5.heap.size, 0, none⟩ 1 1 [.pointer (some ⟨w0.heap.size + 1, 0, none⟩)] (by rfl) rfl (one_news w5 _ _) (by simp [Value.oneCell']) (by decide) (by simp only [maxLen]; omega) (by omega) (by have := hb5.size; simp; omega) _ rfl ?_; intro g2 cp2 w8 hown8 hgrow8 _ _
                    have hW8 := (hW5.below hA5 hW5.lt).grown7 hgrow8 (fun e => (hW5.below hA5 hW5.lt).type_ne (World.ownsRow.alloc hR5.own _) (by decide) e rfl)
                    have c8 : w8.cell? ⟨w9.heap.size + 1, 0, none⟩ = some cv := hW8.cell rfl
                    have f8 := hW8.free 0
                    refine hK _ _ ?_
                    try simp only [Act.put, List.setIfInBounds_toArray, List.set_cons_zero, List.set_cons_succ]
                    clear hK K
                    refine wpAny_ready (rs := [6]) (by kernel_rfl) (by simp) ?_
                    refine AllReady.cons rfl (fun K hK => ?_) AllReady.nil
                    go_simp
                    refine hK _ _ ?_
                    try simp only [Act.put, List.setIfInBounds_toArray, List.set_cons_zero, List.set_cons_succ]
                    clear hK K
                    refine wpAny_done (by kernel_rfl) (hN _ _ ?_) _
                    have hst := hR0.step hs0 hT5 hb5 hgrow8 hown8
                    clear hW0 c46 c48 hR5 hW5 c5 hA5 c6 hW8 c8 f8 hT5 hb5 hgrow8 hown8 hR0
                    go_wp2
                    exact ⟨⟨k + 1, _, _, _, hlt, by go_num, hst⟩, by simp [intOf]; omega⟩
            · obtain rfl : k = N := by omega
              have HR := Lib.hid hR
              obtain ⟨g, cp, rfl, hcp, hinv⟩ := hR.inv hN0 HN.out hlt3
              have HP2 := Lib.hid (HP.out.below hR.bel)
              have cT : wr.cell? ⟨w.heap.size + 1, 0, none⟩ = some (.int .i64 to) := (HT.out.below hR.bel HT.out.lt).cell rfl
              have HSp := Lib.hid (spreadB_any (κ := κ2 (k : Int)) (n := (k : Int)) (net := net) (ch := ch) w.heap.size (w9.heap.size + 1) (InvB w.heap.size (w9.heap.size + 1) g cp k pb tb eb) (fun p => ∃ i, i < k ∧ p = eb i) w9.heap.size wr.heap.size pb a cap cb tbs hss O1.out o2 o3
                (fun T w w' h hb => h.below hb) (fun p hp => by
                  obtain ⟨i, hi, rfl⟩ := hp
                  refine ⟨(HR.out.sep i hi).1, ?_⟩
                  obtain ⟨_, cs, hw, _, _⟩ := HR.out.tabs i hi
                  exact hw.lt) (callB _ _ _ _ _ _ _ _ _ hN8) 10001 noT ⟨f, t0, 0⟩ wr hinv HP2.out (Nat.le_refl _) o4 o5 o6 o7 (Int.le_refl _) (by simp only; omega) (by simp only; omega))
              unfold ltV at HSp
              have HSb := Lib.hid (fun i (hi : i < k) => (HR.out.sep i hi).1)
              have HBel := Lib.hid hR.bel
              clear hinv hR HR
              go_wp2_with fail
              refine HSp.out.mono ?_; rintro e w4 ⟨rfl, hinv4, htt⟩
              have hb4 : Below w9.heap.size w9 w4 := HBel.out.trans (htt.below (fun p hp => by obtain ⟨i, hi, rfl⟩ := hp; exact HSb.out i hi) HBel.out.size)
              have c4 : w4.cell? ⟨w9.heap.size + 1, 0, none⟩ = some (.slice (some ⟨g, 0, none⟩) k cp) := hinv4.1.c.cell rfl
              have ht4 := HT.out.below hb4 HT.out.lt
              have c5 : w4.cell? ⟨w.heap.size + 1, 0, none⟩ = some (.int .i64 to) := ht4.cell rfl
              have HI4 := Lib.hid (idxB_any _ _ _ _ _ _ _ _ _ _ to w4 hinv4 ⟨t1, t2⟩ c5 ht4.lt hN8)
              have HB4 := Lib.hid (HB.out.trans (hb4.mono HB.out.size))
              have Hf := Lib.hid (few_idx Ho.out Hto.out)
              clear hinv4 htt hb4 ht4 c5 cT HSp HP2
              go_wp2_with fail
              refine HI4.out.mono ?_; rintro e w5 ⟨rfl, hb5⟩
              have HB5 := Lib.hid (HB4.out.trans (hb5.mono HB4.out.size))
              clear hb5 c4
              go_wp2
              go_ret
              exact ⟨ret_int (by rw [Hf.out]; rfl), HB5.out⟩

end Go.Proofs.Ytmkcnoaphoiiaaa
/- How an argument that is a slice of ints is opened. -/
namespace Go.Proofs.Ytmkcnoaphoiiaaa
open Go.ChangeShapes Go.WideShapes Go.ChangeAt Go.RowKit Go.Deep

theorem open_intS {H : Type} {enc : TypeId × Value → H} {w : World} {base : Nat} {spare : Nat → Bool} {held : Bool} {a : Option Addr} {len cap : Nat} {d : DataW H} {p : List MemPlace}
    (h : DataW.Trod enc Try.prog w base spare held 38 (.slice a len cap) d p) (hfull : spare = fun _ => true) : ∃ l : List Int, IntsIn w (.slice a len cap) l ∧ IntWf l ∧ l.length = len ∧ l.length ≤ maxLen := by
  subst hfull
  obtain ⟨fuel, hf⟩ := h
  rcases open_ints Try.underlying38 Try.underlying3 (by kernel_rfl) hf with ⟨hcs, _⟩ | ⟨x, l, c, zs, hcs, _, hl, hm, hz, _, hcell, hwz⟩
  · simp [Value.cells] at hcs
    obtain ⟨rfl, rfl, rfl⟩ := hcs
    exact ⟨[], ⟨_, _, rfl, by simp, fun h => absurd rfl h⟩, (fun r hr => by cases hr), rfl, by simp⟩
  · simp [Value.cells] at hcs
    obtain ⟨rfl, rfl, rfl⟩ := hcs
    have hz' : zs.length = cap := by simpa using hz
    have hll : (zs.take len).length = len := by simp; omega
    refine ⟨zs.take len, ⟨some x, cap, by rw [hll], by rw [hll]; exact hl, fun hne => ?_⟩, fun y hy => wfI (hwz y (List.mem_of_mem_take hy)), hll, by rw [hll]; omega⟩
    have hpos : 0 < (zs.take len).length := by
      cases h : zs.take len with
      | nil => exact absurd h hne
      | cons => simp
    rw [hll] at hpos
    obtain ⟨b, o, sp⟩ := x
    have hq0 := hcell 0 (by omega)
    have hsp : sp = none := by simpa [Addr.add] using World.cell?_spot hq0
    subst hsp
    refine ⟨b, o, rfl, by have := World.block_lt_of_cell? _ _ hq0; simpa [Addr.add] using this, fun i hi => ?_⟩
    rw [hll] at hi
    have := hcell i (by omega)
    rw [addr_add] at this
    rw [this]
    simp [List.getD, hi]

end Go.Proofs.Ytmkcnoaphoiiaaa
