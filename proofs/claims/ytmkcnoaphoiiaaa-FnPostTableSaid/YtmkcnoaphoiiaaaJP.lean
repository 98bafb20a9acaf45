/- Letters and tables of the program: catches, brought, improve, has, time, newTable, hasTown. -/
import Derived.Test.YtmkcnoaphoiiaaaJK
import Derived.Test.YtmkcnoaphoiiaaaJ3
import Derived.Test.YtmkcnoaphoiiaaaSF
import Derived.BigRegion
import Derived.Laws.OwnMore
import Derived.Shelf.RegionOpen
namespace Go.Proofs.Ytmkcnoaphoiiaaa
open Go.RowKit

def ltV (x : Ltr) : Value := .agg #[.int .i64 x.u, .int .i64 x.t, .int .i64 x.r]
def ltC (x : Ltr) : Array Value := #[.int .i64 x.u, .int .i64 x.t, .int .i64 x.r]

set_option maxRecDepth 100000 in
set_option maxHeartbeats 1000000 in
theorem catches_any (pb g : Nat) (u t r ch m : Int) (w : World) (c1 : w.cell? ⟨pb, 1, none⟩ = some (.int .i64 ch)) (c2 : w.cell? ⟨g, 2, none⟩ = some (.int .i64 m)) (t0 : 0 ≤ t) (t1 : t ≤ 10000) (h0 : 0 ≤ ch) (h1 : ch ≤ 300) :
    Calls Try.prog 94 #[.pointer (some ⟨pb, 0, none⟩), .agg #[.int .i64 u, .int .i64 t, .int .i64 r], .pointer (some ⟨g, 0, none⟩)] w (Gives (.bool (catL ch ⟨u, t, r⟩ m)) w) := by
  have hb : Below w.heap.size w (w.alloc (.cells #[.int .i64 u, .int .i64 t, .int .i64 r] 81)) := (Below.refl _ _).alloc (Nat.le_refl _) _
  have d1 := keepCell hb c1
  have d2 := keepCell hb c2
  have hw := Whole.made w 81 #[.int .i64 u, .int .i64 t, .int .i64 r]
  have e1 : (w.alloc (.cells #[.int .i64 u, .int .i64 t, .int .i64 r] 81)).cell? ⟨w.heap.size, 1, none⟩ = some (.int .i64 t) := hw.cell rfl
  have e2 : (w.alloc (.cells #[.int .i64 u, .int .i64 t, .int .i64 r] 81)).cell? ⟨w.heap.size, 2, none⟩ = some (.int .i64 r) := hw.cell rfl
  have HB := Lib.hid hb
  clear c1 c2 hb hw
  by_cases hr : r = 0
  · have hC : catL ch ⟨u, t, r⟩ m = decide (t ≤ m) := by unfold catL; rw [if_pos hr]
    have HC := Lib.hid hC
    subst hr
    clear hC
    by_cases hm : t ≤ m
    · have hd : decide (t ≤ m) = true := decide_eq_true hm
      go_enter Try.func94, Try.ntmps94
      go_wp2
      go_quiet (fail)
      all_goals go_wp2
      all_goals go_ret
      all_goals exact ⟨ret_bool (by rw [HC.out]; simp [hd]), by first | exact HB.out | exact HB.out.drewN _ | exact HB.out.drew⟩
    · have hd : decide (t ≤ m) = false := decide_eq_false hm
      go_enter Try.func94, Try.ntmps94
      go_wp2
      go_quiet (fail)
      all_goals go_wp2
      all_goals go_ret
      all_goals exact ⟨ret_bool (by rw [HC.out]; simp [hd]), by first | exact HB.out | exact HB.out.drewN _ | exact HB.out.drew⟩
  · have hC : catL ch ⟨u, t, r⟩ m = decide (t + ch ≤ m) := by unfold catL; rw [if_neg hr]
    have HC := Lib.hid hC
    have hr' : (r == 0) = false := by simpa using hr
    have hw : wrap64 (t + ch) = t + ch := by unfold wrap64; omega
    have hw2 : IntKind.i64.wrap (t + ch) = t + ch := IntWalk.i64_in _ (by omega)
    clear hC hr
    go_enter Try.func94, Try.ntmps94
    go_wp2
    go_quiet (fail)
    all_goals go_wp2
    all_goals go_ret
    all_goals exact ⟨ret_bool (by rw [HC.out]; first | done | rfl | simp), by first | exact HB.out | exact HB.out.drewN _ | exact HB.out.drew⟩

set_option maxRecDepth 100000 in
set_option maxHeartbeats 1000000 in
theorem brought_any (g : Nat) (u t r a b : Int) (w : World) (c0 : w.cell? ⟨g, 0, none⟩ = some (.int .i64 a)) (c1 : w.cell? ⟨g, 1, none⟩ = some (.int .i64 b)) (r0 : 0 ≤ r) (r1 : r ≤ 100000) :
    Calls Try.prog 95 #[.agg #[.int .i64 u, .int .i64 t, .int .i64 r], .pointer (some ⟨g, 0, none⟩)] w (Gives (.agg #[.int .i64 a, .int .i64 b, .int .i64 (r + 1)]) w) := by
  have hb : Below w.heap.size w ((w.alloc (.cells #[.int .i64 u, .int .i64 t, .int .i64 r] 81)).alloc (.cells #[.int .i64 0, .int .i64 0, .int .i64 0] 81)) := ((Below.refl _ _).alloc (Nat.le_refl _) _).alloc (by simp) _
  have d0 := keepCell hb c0
  have d1 := keepCell hb c1
  have hw := (Whole.made w 81 #[.int .i64 u, .int .i64 t, .int .i64 r]).below ((Below.refl (w.heap.size + 1) (w.alloc (.cells #[.int .i64 u, .int .i64 t, .int .i64 r] 81))).alloc (by simp) (.cells #[.int .i64 0, .int .i64 0, .int .i64 0] 81)) (Nat.lt_succ_self _)
  have e2 : ((w.alloc (.cells #[.int .i64 u, .int .i64 t, .int .i64 r] 81)).alloc (.cells #[.int .i64 0, .int .i64 0, .int .i64 0] 81)).cell? ⟨w.heap.size, 2, none⟩ = some (.int .i64 r) := hw.cell rfl
  have HB := Lib.hid hb
  have hwr : wrap64 (r + 1) = r + 1 := by unfold wrap64; omega
  have hw2 : IntKind.i64.wrap (r + 1) = r + 1 := IntWalk.i64_in _ (by omega)
  clear c0 c1 hb hw
  go_enter Try.func95, Try.ntmps95
  go_wp2
  go_region
  all_goals go_wp2
  all_goals refine bodyPost_ret (v := .agg #[.int .i64 a, .int .i64 b, .int .i64 (r + 1)]) ?_ rfl ?_
  all_goals first | (simp [results, Try.results95, go_sem]; done) | skip
  exact ⟨rfl, (((Below.refl w.heap.size w).alloc (Nat.le_refl _) _).alloc (by simp) _).drew⟩

/-- The table tb of towns below n, its letters in the block eb, of the net pb. -/
def ltAt (w : World) (pv : Option Addr) (o : Option Ltr) : Prop := match o with
  | none => pv = none
  | some y => ∃ q, pv = some ⟨q, 0, none⟩ ∧ Whole w q 81 (ltC y)
structure PTab (w : World) (tb eb pb n : Nat) (T : Int → Option Ltr) : Prop where
  top : Whole w tb 130 #[.pointer (some ⟨pb, 0, none⟩), .slice (some ⟨eb, 0, none⟩) n n]
  row : ∃ cs, Whole w eb 127 cs ∧ cs.size = n ∧ ∀ i : Nat, i < n → ∃ pv, cs[i]? = some (.pointer pv) ∧ ltAt w pv (T i)

theorem ltAt.touch {w w' : World} {S : Nat → Prop} {pv : Option Addr} {o : Option Ltr} (h : ltAt w pv o) (ht : Touch S w w') (hS : ∀ q cs, Whole w q 81 cs → ¬ S q) : ltAt w' pv o := by
  unfold ltAt at h ⊢
  split
  · exact h
  · obtain ⟨q, h1, h2⟩ := h
    exact ⟨q, h1, h2.touch7 ht (hS q _ h2)⟩

theorem PTab.touch {w w' : World} {tb eb pb n : Nat} {T : Int → Option Ltr} {S : Nat → Prop} (h : PTab w tb eb pb n T) (ht : Touch S w w') (h1 : ¬ S tb) (h2 : ¬ S eb) (hS : ∀ q cs, Whole w q 81 cs → ¬ S q) : PTab w' tb eb pb n T := by
  obtain ⟨ht0, cs, c1, c2, c3⟩ := h
  exact ⟨ht0.touch7 ht h1, cs, c1.touch7 ht h2, c2, fun i hi => by obtain ⟨pv, a, b⟩ := c3 i hi; exact ⟨pv, a, b.touch ht hS⟩⟩
theorem PTab.below {w w' : World} {tb eb pb n : Nat} {T : Int → Option Ltr} (h : PTab w tb eb pb n T) (hb : Below w.heap.size w w') : PTab w' tb eb pb n T :=
  h.touch (Touch.of_below (S := fun _ => False) hb) (fun h => h) (fun h => h) (fun _ _ _ h => h)
theorem PTab.congr {w : World} {tb eb pb n : Nat} {T T' : Int → Option Ltr} (h : PTab w tb eb pb n T) (he : ∀ i : Nat, i < n → T i = T' i) : PTab w tb eb pb n T' := by
  obtain ⟨ht0, cs, c1, c2, c3⟩ := h
  exact ⟨ht0, cs, c1, c2, fun i hi => by obtain ⟨pv, a, b⟩ := c3 i hi; exact ⟨pv, a, by rw [← he i hi]; exact b⟩⟩
theorem whole_ne {w : World} {p q : Nat} {t u : TypeId} {cs ds : Array Value} (h : Whole w p t cs) (h' : Whole w q u ds) (hne : t ≠ u) : p ≠ q := by
  rintro rfl
  unfold Whole at h h'
  rw [h] at h'
  injection h' with h'
  injection h' with _ h2 _
  exact hne h2

/-- What improve makes of a table. -/
def upT (T : Int → Option Ltr) (x : Ltr) : Int → Option Ltr := fun u => if beat (T x.u) x = true ∧ u = x.u then some x else T u

set_option maxRecDepth 100000 in
set_option maxHeartbeats 1000000 in
theorem has_any (tb eb pb n : Nat) (T : Int → Option Ltr) (u : Int) (w : World) (h : PTab w tb eb pb n T) (hu : 0 ≤ u ∧ u < n) :
    Calls Try.prog 69 #[.pointer (some ⟨tb, 0, none⟩), .int .i64 u] w fun e w' => e = .returned (.bool (T u).isSome) ∧ w' = w := by
  obtain ⟨i, rfl⟩ : ∃ i : Nat, u = (i : Int) := ⟨u.toNat, by omega⟩
  have hi : i < n := by omega
  have c1 : w.cell? ⟨tb, 1, none⟩ = some (.slice (some ⟨eb, 0, none⟩) n n) := h.top.cell rfl
  obtain ⟨_, cs, hw, _, hc⟩ := h
  obtain ⟨pv, hp, ho⟩ := hc i hi
  have c2 : w.cell? ⟨eb, i, none⟩ = some (.pointer pv) := hw.cell hp
  have hv : (pv.isSome) = (T i).isSome := by
    unfold ltAt at ho
    split at ho
    · rename_i e; rw [e, ho]; rfl
    · rename_i e; obtain ⟨q, h1, _⟩ := ho; rw [e, h1]; rfl
  have Hv := Lib.hid hv
  have hi' : (i : Int) < (n : Int) := by omega
  clear hw hc hp ho hv hu
  cases pv with
  | none =>
    go_enter Try.func69, Try.ntmps69
    go_wp2
    go_ret
    exact ⟨ret_bool (by rw [← Hv.out]; rfl), rfl⟩
  | some a =>
    go_enter Try.func69, Try.ntmps69
    go_wp2
    go_ret
    exact ⟨ret_bool (by rw [← Hv.out]; rfl), rfl⟩

/-- The time in a table, or -1. -/
def tmO (o : Option Ltr) : Int := match o with | none => -1 | some y => y.t

set_option maxRecDepth 100000 in
set_option maxHeartbeats 1000000 in
theorem time_any (tb eb pb n : Nat) (T : Int → Option Ltr) (u : Int) (w : World) (h : PTab w tb eb pb n T) (hu : 0 ≤ u ∧ u < n) :
    Calls Try.prog 67 #[.pointer (some ⟨tb, 0, none⟩), .int .i64 u] w fun e w' => e = .returned (.int .i64 (tmO (T u))) ∧ w' = w := by
  have HH := Lib.hid (has_any tb eb pb n T u w h hu)
  obtain ⟨i, rfl⟩ : ∃ i : Nat, u = (i : Int) := ⟨u.toNat, by omega⟩
  have hi : i < n := by omega
  have c1 : w.cell? ⟨tb, 1, none⟩ = some (.slice (some ⟨eb, 0, none⟩) n n) := h.top.cell rfl
  obtain ⟨_, cs, hw, _, hc⟩ := h
  obtain ⟨pv, hp, ho⟩ := hc i hi
  have c2 : w.cell? ⟨eb, i, none⟩ = some (.pointer pv) := hw.cell hp
  have hi' : (i : Int) < (n : Int) := by omega
  clear hw hc hp hu
  unfold ltAt at ho
  cases e : T i with
  | none =>
    rw [e] at HH
    clear ho c1 c2
    go_enter Try.func67, Try.ntmps67
    go_wp2_with fail
    refine HH.out.mono ?_; rintro e w' ⟨rfl, rfl⟩
    go_wp2
    go_ret
    exact ⟨rfl, rfl⟩
  | some y =>
    rw [e] at ho HH
    obtain ⟨q, rfl, hq⟩ := ho
    have c3 : w.cell? ⟨q, 1, none⟩ = some (.int .i64 y.t) := hq.cell rfl
    clear hq
    go_enter Try.func67, Try.ntmps67
    go_wp2_with fail
    refine HH.out.mono ?_; rintro e w' ⟨rfl, rfl⟩
    go_wp2
    go_ret
    exact ⟨rfl, rfl⟩

def isTown (n u : Int) : Bool := decide (0 ≤ u) && decide (u < n)
theorem isTown_iff {n u : Int} : isTown n u = true ↔ 0 ≤ u ∧ u < n := by simp [isTown]
set_option maxHeartbeats 1000000 in
theorem hasTown_any (n u : Int) (w : World) : Calls Try.prog 68 #[.int .i64 n, .int .i64 u] w fun e w' => e = .returned (.bool (isTown n u)) ∧ w' = w := by
  by_cases h1 : 0 ≤ u
  · by_cases h2 : u < n
    · have hd : decide (u < n) = true := decide_eq_true h2
      go_enter Try.func68, Try.ntmps68
      go_wp2
      go_ret
      exact ⟨ret_bool (by simp [isTown, h1, h2]), rfl⟩
    · have hd : decide (u < n) = false := decide_eq_false h2
      go_enter Try.func68, Try.ntmps68
      go_wp2
      go_ret
      exact ⟨ret_bool (by simp [isTown, h1, h2]; try omega), rfl⟩
  · go_enter Try.func68, Try.ntmps68
    go_wp2
    go_ret
    exact ⟨ret_bool (by simp [isTown]; try omega), rfl⟩

theorem infoLp : (Try.prog.info? 127).map (fun i => (i.zero, i.size, i.bytes)) = some (some (.pointer none), 1, 8) := by kernel_rfl

set_option maxRecDepth 100000 in
set_option maxHeartbeats 1000000 in
theorem newTable_any (pb n : Nat) (w : World) (hn : n ≤ 8) :
    Calls Try.prog 78 #[.pointer (some ⟨pb, 0, none⟩), .int .i64 n] w fun e w' => e = .returned (.pointer (some ⟨w.heap.size + 1, 0, none⟩)) ∧ PTab w' (w.heap.size + 1) w.heap.size pb n (fun _ => none) ∧ Below w.heap.size w w' := by
  obtain ⟨i0, hi, hz0, hz1, hz2⟩ := info_parts infoLp
  have hmk := fun W => run_make_rowN (P := Try.prog) 128 127 i0 _ Try.underlying128 hi hz0 .i64 .i64 n n (Nat.le_refl _) (by rw [hz2]; omega) (by omega) W
  rw [hz1] at hmk
  go_enter Try.func78, Try.ntmps78
  go_wp2
  go_ret
  have hw1 := Whole.made w 127 (madeCells #[Value.pointer none] n)
  have hb1 : Below w.heap.size w (w.alloc (.cells (madeCells #[Value.pointer none] n) 127)) := (Below.refl _ _).alloc (Nat.le_refl _) _
  have hw2 := Whole.made (w.alloc (.cells (madeCells #[Value.pointer none] n) 127)) 130 #[.pointer (some ⟨pb, 0, none⟩), .slice (some ⟨w.heap.size, 0, none⟩) n n]
  rw [World.size_alloc] at hw2
  have hb1' : Below w.heap.size w ((w.alloc (.cells (madeCells #[Value.pointer none] n) 127)).alloc (.cells #[.pointer (some ⟨pb, 0, none⟩), .slice (some ⟨w.heap.size, 0, none⟩) n n] 130)) := hb1.alloc (by simp) _
  refine ⟨rfl, ⟨hw2, _, hw1.below ((Below.refl (w.heap.size + 1) _).alloc (by simp) _) (Nat.lt_succ_self _), ?_, fun i hi => ⟨none, ?_, rfl⟩⟩, hb1'⟩
  · simp [madeCells]
  · rw [← Array.getElem?_toList, toList_madeCells_one]
    simp [hi]

/-- The table behind an improvement. -/
theorem PTab.put {w w' : World} {tb eb pb n : Nat} {T : Int → Option Ltr} {x : Ltr} {lb i : Nat} (h : PTab w tb eb pb n T) (hi : i < n) (hx : x.u = (i : Int)) (hb : Below w.heap.size w w') (hl : Whole w' lb 81 (ltC x)) (hbeat : beat (T x.u) x = true) :
    PTab (w'.setCell ⟨eb, i, none⟩ (.pointer (some ⟨lb, 0, none⟩))) tb eb pb n (upT T x) := by
  have h' := h.below hb
  obtain ⟨ht0, cs, c1, c2, c3⟩ := h'
  have hT : Touch (fun p => p = eb) w' (w'.setCell ⟨eb, i, none⟩ (.pointer (some ⟨lb, 0, none⟩))) := Touch.setCell (S := fun p => p = eb) (Touch.refl _ w') (a := ⟨eb, i, none⟩) rfl _
  have hne : ∀ q cs', Whole w' q 81 cs' → ¬ (q = eb) := fun q cs' hq e => whole_ne hq c1 (by decide) e
  refine ⟨ht0.touch7 hT (fun e => whole_ne ht0 c1 (by decide) e), _, c1.set i _, by simpa using c2, fun j hj => ?_⟩
  by_cases hji : j = i
  · subst hji
    refine ⟨some ⟨lb, 0, none⟩, by simp [c2, hj], ?_⟩
    unfold upT
    rw [if_pos ⟨hbeat, hx.symm⟩]
    exact ⟨lb, rfl, hl.touch7 hT (hne _ _ hl)⟩
  · obtain ⟨pv, a, b⟩ := c3 j hj
    refine ⟨pv, by rw [Array.getElem?_setIfInBounds]; rw [if_neg (by omega)]; exact a, ?_⟩
    unfold upT
    rw [if_neg (by rw [hx]; omega)]
    exact b.touch hT hne

theorem upT_no {T : Int → Option Ltr} {x : Ltr} (h : beat (T x.u) x = false) : upT T x = T := by
  funext u; unfold upT; rw [if_neg (by rw [h]; simp)]

/-- What improve gives. -/
def ImpOut (tb eb pb n : Nat) (T : Int → Option Ltr) (x : Ltr) (w : World) (e : Ending) (w' : World) : Prop :=
  e = .returned (.bool (beat (T x.u) x)) ∧ PTab w' tb eb pb n (upT T x) ∧ Touch (fun p => p = eb) w w'

theorem drew_setCell (w : World) (a : Addr) (v : Value) : w.drew.setCell a v = (w.setCell a v).drew := rfl

set_option maxRecDepth 100000 in
set_option maxHeartbeats 1000000 in
theorem improve_any (tb eb pb n : Nat) (T : Int → Option Ltr) (u t r : Int) (w : World) (h : PTab w tb eb pb n T) (hu : 0 ≤ u ∧ u < n) :
    Calls Try.prog 81 #[.pointer (some ⟨tb, 0, none⟩), .agg #[.int .i64 u, .int .i64 t, .int .i64 r]] w (ImpOut tb eb pb n T ⟨u, t, r⟩ w) := by
  obtain ⟨i, rfl⟩ : ∃ i : Nat, u = (i : Int) := ⟨u.toNat, by omega⟩
  have hi : i < n := by omega
  have hi' : (i : Int) < (n : Int) := by omega
  have hb : Below w.heap.size w (w.alloc (.cells #[.int .i64 (i : Int), .int .i64 t, .int .i64 r] 81)) := (Below.refl _ _).alloc (Nat.le_refl _) _
  have hl := Whole.made w 81 #[.int .i64 (i : Int), .int .i64 t, .int .i64 r]
  have H := Lib.hid h
  have h1 := h.below hb
  have c1 : (w.alloc (.cells #[.int .i64 (i : Int), .int .i64 t, .int .i64 r] 81)).cell? ⟨tb, 1, none⟩ = some (.slice (some ⟨eb, 0, none⟩) n n) := h1.top.cell rfl
  obtain ⟨_, cs, hw, _, hc⟩ := h1
  obtain ⟨pv, hp, ho⟩ := hc i hi
  have c2 : (w.alloc (.cells #[.int .i64 (i : Int), .int .i64 t, .int .i64 r] 81)).cell? ⟨eb, i, none⟩ = some (.pointer pv) := hw.cell hp
  have f2 := hw.free i
  have e0 : (w.alloc (.cells #[.int .i64 (i : Int), .int .i64 t, .int .i64 r] 81)).cell? ⟨w.heap.size, 0, none⟩ = some (.int .i64 (i : Int)) := hl.cell rfl
  have e1 : (w.alloc (.cells #[.int .i64 (i : Int), .int .i64 t, .int .i64 r] 81)).cell? ⟨w.heap.size, 1, none⟩ = some (.int .i64 t) := hl.cell rfl
  have HB := Lib.hid hb
  have HL := Lib.hid hl
  have hebn : eb ≠ w.heap.size := fun e => whole_ne hl hw (by decide) e.symm
  have HT := Lib.hid (fun (v : Value) => Touch.setCell (S := fun p => p = eb) (Touch.of_below hb) (a := ⟨eb, i, none⟩) rfl v)
  clear h hl hb hw hc hp hu
  unfold ltAt at ho
  cases e : T (i : Int) with
  | none =>
    rw [e] at ho
    subst ho
    have hbt : beat (T (⟨(i : Int), t, r⟩ : Ltr).u) ⟨(i : Int), t, r⟩ = true := by show beat (T (i : Int)) _ = true; rw [e]; rfl
    have HBt := Lib.hid hbt
    clear e hbt
    go_enter Try.func81, Try.ntmps81
    go_wp2
    go_quiet (fail)
    go_wp2
    go_quiet (fail)
    go_wp2
    go_region
    all_goals go_wp2
    all_goals go_ret
    all_goals refine ⟨ret_bool (by rw [HBt.out]), ?_, ?_⟩
    · exact PTab.put H.out hi rfl (by first | exact HB.out | exact HB.out.drewN _ | exact (HB.out.drewN _).drewN _ | exact HB.out.drew) (by first | exact HL.out | exact HL.out.drewN _) HBt.out
    · exact Touch.setCell (S := fun p => p = eb) (Touch.of_below (by first | exact HB.out | exact HB.out.drewN _ | exact (HB.out.drewN _).drewN _ | exact HB.out.drew)) (a := ⟨eb, i, none⟩) rfl _
  | some y =>
    rw [e] at ho
    obtain ⟨q, rfl, hq⟩ := ho
    have c3 : (w.alloc (.cells #[.int .i64 (i : Int), .int .i64 t, .int .i64 r] 81)).cell? ⟨q, 1, none⟩ = some (.int .i64 y.t) := hq.cell rfl
    clear hq
    by_cases hlt : t < y.t
    · have hbt : beat (T (⟨(i : Int), t, r⟩ : Ltr).u) ⟨(i : Int), t, r⟩ = true := by show beat (T (i : Int)) _ = true; rw [e]; exact decide_eq_true hlt
      have HBt := Lib.hid hbt
      have hd : decide (y.t ≤ t) = false := by simp only [decide_eq_false_iff_not]; omega
      clear e hbt hlt
      generalize y.t = yt at *
      go_enter Try.func81, Try.ntmps81
      go_wp2
      go_quiet (fail)
      go_wp2
      go_quiet (fail)
      go_wp2
      go_region
      all_goals go_wp2
      all_goals go_ret
      all_goals refine ⟨ret_bool (by rw [HBt.out]), ?_, ?_⟩
      · exact PTab.put H.out hi rfl (by first | exact HB.out | exact HB.out.drewN _ | exact (HB.out.drewN _).drewN _ | exact HB.out.drew) (by first | exact HL.out | exact HL.out.drewN _) HBt.out
      · exact Touch.setCell (S := fun p => p = eb) (Touch.of_below (by first | exact HB.out | exact HB.out.drewN _ | exact (HB.out.drewN _).drewN _ | exact HB.out.drew)) (a := ⟨eb, i, none⟩) rfl _
    · have hbt : beat (T (⟨(i : Int), t, r⟩ : Ltr).u) ⟨(i : Int), t, r⟩ = false := by show beat (T (i : Int)) _ = false; rw [e]; exact decide_eq_false hlt
      have HBt := Lib.hid hbt
      have hd : decide (y.t ≤ t) = true := by simp only [decide_eq_true_eq]; omega
      clear e hbt hlt HT
      generalize y.t = yt at *
      go_enter Try.func81, Try.ntmps81
      go_wp2
      go_quiet (fail)
      go_wp2
      go_quiet (fail)
      go_wp2
      go_ret
      refine ⟨ret_bool (by rw [HBt.out]), ?_, ?_⟩
      · rw [upT_no HBt.out]
        exact H.out.below (by first | exact HB.out | exact HB.out.drewN _ | exact (HB.out.drewN _).drewN _ | exact HB.out.drew)
      · exact Touch.of_below (by first | exact HB.out | exact HB.out.drewN _ | exact (HB.out.drewN _).drewN _ | exact HB.out.drew)

end Go.Proofs.Ytmkcnoaphoiiaaa
