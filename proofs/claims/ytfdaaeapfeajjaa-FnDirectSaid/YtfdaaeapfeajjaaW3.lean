/- The network: newNetwork, direct, has, join, roadFits. -/
import Derived.Test.YtfdaaeapfeajjaaRows
import Derived.Test.YtfdaaeapfeajjaaN
import Derived.Test.YtfdaaeapfeajjaaTC
import Derived.WalkKit
import Derived.WalkSpells
import Derived.WalkLawsBesides
import Derived.Lib.Hide
import Derived.IntWalk
import Derived.Deep.QuietTactic
import Derived.BigQuiet
import Derived.Deep.RegionHeld3
namespace Go.Proofs.Ytfdaaeapfeajjaa
open Go.RowKit

def outB (n : Int) (bs : Int → Nat) (t : Int) : Option Nat := if 0 ≤ t ∧ t < n then some (bs t) else none

/-- Block nb is the network of n towns with the edges g; bs: the towns' own blocks. -/
structure NetAt (w : World) (nb : Nat) (n : Int) (bs : Int → Nat) (cnt : Nat) (g : Int → Int → Option Int) : Prop where
  outer : MapIs w mapElem nb 8 (fun t => (outB n bs t).map fun c : Nat => dI (c : Int))
  inner : ∀ t, 0 ≤ t → t < n → MapIs w intElem (bs t) cnt (fun x => (g t x).map dI)
  inj : ∀ s t, 0 ≤ s → s < n → 0 ≤ t → t < n → bs s = bs t → s = t
  ne : ∀ t, 0 ≤ t → t < n → bs t ≠ nb

theorem NetAt.below {w w' : World} {nb n bs cnt g} (h : NetAt w nb n bs cnt g) (hb : Below w.heap.size w w') : NetAt w' nb n bs cnt g :=
  ⟨h.outer.below hb h.outer.lt, fun t h0 h1 => (h.inner t h0 h1).below hb (h.inner t h0 h1).lt, h.inj, h.ne⟩

theorem NetAt.drewN {w : World} {nb n bs cnt g} (h : NetAt w nb n bs cnt g) (k : Nat) : NetAt (w.drewN k) nb n bs cnt g := h.below ((Below.refl _ _).drewN k)

theorem outB_in {n : Int} {bs : Int → Nat} {t : Int} (h0 : 0 ≤ t) (h1 : t < n) : outB n bs t = some (bs t) := if_pos ⟨h0, h1⟩
theorem outB_out {n : Int} {bs : Int → Nat} {t : Int} (h : ¬ (0 ≤ t ∧ t < n)) : outB n bs t = none := if_neg h

def dirOf (n : Int) (g : Int → Int → Option Int) (a b : Int) : Int := if 0 ≤ a ∧ a < n then (g a b).getD (-1) else -1

set_option maxHeartbeats 400000 in
theorem direct_any (nb : Nat) (n : Int) (bs : Int → Nat) (cnt : Nat) (g : Int → Int → Option Int) (a b : Int) (w : World) (h : NetAt w nb n bs cnt g) (ha : W64 a) (hb : W64 b) :
    Calls Try.prog 55 #[.map (some nb), .int .i64 a, .int .i64 b] w fun e w' => e = .returned (.int .i64 (dirOf n g a b)) ∧ w = w' := by
  by_cases hr : 0 ≤ a ∧ a < n
  · have hd : dirOf n g a b = (g a b).getD (-1) := if_pos hr
    have Hd := Lib.hid hd; clear hd
    have ho := outB_in (bs := bs) hr.1 hr.2
    have hou := h.outer
    have hin := h.inner a hr.1 hr.2
    clear h hr
    cases hg : g a b with
    | none =>
      go_enter Try.func55, Try.ntmps55
      go_wp2_with (first | (at_lookup; refine wp_lookM _ rfl _ _ 89 rfl Try.underlying89 nb 8 _ rfl hou a ha rfl ?_; rw [ho]) | (at_lookup; refine wp_look_ok _ rfl _ _ rfl (bs a) cnt _ rfl hin b hb rfl ?_; rw [hg]))
      go_ret
      exact ⟨ret_int (by rw [Hd.out, hg]; rfl), rfl⟩
    | some m =>
      go_enter Try.func55, Try.ntmps55
      go_wp2_with (first | (at_lookup; refine wp_lookM _ rfl _ _ 89 rfl Try.underlying89 nb 8 _ rfl hou a ha rfl ?_; rw [ho]) | (at_lookup; refine wp_look_ok _ rfl _ _ rfl (bs a) cnt _ rfl hin b hb rfl ?_; rw [hg]))
      go_ret
      exact ⟨ret_int (by rw [Hd.out, hg]; rfl), rfl⟩
  · have hd : dirOf n g a b = -1 := if_neg hr
    have Hd := Lib.hid hd; clear hd
    have ho := outB_out (bs := bs) hr
    have hou := h.outer
    have hnil := fun w => look_nil_ok w b hb
    clear h hr
    go_enter Try.func55, Try.ntmps55
    go_wp2_with (at_lookup; refine wp_lookM _ rfl _ _ 89 rfl Try.underlying89 nb 8 _ rfl hou a ha rfl ?_; rw [ho])
    go_ret
    exact ⟨ret_int Hd.out.symm, rfl⟩

/-- Whether there is such a town. -/
def hasTown (n t : Int) : Bool := decide (0 ≤ t) && decide (t < n)

theorem hasTown_iff (n t : Int) : hasTown n t = true ↔ 0 ≤ t ∧ t < n := by simp [hasTown]

theorem outB_isSome (n : Int) (bs : Int → Nat) (t : Int) : (outB n bs t).isSome = hasTown n t := by
  by_cases h : 0 ≤ t ∧ t < n
  · rw [outB_in h.1 h.2]; simp [hasTown, h]
  · rw [outB_out h]; simp [hasTown]; omega

set_option maxHeartbeats 400000 in
theorem has_any (nb : Nat) (n : Int) (bs : Int → Nat) (cnt : Nat) (g : Int → Int → Option Int) (a : Int) (w : World) (h : NetAt w nb n bs cnt g) (ha : W64 a) :
    Calls Try.prog 61 #[.map (some nb), .int .i64 a] w fun e w' => e = .returned (.bool (hasTown n a)) ∧ w = w' := by
  have hou := h.outer
  have ho := outB_isSome n bs a
  clear h
  go_enter Try.func61, Try.ntmps61
  go_wp2_with (at_lookup; refine wp_lookM_ok _ rfl _ _ 89 rfl Try.underlying89 nb 8 _ rfl hou a ha rfl ?_; rw [ho])
  go_ret
  exact ⟨rfl, rfl⟩

theorem MapIs.touch {w w' : World} {R : MElem} {b n : Nat} {f} (h : MapIs w R b n f) {S : Nat → Prop} (ht : Touch S w w') (hS : ¬ S b) : MapIs w' R b n f := by
  have hlt := h.lt
  obtain ⟨D, ⟨es, clock, he, r⟩, hf⟩ := h
  exact ⟨D, ⟨es, clock, (ht.block b hlt hS).trans he, r⟩, hf⟩

def setE (g : Int → Int → Option Int) (a b m : Int) : Int → Int → Option Int := fun x y => if x = a ∧ y = b then some m else g x y

theorem NetAt.put {w w' : World} {nb n bs cnt g} (h : NetAt w nb n bs cnt g) {a b m : Int} (h0 : 0 ≤ a) (h1 : a < n) (hm : MapIs w' intElem (bs a) (cnt + 1) (fun y => if y = b then some (dI m) else (g a y).map dI)) (hg : w.grownBy w' (some (bs a))) :
    NetAt w' nb n bs (cnt + 1) (setE g a b m) := by
  refine ⟨h.outer.kept hg (fun e => h.ne a h0 h1 (by injection e with e; exact e.symm)), fun t t0 t1 => ?_, h.inj, h.ne⟩
  by_cases e : t = a
  · subst e
    refine hm.congr fun x _ => ?_
    unfold setE
    by_cases hx : x = b
    · simp [hx]
    · simp [hx]
  · refine ((h.inner t t0 t1).kept hg (fun e' => e (h.inj t a t0 t1 h0 h1 (by injection e')))).mono (Nat.le_succ _) |>.congr fun x _ => ?_
    unfold setE
    simp [e]

section
variable (w : World) {ops : Array Oper} {rest : List Oper} {o : Oper} {a : Act} {Q : Exit → Act → World → Prop}

/-- 'net[t]' at a town. -/
theorem wp_lookNet (hg : o.guard = none) (m x : Operand) (hop : o.op = Op.lookup 89 m x false) {nb : Nat} {n : Int} {bs : Int → Nat} {cnt : Nat} {g : Int → Int → Option Int} (hm : a.eval m = .map (some nb)) (key : Int) (hx : a.eval x = .int .i64 key)
    (h : NetAt w nb n bs cnt g) (h0 : 0 ≤ key) (h1 : key < n) (h8 : n ≤ 8)
    (hK : wpList Try.prog ops Q rest (a.put o.dst (.map (some (bs key)))) w) : wpList Try.prog ops Q (o :: rest) a w := by
  refine wp_lookM w hg m x _ hop Try.underlying89 nb 8 _ hm h.outer key (by unfold W64; omega) hx ?_
  rw [outB_in h0 h1]; exact hK

/-- 'net[t][k] = v'. -/
theorem wp_putNet (hg : o.guard = none) (m x v : Operand) (hop : o.op = Op.mapUpdate 96 m x v) {nb : Nat} {n : Int} {bs : Int → Nat} {cnt : Nat} {g : Int → Int → Option Int} (t : Int) (hm : a.eval m = .map (some (bs t))) (key : Int) (hx : a.eval x = .int .i64 key)
    (val : Int) (hv : a.eval v = .int .i64 val) (h : NetAt w nb n bs cnt g) (h0 : 0 ≤ t) (h1 : t < n) (wk : W64 key) (wv : W64 val) (hc : cnt < 1002)
    (hK : ∀ w', NetAt w' nb n bs (cnt + 1) (setE g t key val) → w.grownBy w' (some (bs t)) → wpList Try.prog ops Q rest (a.put o.dst undef) w') : wpList Try.prog ops Q (o :: rest) a w := by
  refine wp_put w hg m x v _ 3 hop Try.underlying96 intElem (bs t) cnt _ hm (h.inner t h0 h1) (by unfold maxLen; omega) key wk _ hx hv (dI val) (plainElem_int Try.underlying3 (wf_of wv)) (fun w' hm' hg' => hK w' (h.put h0 h1 hm' hg') hg')

end

/-- Both directions. -/
def joinE (g : Int → Int → Option Int) (a b m : Int) : Int → Int → Option Int := setE (setE g a b m) b a m

def JoinOut (nb : Nat) (n : Int) (bs : Int → Nat) (cnt : Nat) (g : Int → Int → Option Int) (a b : Int) (w : World) (e : Ending) (w' : World) : Prop :=
  e = .returned (.tuple #[]) ∧ NetAt w' nb n bs cnt g ∧ Touch (fun j => j = bs a ∨ j = bs b) w w'

set_option maxHeartbeats 400000 in
theorem join_any (nb : Nat) (n : Int) (bs : Int → Nat) (cnt : Nat) (g : Int → Int → Option Int) (a b m : Int) (w : World) (h : NetAt w nb n bs cnt g) (ha0 : 0 ≤ a) (ha1 : a < n) (hb0 : 0 ≤ b) (hb1 : b < n) (hn : n ≤ 8) (hm : W64 m) (hc : cnt < 1000) :
    Calls Try.prog 77 #[.map (some nb), .agg #[.int .i64 a, .int .i64 b, .int .i64 m]] w (JoinOut nb n bs (cnt + 2) (joinE g a b m) a b w) := by
  have wa : W64 a := by unfold W64; omega
  have wb : W64 b := by unfold W64; omega
  have hc2 : cnt < 1002 := by omega
  have hc3 : cnt + 1 < 1002 := by omega
  have la := (h.inner a ha0 ha1).lt
  have hbox : ∀ w', (w.alloc (.cells #[.int .i64 a, .int .i64 b, .int .i64 m] 50)).grownBy w' (some (bs a)) → w'.cell? ⟨w.heap.size, 0, none⟩ = some (.int .i64 a) ∧ w'.cell? ⟨w.heap.size, 1, none⟩ = some (.int .i64 b) ∧ w'.cell? ⟨w.heap.size, 2, none⟩ = some (.int .i64 m) := fun w' hg =>
    ⟨hg.cell (by simp) (by simp; omega), hg.cell (by simp) (by simp; omega), hg.cell (by simp) (by simp; omega)⟩
  have Hbox := Lib.hid hbox; clear hbox
  have tok1 : True := trivial
  have h1 := h.below ((Below.refl _ w).alloc (Nat.le_refl _) (.cells #[.int .i64 a, .int .i64 b, .int .i64 m] 50))
  clear h la
  go_enter Try.func77, Try.ntmps77
  go_wp2_with (first | (at_lookup; refine wp_lookNet _ rfl _ _ rfl rfl _ rfl (by assumption) (by assumption) (by assumption) hn ?_) | (at_mapUpdate; refine wp_putNet _ rfl _ _ _ rfl _ rfl _ rfl _ rfl (by assumption) (by assumption) (by assumption) (by assumption) hm (by assumption) ?_; first | (clear tok1; intro w1 hn1 hg1; obtain ⟨c0, c1, c2⟩ := Hbox.out _ hg1) | (intro w2 hn2 hg2)))
  go_end0
  exact ⟨rfl, hn2, (Touch.of_below ((Below.refl _ _).alloc (Nat.le_refl _) _)).trans ((Touch.grown hg1 (.inl rfl)).trans (Touch.grown hg2 (.inr rfl)))⟩

/-! ### newNetwork -/
def NewRel (w : World) (n : Int) (i : Value) (wr : World) : Prop :=
  ∃ (k : Nat) (bs : Int → Nat), (k : Int) ≤ n ∧ i = .int .i64 k ∧ MapIs wr mapElem w.heap.size k (fun t => (outB k bs t).map fun c : Nat => dI (c : Int)) ∧
    (∀ t : Int, 0 ≤ t → t < k → MapIs wr intElem (bs t) 0 (fun _ => none) ∧ w.heap.size < bs t) ∧ (∀ s t : Int, 0 ≤ s → s < k → 0 ≤ t → t < k → bs s = bs t → s = t) ∧ Below w.heap.size w wr ∧ w.heap.size < wr.heap.size

def NewOut (n : Int) (w : World) (e : Ending) (w' : World) : Prop :=
  ∃ bs : Int → Nat, e = .returned (.map (some w.heap.size)) ∧ NetAt w' w.heap.size n bs 0 (fun _ _ => none) ∧ (∀ t, 0 ≤ t → t < n → w.heap.size < bs t) ∧ Below w.heap.size w w'

set_option maxHeartbeats 400000 in
theorem newNetwork_any (n : Int) (w : World) (h0 : 0 ≤ n) (h8 : n ≤ 8) :
    Calls Try.prog 75 #[.int .i64 n] w (NewOut n w) := by
  have hmm := @run_makeMap Try.prog
  go_enter Try.func75, Try.ntmps75
  go_wp2
  go_loopw [7] (fun i wr => NewRel w n i wr) (fun i _ => (n - intOf i).toNat)
  case atStart =>
    refine ⟨0, fun _ => 0, h0, rfl, (MapIs.made w mapElem).congr fun x _ => ?_, fun t ht => by omega, fun s t _ _ _ _ _ => by omega, (Below.refl _ _).alloc (Nat.le_refl _) _, by simp⟩
    rw [outB_out (by omega)]; rfl
  case round =>
    obtain ⟨k, bs, hk, rfl, hou, hin, hinj, hbel, hsz⟩ := hrel
    have Hin := Lib.hid hin; clear hin
    have Hinj := Lib.hid hinj; clear hinj
    by_cases hlt : (k : Int) < n
    · have wk : W64 (k : Int) := by unfold W64; omega
      have hk8 : k < maxLen := by unfold maxLen; omega
      have hou1 := hou.alloc (.map #[] 0)
      have hnew := MapIs.made wr intElem
      have Hnew := Lib.hid hnew; clear hnew
      go_wp2_with (at_mapUpdate; refine wp_put _ rfl _ _ _ 89 96 rfl Try.underlying89 mapElem w.heap.size k _ rfl hou1 hk8 (k : Int) wk _ rfl rfl (dI (wr.heap.size : Int)) rfl ?_; intro w1 hm1 hg1)
      have hgs := hg1.size
      simp only [World.size_alloc] at hgs
      refine ⟨⟨k + 1, fun t => if t = k then wr.heap.size else bs t, by omega, by go_num, hm1.congr fun x _ => ?_, fun t t0 t1 => ?_, fun s t s0 s1 t0 t1 hst => ?_, (hbel.alloc (Nat.le_of_lt hsz) _).grown hg1 (by simp; omega) (fun j hj => by injection hj with hj; omega), by omega⟩, by simp [intOf]; omega⟩
      · by_cases e : x = (k : Int)
        · subst e
          rw [outB_in (by omega) (by omega)]; simp
        · by_cases hx : 0 ≤ x ∧ x < k
          · rw [outB_in hx.1 (by omega), if_neg e, if_neg e, outB_in hx.1 hx.2]
          · rw [outB_out (by omega), if_neg e, outB_out hx]
      · dsimp only
        by_cases e : t = (k : Int)
        · rw [if_pos e]
          exact ⟨Hnew.out.kept hg1 (by simp; omega), by omega⟩
        · rw [if_neg e]
          obtain ⟨h1, h2⟩ := Hin.out t t0 (by omega)
          exact ⟨(h1.alloc _).kept hg1 (by simp; omega), h2⟩
      · have lt : ∀ t : Int, 0 ≤ t → t < k → bs t < wr.heap.size := fun t h0 h1 => (Hin.out t h0 h1).1.lt
        dsimp only at hst
        by_cases es : s = (k : Int) <;> by_cases et : t = (k : Int)
        · omega
        · rw [if_pos es, if_neg et] at hst
          have := lt t t0 (by omega); omega
        · rw [if_neg es, if_pos et] at hst
          have := lt s s0 (by omega); omega
        · rw [if_neg es, if_neg et] at hst
          exact Hinj.out s t s0 (by omega) t0 (by omega) hst
    · obtain rfl : n = k := by omega
      go_wp2
      go_ret
      exact ⟨bs, rfl, ⟨hou.mono (by omega), fun t t0 t1 => (Hin.out t t0 t1).1, Hinj.out, fun t t0 t1 => by have := (Hin.out t t0 t1).2; omega⟩, fun t t0 t1 => (Hin.out t t0 t1).2, hbel⟩

end Go.Proofs.Ytfdaaeapfeajjaa
