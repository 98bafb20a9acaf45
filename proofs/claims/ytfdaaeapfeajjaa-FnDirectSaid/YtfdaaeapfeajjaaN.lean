/- Maps keyed by int, seen as functions; the network: a map of maps; the laws at the operations. -/
import Derived.Test.YtfdaaeapfeajjaaProg
import Derived.Test.YtfdaaeapfeajjaaM
import Derived.Maps.OwnOps
import Derived.Maps.OwnSet
import Derived.Maps.Views
import Derived.Maps.RangeWalk
namespace Go.Proofs.Ytfdaaeapfeajjaa
open Go.RowKit Go.Maps

abbrev MElem := Value → Option (DataW Unit × List MemPlace)

theorem keyInt : Keyed Try.prog 3 := int_keyed Try.underlying3

theorem i64min : IntKind.i64.min = -9223372036854775808 := by decide
theorem i64max : IntKind.i64.max = 9223372036854775807 := by decide

theorem wf_of {x : Int} (h : W64 x) : (Lit.int .i64 x).wf = true := by
  unfold W64 at h
  simp [Lit.wf, i64min]
  omega

theorem of_wf {x : Int} (h : (Lit.int .i64 x).wf = true) : W64 x := by
  unfold W64
  simp [Lit.wf, i64min] at h
  omega

theorem keyOfI {x : Int} (h : W64 x) : keyOf Try.prog 3 (.int .i64 x) = some (.int .i64 x) := keyOf_int_mk Try.underlying3 (wf_of h)

/-- Block b is a map of at most n entries that reads as the function f. -/
def MapIs (w : World) (R : MElem) (b n : Nat) (f : Int → Option (DataW Unit)) : Prop :=
  ∃ D, w.ownsMap Try.prog 3 R b n D ∧ ∀ x, W64 x → Maps.has D (.int .i64 x) = (f x).isSome ∧ ∀ z, D.atKey (.int .i64 x) z = (f x).getD z

/-- The datum of an int. -/
abbrev dI (x : Int) : DataW Unit := .lit (.int .i64 x)

/-- How a map among a map's elements reads: as its block's number. -/
def mapElem : MElem
  | .map (some b) => some (dI b, [])
  | .map none => some (dI (-1), [])
  | _ => none

theorem mapElem_some {v : Value} {b : Nat} {ps : List MemPlace} (h : mapElem v = some (dI b, ps)) : v = .map (some b) := by
  unfold mapElem at h
  split at h
  · rename_i c
    simp at h
    rw [show c = b by omega]
  · simp at h
  · cases h

theorem mapElem_none {v : Value} {ps : List MemPlace} (h : mapElem v = some (dI (-1), ps)) : v = .map none := by
  unfold mapElem at h
  split at h
  · simp at h
  · rfl
  · cases h

noncomputable abbrev intElem : MElem := plainElem Try.prog 3

theorem zero3 (w : World) : (zeroValue 3).run Try.prog w = .ok (.int .i64 0) w := by kernel_rfl
theorem zero65 (w : World) : (zeroValue 96).run Try.prog w = .ok (.map none) w := by kernel_rfl

theorem MapIs.made (w : World) (R : MElem) : MapIs (w.alloc (.map #[] 0)) R w.heap.size 0 (fun _ => none) :=
  ⟨_, World.ownsMap_made w _ _ R, fun _ _ => ⟨rfl, fun _ => rfl⟩⟩

theorem MapIs.kept {w w' : World} {R : MElem} {b n : Nat} {f} (h : MapIs w R b n f) {row : Option Nat} (hg : w.grownBy w' row) (hne : some b ≠ row) : MapIs w' R b n f := by
  obtain ⟨D, hD, hf⟩ := h
  exact ⟨D, hD.kept hg hne, hf⟩

theorem MapIs.lt {w : World} {R : MElem} {b n : Nat} {f} (h : MapIs w R b n f) : b < w.heap.size := by
  obtain ⟨D, hD, _⟩ := h
  exact hD.lt

theorem MapIs.below {w w' : World} {R : MElem} {b n : Nat} {f} (h : MapIs w R b n f) {B : Nat} (hb : Below B w w') (hlt : b < B) : MapIs w' R b n f := by
  obtain ⟨D, ⟨es, clock, he, r⟩, hf⟩ := h
  exact ⟨D, ⟨es, clock, (hb.block b hlt).trans he, r⟩, hf⟩

theorem MapIs.alloc {w : World} {R : MElem} {b n : Nat} {f} (h : MapIs w R b n f) (o : Obj) : MapIs (w.alloc o) R b n f :=
  h.below ((Below.refl _ _).alloc (Nat.le_refl _) o) h.lt

theorem MapIs.setCell {w : World} {R : MElem} {b n : Nat} {f} (h : MapIs w R b n f) {a : Addr} (ha : b ≠ a.block) (u : Value) : MapIs (w.setCell a u) R b n f := by
  obtain ⟨D, hD, hf⟩ := h
  exact ⟨D, hD.setCell ha u, hf⟩

theorem MapIs.mono {w : World} {R : MElem} {b n n' : Nat} {f} (h : MapIs w R b n f) (hn : n ≤ n') : MapIs w R b n' f := by
  obtain ⟨D, hD, hf⟩ := h
  exact ⟨D, hD.mono hn, hf⟩

theorem MapIs.congr {w : World} {R : MElem} {b n : Nat} {f f'} (h : MapIs w R b n f) (hf : ∀ x, W64 x → f' x = f x) : MapIs w R b n f' := by
  obtain ⟨D, hD, hg⟩ := h
  exact ⟨D, hD, fun x hx => by rw [hf x hx]; exact hg x hx⟩

theorem litNe {x y : Int} (h : x ≠ y) : (Lit.int .i64 x) ≠ (Lit.int .i64 y) := fun e => h (by injection e)

theorem isKey (x : Int) : WideAt.IsKeyLit (.int .i64 x) := trivial

section
variable (w : World) {ops : Array Oper} {rest : List Oper} {o : Oper} {a : Act} {Q : Exit → Act → World → Prop}

/-- 'm[k] = v'. -/
theorem wp_put (hg : o.guard = none) (m x v : Operand) (t e : TypeId) (hop : o.op = Op.mapUpdate t m x v) (ht : Try.prog.underlying t = some (.map 3 e)) (R : MElem) (b n : Nat) (f : Int → Option (DataW Unit))
    (hm : a.eval m = .map (some b)) (h : MapIs w R b n f) (hn : n < maxLen) (key : Int) (hk : W64 key) (val : Value) (hx : a.eval x = .int .i64 key) (hv : a.eval v = val) (d : DataW Unit) (hval : R val = some (d, []))
    (hK : ∀ w', MapIs w' R b (n + 1) (fun y => if y = key then some d else f y) → w.grownBy w' (some b) → wpList Try.prog ops Q rest (a.put o.dst undef) w') :
    wpList Try.prog ops Q (o :: rest) a w := by
  obtain ⟨D, hD, hf⟩ := h
  refine wpList_mapUpdate_own w hg m x v t hop 3 e keyInt ht R b n D hm hD hn (.int .i64 key) val _ hx hv (keyOfI hk) d [] hval (fun w' hD' hg' => hK w' ⟨_, hD', fun y hy => ?_⟩ hg')
  by_cases hyk : y = key
  · subst hyk
    simp only [if_true, Option.isSome_some, Option.getD_some]
    exact ⟨Maps.has_put_same hD.isMap (isKey _) _, fun z => Maps.atKey_put_same hD.isMap (isKey _) _ _⟩
  · simp only [hyk, if_false]
    exact ⟨by rw [Maps.has_put_other (litNe hyk)]; exact (hf y hy).1, fun z => by rw [Maps.atKey_put_other (litNe hyk)]; exact (hf y hy).2 z⟩

/-- 'delete(m, k)'. -/
theorem wp_del (hg : o.guard = none) (m x : Operand) (t e : TypeId) (hop : o.op = Op.call { callee := Callee.builtin Builtin.delete, args := #[m, x], argTypes := #[t, 3] }) (ht : Try.prog.underlying t = some (.map 3 e)) (R : MElem) (b n : Nat) (f : Int → Option (DataW Unit))
    (hm : a.eval m = .map (some b)) (h : MapIs w R b n f) (key : Int) (hk : W64 key) (hx : a.eval x = .int .i64 key)
    (hK : ∀ w', MapIs w' R b n (fun y => if y = key then none else f y) → w.grownBy w' (some b) → wpList Try.prog ops Q rest (a.put o.dst (.tuple #[])) w') :
    wpList Try.prog ops Q (o :: rest) a w := by
  obtain ⟨D, hD, hf⟩ := h
  refine wpList_delete_own w hg m x t 3 hop e keyInt ht R b n D hm hD (.int .i64 key) _ hx (keyOfI hk) (fun w' hD' hg' => hK w' ⟨_, hD', fun y hy => ?_⟩ hg'.grown)
  by_cases hyk : y = key
  · subst hyk
    simp only [if_true, Option.isSome_none, Option.getD_none]
    exact ⟨Maps.has_del_same, fun z => Maps.atKey_del_same _⟩
  · simp only [hyk, if_false]
    exact ⟨by rw [Maps.has_del_other (litNe hyk)]; exact (hf y hy).1, fun z => by rw [Maps.atKey_del_other (litNe hyk)]; exact (hf y hy).2 z⟩

/-- 'm[k]' of ints. -/
theorem wp_look (hg : o.guard = none) (m x : Operand) (hop : o.op = Op.lookup 96 m x false) (b n : Nat) (f : Int → Option Int)
    (hm : a.eval m = .map (some b)) (h : MapIs w intElem b n (fun y => (f y).map dI)) (key : Int) (hk : W64 key) (hx : a.eval x = .int .i64 key)
    (hK : wpList Try.prog ops Q rest (a.put o.dst (.int .i64 ((f key).getD 0))) w) :
    wpList Try.prog ops Q (o :: rest) a w := by
  obtain ⟨D, hD, hf⟩ := h
  refine wpList_lookup_own_int w hg m x 96 hop 3 3 .i64 keyInt Try.underlying96 Try.underlying3 (zero3 w) b n D hm hD (.int .i64 key) _ hx (keyOfI hk) (fun c hc _ => ?_)
  have h2 := (hf key hk).2 (dI 0)
  have e : c = (f key).getD 0 := by
    have h2' := hc.symm.trans h2
    cases hfk : f key <;> simp [hfk] at h2' ⊢ <;> exact h2'
  rw [e]; exact hK

/-- 'v, ok := m[k]' of ints. -/
theorem wp_look_ok (hg : o.guard = none) (m x : Operand) (hop : o.op = Op.lookup 96 m x true) (b n : Nat) (f : Int → Option Int)
    (hm : a.eval m = .map (some b)) (h : MapIs w intElem b n (fun y => (f y).map dI)) (key : Int) (hk : W64 key) (hx : a.eval x = .int .i64 key)
    (hK : wpList Try.prog ops Q rest (a.put o.dst (.tuple #[.int .i64 ((f key).getD 0), .bool (f key).isSome])) w) :
    wpList Try.prog ops Q (o :: rest) a w := by
  obtain ⟨D, hD, hf⟩ := h
  refine wpList_lookup_own_ok_int w hg m x 96 hop 3 3 .i64 keyInt Try.underlying96 Try.underlying3 (zero3 w) b n D hm hD (.int .i64 key) _ hx (keyOfI hk) (fun c hc _ => ?_)
  obtain ⟨h1, h2⟩ := hf key hk
  have h2 := h2 (dI 0)
  have e : c = (f key).getD 0 := by
    have h2' := hc.symm.trans h2
    cases hfk : f key <;> simp [hfk] at h2' ⊢ <;> exact h2'
  rw [e, h1]
  simpa using hK

/-- 'm[k]' of maps. -/
theorem wp_lookM (hg : o.guard = none) (m x : Operand) (t : TypeId) (hop : o.op = Op.lookup t m x false) (ht : Try.prog.underlying t = some (.map 3 96)) (b n : Nat) (f : Int → Option Nat)
    (hm : a.eval m = .map (some b)) (h : MapIs w mapElem b n (fun y => (f y).map fun c : Nat => dI (c : Int))) (key : Int) (hk : W64 key) (hx : a.eval x = .int .i64 key)
    (hK : wpList Try.prog ops Q rest (a.put o.dst (.map (f key))) w) :
    wpList Try.prog ops Q (o :: rest) a w := by
  obtain ⟨D, hD, hf⟩ := h
  refine wpList_plain hg fun K' hK' => ?_
  obtain ⟨v, ps, hrun, hv⟩ := hD.lookup keyInt ht (zero65 w) (show mapElem (.map none) = some (dI (-1), []) from rfl) (keyOfI hk)
  rw [(hf key hk).2] at hv
  have e : v = .map (f key) := by
    cases hfk : f key with
    | none => simp only [hfk, Option.map_none, Option.getD_none] at hv; exact mapElem_none hv
    | some c => simp only [hfk, Option.map_some, Option.getD_some] at hv; exact mapElem_some hv
  unfold Oper.wp
  simp [execOp, hop, hm, hx, hrun, Result.andThen]
  rw [e]
  exact hK' _ _ hK

/-- 'v, ok := m[k]' of maps. -/
theorem wp_lookM_ok (hg : o.guard = none) (m x : Operand) (t : TypeId) (hop : o.op = Op.lookup t m x true) (ht : Try.prog.underlying t = some (.map 3 96)) (b n : Nat) (f : Int → Option Nat)
    (hm : a.eval m = .map (some b)) (h : MapIs w mapElem b n (fun y => (f y).map fun c : Nat => dI (c : Int))) (key : Int) (hk : W64 key) (hx : a.eval x = .int .i64 key)
    (hK : wpList Try.prog ops Q rest (a.put o.dst (.tuple #[.map (f key), .bool (f key).isSome])) w) :
    wpList Try.prog ops Q (o :: rest) a w := by
  obtain ⟨D, hD, hf⟩ := h
  refine wpList_lookup_own_ok w hg m x t hop 3 96 keyInt ht mapElem (zero65 w) (dI (-1)) [] rfl b n D hm hD (.int .i64 key) _ hx (keyOfI hk) (fun v ps hv => ?_)
  rw [(hf key hk).2] at hv
  have e : v = .map (f key) := by
    cases hfk : f key with
    | none => simp only [hfk, Option.map_none, Option.getD_none] at hv; exact mapElem_none hv
    | some c => simp only [hfk, Option.map_some, Option.getD_some] at hv; exact mapElem_some hv
  rw [e, (hf key hk).1]
  simpa using hK

end

/-- 'v, ok := m[k]' of a nil map. -/
theorem look_nil_ok (w : World) (key : Int) (hk : W64 key) : (Instr.lookup 96 (.map none) (.int .i64 key) true).run Try.prog w = .ok (.tuple #[.int .i64 0, .bool false]) w :=
  Maps.look_nil true keyInt Try.underlying96 (zero3 w) (keyOfI hk)

end Go.Proofs.Ytfdaaeapfeajjaa
