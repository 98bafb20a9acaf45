/- Maps keyed by int, of function values that have captured two or three addresses. -/
import Derived.Test.YthhllpnbmelidaaM
import Derived.Test.YthhllpnbmelidaaTC
import Derived.Maps.OwnOps
import Derived.Maps.OwnSet
import Derived.Maps.Views
import Derived.Maps.RangeWalk
namespace Go.Proofs.Ythhllpnbmelidaa
open Go.RowKit Go.Maps
set_option linter.unusedVariables false
set_option linter.unusedSimpArgs false

abbrev MElem := Value → Option (DataW Unit × List MemPlace)

theorem keyInt : Keyed Try.prog 3 := int_keyed Try.underlying3

theorem i64min : IntKind.i64.min = -9223372036854775808 := by decide
theorem i64max : IntKind.i64.max = 9223372036854775807 := by decide

theorem wf_of {x : Int} (h : W64 x) : (Lit.int .i64 x).wf = true := by
  unfold W64 at h
  simp [Lit.wf, i64min]
  omega

theorem of_wf {x : Int} (h : (Lit.int .i64 x).wf = true) : W64 x := by
  unfold W64
  simp [Lit.wf, i64min] at h
  omega

theorem keyOfI {x : Int} (h : W64 x) : keyOf Try.prog 3 (.int .i64 x) = some (.int .i64 x) := keyOf_int_mk Try.underlying3 (wf_of h)

/-- Block b is a map of at most n entries that reads as the function f. -/
def MapIs (w : World) (R : MElem) (b n : Nat) (f : Int → Option (DataW Unit)) : Prop :=
  ∃ D, w.ownsMap Try.prog 3 R b n D ∧ ∀ x, W64 x → Maps.has D (.int .i64 x) = (f x).isSome ∧ ∀ z, D.atKey (.int .i64 x) z = (f x).getD z

/-- The datum of an int. -/
abbrev dI (x : Int) : DataW Unit := .lit (.int .i64 x)

theorem MapIs.made (w : World) (R : MElem) : MapIs (w.alloc (.map #[] 0)) R w.heap.size 0 (fun _ => none) :=
  ⟨_, World.ownsMap_made w _ _ R, fun _ _ => ⟨rfl, fun _ => rfl⟩⟩

theorem MapIs.kept {w w' : World} {R : MElem} {b n : Nat} {f} (h : MapIs w R b n f) {row : Option Nat} (hg : w.grownBy w' row) (hne : some b ≠ row) : MapIs w' R b n f := by
  obtain ⟨D, hD, hf⟩ := h
  exact ⟨D, hD.kept hg hne, hf⟩

theorem MapIs.lt {w : World} {R : MElem} {b n : Nat} {f} (h : MapIs w R b n f) : b < w.heap.size := by
  obtain ⟨D, hD, _⟩ := h
  exact hD.lt

theorem MapIs.below {w w' : World} {R : MElem} {b n : Nat} {f} (h : MapIs w R b n f) {B : Nat} (hb : Below B w w') (hlt : b < B) : MapIs w' R b n f := by
  obtain ⟨D, ⟨es, clock, he, r⟩, hf⟩ := h
  exact ⟨D, ⟨es, clock, (hb.block b hlt).trans he, r⟩, hf⟩

theorem MapIs.alloc {w : World} {R : MElem} {b n : Nat} {f} (h : MapIs w R b n f) (o : Obj) : MapIs (w.alloc o) R b n f :=
  h.below ((Below.refl _ _).alloc (Nat.le_refl _) o) h.lt

theorem MapIs.setCell {w : World} {R : MElem} {b n : Nat} {f} (h : MapIs w R b n f) {a : Addr} (ha : b ≠ a.block) (u : Value) : MapIs (w.setCell a u) R b n f := by
  obtain ⟨D, hD, hf⟩ := h
  exact ⟨D, hD.setCell ha u, hf⟩

theorem MapIs.mono {w : World} {R : MElem} {b n n' : Nat} {f} (h : MapIs w R b n f) (hn : n ≤ n') : MapIs w R b n' f := by
  obtain ⟨D, hD, hf⟩ := h
  exact ⟨D, hD.mono hn, hf⟩

theorem MapIs.congr {w : World} {R : MElem} {b n : Nat} {f f'} (h : MapIs w R b n f) (hf : ∀ x, W64 x → f' x = f x) : MapIs w R b n f' := by
  obtain ⟨D, hD, hg⟩ := h
  exact ⟨D, hD, fun x hx => by rw [hf x hx]; exact hg x hx⟩

theorem litNe {x y : Int} (h : x ≠ y) : (Lit.int .i64 x) ≠ (Lit.int .i64 y) := fun e => h (by injection e)

theorem isKey (x : Int) : WideAt.IsKeyLit (.int .i64 x) := trivial

section
variable (w : World) {ops : Array Oper} {rest : List Oper} {o : Oper} {a : Act} {Q : Exit → Act → World → Prop}

/-- 'm[k] = v'. -/
theorem wp_put (hg : o.guard = none) (m x v : Operand) (t e : TypeId) (hop : o.op = Op.mapUpdate t m x v) (ht : Try.prog.underlying t = some (.map 3 e)) (R : MElem) (b n : Nat) (f : Int → Option (DataW Unit))
    (hm : a.eval m = .map (some b)) (h : MapIs w R b n f) (hn : n < maxLen) (key : Int) (hk : W64 key) (val : Value) (hx : a.eval x = .int .i64 key) (hv : a.eval v = val) (d : DataW Unit) (hval : R val = some (d, []))
    (hK : ∀ w', MapIs w' R b (n + 1) (fun y => if y = key then some d else f y) → w.grownBy w' (some b) → wpList Try.prog ops Q rest (a.put o.dst undef) w') :
    wpList Try.prog ops Q (o :: rest) a w := by
  obtain ⟨D, hD, hf⟩ := h
  refine wpList_mapUpdate_own w hg m x v t hop 3 e keyInt ht R b n D hm hD hn (.int .i64 key) val _ hx hv (keyOfI hk) d [] hval (fun w' hD' hg' => hK w' ⟨_, hD', fun y hy => ?_⟩ hg')
  by_cases hyk : y = key
  · subst hyk
    simp only [if_true, Option.isSome_some, Option.getD_some]
    exact ⟨Maps.has_put_same hD.isMap (isKey _) _, fun z => Maps.atKey_put_same hD.isMap (isKey _) _ _⟩
  · simp only [hyk, if_false]
    exact ⟨by rw [Maps.has_put_other (litNe hyk)]; exact (hf y hy).1, fun z => by rw [Maps.atKey_put_other (litNe hyk)]; exact (hf y hy).2 z⟩

end

/-- A function with two captured addresses. -/
def kv2 (F x y : Nat) : Value := .func (.func F) #[] #[.pointer (some ⟨x, 0, none⟩), .pointer (some ⟨y, 0, none⟩)]
def kv3 (F x y z : Nat) : Value := .func (.func F) #[] #[.pointer (some ⟨x, 0, none⟩), .pointer (some ⟨y, 0, none⟩), .pointer (some ⟨z, 0, none⟩)]
def pr2 (x y : Nat) : DataW Unit := .agg [dI x, dI y]
def pr3 (x y z : Nat) : DataW Unit := .agg [dI x, dI y, dI z]
theorem kv2_inj {F x y x' y' : Nat} (h : kv2 F x y = kv2 F x' y') : x = x' ∧ y = y' := by
  unfold kv2 at h
  simp at h
  exact h
theorem kv3_inj {F x y z x' y' z' : Nat} (h : kv3 F x y z = kv3 F x' y' z') : x = x' ∧ y = y' ∧ z = z' := by
  unfold kv3 at h
  simp at h
  exact h
open Classical in
noncomputable def fnE2 (F : Nat) : MElem := fun v => if h : ∃ p : Nat × Nat, v = kv2 F p.1 p.2 then some (pr2 h.choose.1 h.choose.2, []) else if v = .nilFunc then some (dI (-1), []) else none
open Classical in
noncomputable def fnE3 (F : Nat) : MElem := fun v => if h : ∃ p : Nat × Nat × Nat, v = kv3 F p.1 p.2.1 p.2.2 then some (pr3 h.choose.1 h.choose.2.1 h.choose.2.2, []) else if v = .nilFunc then some (dI (-1), []) else none
theorem fnE2_kv (F x y : Nat) : fnE2 F (kv2 F x y) = some (pr2 x y, []) := by
  unfold fnE2
  have h : ∃ p : Nat × Nat, kv2 F x y = kv2 F p.1 p.2 := ⟨(x, y), rfl⟩
  rw [dif_pos h]
  obtain ⟨e1, e2⟩ := kv2_inj h.choose_spec
  rw [← e1, ← e2]
theorem fnE3_kv (F x y z : Nat) : fnE3 F (kv3 F x y z) = some (pr3 x y z, []) := by
  unfold fnE3
  have h : ∃ p : Nat × Nat × Nat, kv3 F x y z = kv3 F p.1 p.2.1 p.2.2 := ⟨(x, y, z), rfl⟩
  rw [dif_pos h]
  obtain ⟨e1, e2, e3⟩ := kv3_inj h.choose_spec
  rw [← e1, ← e2, ← e3]
theorem fnE2_nil (F : Nat) : fnE2 F .nilFunc = some (dI (-1), []) := by
  unfold fnE2
  rw [dif_neg (by rintro ⟨p, h⟩; unfold kv2 at h; cases h), if_pos rfl]
theorem fnE3_nil (F : Nat) : fnE3 F .nilFunc = some (dI (-1), []) := by
  unfold fnE3
  rw [dif_neg (by rintro ⟨p, h⟩; unfold kv3 at h; cases h), if_pos rfl]
theorem fnE2_inv {F x y : Nat} {v : Value} {ps : List MemPlace} (h : fnE2 F v = some (pr2 x y, ps)) : v = kv2 F x y := by
  unfold fnE2 at h
  split at h
  · rename_i hp
    simp only [Option.some.injEq, Prod.mk.injEq, pr2, DataW.agg.injEq, List.cons.injEq, DataW.lit.injEq, Lit.int.injEq, true_and, and_true] at h
    have hs := hp.choose_spec
    rw [hs]
    congr 1 <;> omega
  · split at h
    · simp [pr2] at h
    · cases h
theorem fnE3_inv {F x y z : Nat} {v : Value} {ps : List MemPlace} (h : fnE3 F v = some (pr3 x y z, ps)) : v = kv3 F x y z := by
  unfold fnE3 at h
  split at h
  · rename_i hp
    simp only [Option.some.injEq, Prod.mk.injEq, pr3, DataW.agg.injEq, List.cons.injEq, DataW.lit.injEq, Lit.int.injEq, true_and, and_true] at h
    have hs := hp.choose_spec
    rw [hs]
    congr 1 <;> omega
  · split at h
    · simp [pr3] at h
    · cases h
/-- 'm[k]' of functions. -/
theorem MapIs.look2 {w : World} {F b n : Nat} {f : Int → Option (DataW Unit)} (h : MapIs w (fnE2 F) b n f) {t e : TypeId} (ht : Try.prog.underlying t = some (.map 3 e)) (hz : (zeroValue e).run Try.prog w = .ok .nilFunc w) {key : Int} (hk : W64 key) {x y : Nat} (hf : f key = some (pr2 x y)) :
    (Instr.lookup t (.map (some b)) (.int .i64 key) false).run Try.prog w = .ok (kv2 F x y) w := by
  obtain ⟨D, hD, hg⟩ := h
  obtain ⟨v, ps, hrun, hv⟩ := hD.lookup keyInt ht hz (fnE2_nil F) (keyOfI hk)
  rw [(hg key hk).2, hf] at hv
  rw [hrun, fnE2_inv hv]
theorem MapIs.look3 {w : World} {F b n : Nat} {f : Int → Option (DataW Unit)} (h : MapIs w (fnE3 F) b n f) {t e : TypeId} (ht : Try.prog.underlying t = some (.map 3 e)) (hz : (zeroValue e).run Try.prog w = .ok .nilFunc w) {key : Int} (hk : W64 key) {x y z : Nat} (hf : f key = some (pr3 x y z)) :
    (Instr.lookup t (.map (some b)) (.int .i64 key) false).run Try.prog w = .ok (kv3 F x y z) w := by
  obtain ⟨D, hD, hg⟩ := h
  obtain ⟨v, ps, hrun, hv⟩ := hD.lookup keyInt ht hz (fnE3_nil F) (keyOfI hk)
  rw [(hg key hk).2, hf] at hv
  rw [hrun, fnE3_inv hv]
theorem MapIs.touch8 {w w' : World} {R : MElem} {b n : Nat} {f : Int → Option (DataW Unit)} {S : Nat → Prop} (h : MapIs w R b n f) (ht : Touch S w w') (hn : ¬ S b) : MapIs w' R b n f := by
  have hl := h.lt
  obtain ⟨D, ⟨es, clock, he, r⟩, hf⟩ := h
  exact ⟨D, ⟨es, clock, (ht.block b hl hn).trans he, r⟩, hf⟩
theorem MapIs.ne_whole {w : World} {R : MElem} {b n g : Nat} {f : Int → Option (DataW Unit)} {t : TypeId} {cs : Array Value} (h : MapIs w R b n f) (hw : Whole w g t cs) : b ≠ g := by
  obtain ⟨D, ⟨es, clock, he, r⟩, hf⟩ := h
  rintro rfl
  unfold Whole at hw
  rw [he] at hw
  cases hw
theorem zeroK (w : World) : (zeroValue 95).run Try.prog w = .ok .nilFunc w := by kernel_rfl
theorem zeroP (w : World) : (zeroValue 105).run Try.prog w = .ok .nilFunc w := by kernel_rfl

end Go.Proofs.Ythhllpnbmelidaa
