/- The network without a road. -/
import Derived.Test.YtlkhgnglblgldaaW4
namespace Go.Proofs.Ytlkhgnglblgldaa
open Go.RowKit Go.Maps

def delE (g : Int → Int → Option Int) (a b : Int) : Int → Int → Option Int := fun x y => if x = a ∧ y = b then none else g x y

theorem NetAt.del {w w' : World} {nb n bs cnt g} (h : NetAt w nb n bs cnt g) {a b : Int} (h0 : 0 ≤ a) (h1 : a < n) (hm : MapIs w' intElem (bs a) cnt (fun y => if y = b then none else (g a y).map dI)) (hg : w.grownBy w' (some (bs a))) :
    NetAt w' nb n bs cnt (delE g a b) := by
  refine ⟨h.outer.kept hg (fun e => h.ne a h0 h1 (by injection e with e; exact e.symm)), fun t t0 t1 => ?_, h.inj, h.ne⟩
  by_cases e : t = a
  · subst e
    refine hm.congr fun x _ => ?_
    unfold delE
    by_cases hx : x = b
    · simp [hx]
    · simp [hx]
  · refine ((h.inner t t0 t1).kept hg (fun e' => e (h.inj t a t0 t1 h0 h1 (by injection e')))).congr fun x _ => ?_
    unfold delE
    simp [e]

section
variable (w : World) {ops : Array Oper} {rest : List Oper} {o : Oper} {a : Act} {Q : Exit → Act → World → Prop}

/-- 'delete(net[t], k)'. -/
theorem wp_delNet (hg : o.guard = none) (m x : Operand) (hop : o.op = Op.call { callee := Callee.builtin Builtin.delete, args := #[m, x], argTypes := #[89, 3] }) {nb : Nat} {n : Int} {bs : Int → Nat} {cnt : Nat} {g : Int → Int → Option Int} (t : Int) (hm : a.eval m = .map (some (bs t))) (key : Int) (hx : a.eval x = .int .i64 key)
    (h : NetAt w nb n bs cnt g) (h0 : 0 ≤ t) (h1 : t < n) (wk : W64 key)
    (hK : ∀ w', NetAt w' nb n bs cnt (delE g t key) → w.grownBy w' (some (bs t)) → wpList Try.prog ops Q rest (a.put o.dst (.tuple #[])) w') : wpList Try.prog ops Q (o :: rest) a w := by
  refine wp_del w hg m x _ 3 hop Try.underlying89 intElem (bs t) cnt _ hm (h.inner t h0 h1) key wk hx (fun w' hm' hg' => hK w' (h.del h0 h1 hm' hg') hg')

end

def partE (g : Int → Int → Option Int) (a b : Int) : Int → Int → Option Int := delE (delE g a b) b a

set_option maxRecDepth 100000 in
set_option maxHeartbeats 400000 in
theorem part_any (nb : Nat) (n : Int) (bs : Int → Nat) (cnt : Nat) (g : Int → Int → Option Int) (a b m : Int) (w : World) (h : NetAt w nb n bs cnt g) (ha0 : 0 ≤ a) (ha1 : a < n) (hb0 : 0 ≤ b) (hb1 : b < n) (hn : n ≤ 8) :
    Calls Try.prog 67 #[.map (some nb), .agg #[.int .i64 a, .int .i64 b, .int .i64 m]] w (JoinOut nb n bs cnt (partE g a b) a b w) := by
  have wa : W64 a := by unfold W64; omega
  have wb : W64 b := by unfold W64; omega
  have la := (h.inner a ha0 ha1).lt
  have hbox : ∀ w', (w.alloc (.cells #[.int .i64 a, .int .i64 b, .int .i64 m] 49)).grownBy w' (some (bs a)) → w'.cell? ⟨w.heap.size, 0, none⟩ = some (.int .i64 a) ∧ w'.cell? ⟨w.heap.size, 1, none⟩ = some (.int .i64 b) ∧ w'.cell? ⟨w.heap.size, 2, none⟩ = some (.int .i64 m) := fun w' hg =>
    ⟨hg.cell (by simp) (by simp; omega), hg.cell (by simp) (by simp; omega), hg.cell (by simp) (by simp; omega)⟩
  have Hbox := Lib.hid hbox; clear hbox
  have tok1 : True := trivial
  have h1 := h.below ((Below.refl _ w).alloc (Nat.le_refl _) (.cells #[.int .i64 a, .int .i64 b, .int .i64 m] 49))
  clear h la
  go_enter Try.func67, Try.ntmps67
  go_wp2_with (first | (at_lookup; refine wp_lookNet _ rfl _ _ rfl rfl _ rfl (by assumption) (by assumption) (by assumption) hn ?_) | (at_delete; refine wp_delNet _ rfl _ _ rfl _ rfl _ rfl (by assumption) (by assumption) (by assumption) (by assumption) ?_; first | (clear tok1; intro w1 hn1 hg1; obtain ⟨c0, c1, c2⟩ := Hbox.out _ hg1) | (intro w2 hn2 hg2)))
  go_end0
  exact ⟨rfl, hn2, (Touch.of_below ((Below.refl _ _).alloc (Nat.le_refl _) _)).trans ((Touch.grown hg1 (.inl rfl)).trans (Touch.grown hg2 (.inr rfl)))⟩

end Go.Proofs.Ytlkhgnglblgldaa
