/- Calls that only read: the word; l6In, isTime, restFits, teamFits so. -/
import Derived.Test.YtmdcpigobfhckaaCI
namespace Go.Proofs.Ytmdcpigobfhckaa
open Go.RowKit

/-- The call gives v and writes nothing. -/
def Quiet (v : Value) (w : World) (e : Ending) (w' : World) : Prop := e = .returned v ∧ ∃ m, w' = w.drewN m

/-- Nothing has been written since. -/
def Drewn (w w' : World) : Prop := ∃ m, w' = w.drewN m
theorem Drewn.refl (w : World) : Drewn w w := ⟨0, rfl⟩
theorem Drewn.below {w w' : World} (h : Drewn w w') : Below w.heap.size w w' := by obtain ⟨m, rfl⟩ := h; exact (Below.refl _ _).drewN m
theorem Drewn.drewN {w w' : World} (h : Drewn w w') (n : Nat) : Drewn w (w'.drewN n) := by obtain ⟨m, rfl⟩ := h; exact ⟨m + n, World.drewN_drewN w m n⟩
theorem Drewn.trans {w w' w2 : World} (h : Drewn w w') (k : Drewn w' w2) : Drewn w w2 := by obtain ⟨n, rfl⟩ := k; exact h.drewN n

theorem Quiet.gives {v : Value} {w w' : World} {e : Ending} (h : Quiet v w e w') : Gives v w e w' := by
  obtain ⟨he, m, rfl⟩ := h
  exact ⟨he, (Below.refl _ _).drewN m⟩

theorem _root_.Go.Calls.gives {P : Program} {f : FuncId} {args : Array Value} {w : World} {v : Value} (h : Calls P f args w (Quiet v w)) : Calls P f args w (Gives v w) :=
  h.mono fun _ _ h => h.gives

theorem _root_.Go.Calls.hush {P : Program} {f : FuncId} {args : Array Value} {w : World} {n : Nat} {v : Value} (h : Calls P f args (w.drewN n) (Quiet v (w.drewN n))) :
    Calls P f args (w.drewN n) fun e w'' => e = .returned v ∧ ∃ m, w'' = w.drewN m := Calls.quiet_of h

theorem quiet_same {P : Program} {f : FuncId} {args : Array Value} {w : World} {v : Value} (h : Calls P f args w fun e w' => e = .returned v ∧ w = w') : Calls P f args w (Quiet v w) :=
  h.mono fun _ w' ⟨he, hw⟩ => ⟨he, 0, by rw [hw]; rfl⟩

theorem drewN_add {w : World} {a b : Nat} : (w.drewN a).drewN b = w.drewN (a + b) := World.drewN_drewN w a b

theorem l6In_q (x lo hi : Int) (w : World) : Calls Try.prog 71 #[.int .i64 x, .int .i64 lo, .int .i64 hi] w (Quiet (.bool (inB x lo hi)) w) := quiet_same (l6In_any x lo hi w)
theorem l6In_qy (x lo hi : Int) (w : World) (h : lo ≤ x ∧ x ≤ hi) : Calls Try.prog 71 #[.int .i64 x, .int .i64 lo, .int .i64 hi] w (Quiet (.bool true) w) := quiet_same (l6In_yes x lo hi w h)
theorem l6In_qn (x lo hi : Int) (w : World) (h : ¬ (lo ≤ x ∧ x ≤ hi)) : Calls Try.prog 71 #[.int .i64 x, .int .i64 lo, .int .i64 hi] w (Quiet (.bool false) w) := quiet_same (l6In_no x lo hi w h)

end Go.Proofs.Ytmdcpigobfhckaa
