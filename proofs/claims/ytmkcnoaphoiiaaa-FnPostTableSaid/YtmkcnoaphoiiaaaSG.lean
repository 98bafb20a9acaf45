/- StopsWait: program and model. -/
import Derived.Test.YtmkcnoaphoiiaaaSC
import Derived.Test.YtmkcnoaphoiiaaaSD
import Derived.LaidEqlPtr
namespace Go.Proofs.Ytmkcnoaphoiiaaa
open Go.RowKit

/-- The waits at the stops 1 to k. -/
def waitTo (l : List Rd) : Nat → Int
  | 0 => 0
  | k + 1 => waitTo l k + ((l.getD (k + 1) rd0).m - (l.getD (k + 1) rd0).b)

def waitV (n : Int) (l : List Rd) : Int := if validS n l = true then waitTo l (l.length - 2) else -1

theorem waitTo_bd {n : Int} {l : List Rd} (h : validS n l = true) : ∀ (k : Nat), k + 1 ≤ l.length → 0 ≤ waitTo l k ∧ waitTo l k ≤ 10000 * k
  | 0, _ => ⟨Int.le_refl _, by show (0 : Int) ≤ _; omega⟩
  | k + 1, hk => by
    have h1 := waitTo_bd h k (by omega)
    have h2 := validS_at h (show k + 1 < l.length by omega)
    show 0 ≤ waitTo l k + _ ∧ waitTo l k + _ ≤ _
    omega

theorem neq_ptr_other {P : Program} (w : World) {tp te : TypeId} {j : TypeInfo} {x y : Nat} {cx cy : Array Value} {tx ty : TypeId} (hp : P.underlying tp = some (.pointer te)) (hte : P.info? te = some j) (hsz : j.size ≠ 0)
    (hne : x ≠ y) (hx : Whole w x tx cx) (hy : Whole w y ty cy) :
    (binOp .neq tp (.pointer (some ⟨x, 0, none⟩)) (.pointer (some ⟨y, 0, none⟩))).run P w = .ok (.bool true) w := by
  have hne' : (⟨x, 0, none⟩ : Addr) ≠ ⟨y, 0, none⟩ := fun e => hne (by injection e)
  have h : ∀ d : Nat, (Op.equalIn (d + 1) tp (.pointer (some ⟨x, 0, none⟩)) (.pointer (some ⟨y, 0, none⟩))).run P w = .ok false w := fun d => by
    simp [Op.equalIn, run_underlying hp, sizeOf, typeInfo, hte, hsz, run_sameAddr_other w hne' hx hy]
  simp only [binOp]
  simp [Op.equal, Op.maxDepth, h 9999]

theorem neq_ptr_same {P : Program} (w : World) {tp te : TypeId} {j : TypeInfo} (a : Addr) (hp : P.underlying tp = some (.pointer te)) (hte : P.info? te = some j) :
    (binOp .neq tp (.pointer (some a)) (.pointer (some a))).run P w = .ok (.bool false) w := by
  have h : ∀ d : Nat, (Op.equalIn (d + 1) tp (.pointer (some a)) (.pointer (some a))).run P w = .ok true w := fun d => by
    simp [Op.equalIn, run_underlying hp, sizeOf, typeInfo, hte, run_sameAddr_same]
  simp only [binOp]
  simp [Op.equal, Op.maxDepth, h 9999]

theorem haltInfo : (Try.prog.info? 123).map (fun i => i.size) = some 6 := by kernel_rfl

def W2Rel (l : List Rd) (tb : Nat) (hs : List Nat) (w : World) (gk : Nat) (sv hv : Value) (wr : World) : Prop :=
  ∃ j : Nat, j + 2 + gk = l.length ∧ sv = .int .i64 (waitTo l j) ∧ hv = .pointer (some ⟨hs.getD (j + 1) 0, 0, none⟩) ∧ TT wr tb hs l ∧ Below w.heap.size w wr

def W1Rel (l : List Rd) (w : World) (sv iv : Value) (wr : World) : Prop :=
  ∃ k j : Nat, k = j + 1 ∧ k + 1 ≤ l.length ∧ iv = .int .i64 k ∧ sv = .int .i64 (waitTo l j) ∧ Below w.heap.size w wr

end Go.Proofs.Ytmkcnoaphoiiaaa
