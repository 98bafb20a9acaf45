/- What heaps of both kinds have in common. -/
import Derived.Test.YtmdcpigobfhckaaTC
import Derived.Test.YtmdcpigobfhckaaH
import Derived.WalkKit
import Derived.WalkSpells
import Derived.WalkLawsBesides
import Derived.IntWalk
import Derived.Deep.QuietTactic
import Derived.BigQuiet
import Derived.BigRegion
import Derived.Deep.RegionHeld3
import Derived.Deep.AppendLies
import Derived.Deep.RegionLaw
import Derived.Outline
namespace Go.Proofs.Ytmdcpigobfhckaa
open Go.RowKit

theorem heap_set1 (w : World) (g i : Nat) (cs : Array Value) (t : TypeId) (v : Value) (hg : w.heap[g]? = some (.cells cs t (0, 0))) : (w.setCell ⟨g, i, none⟩ v).heap[g]? = some (.cells (cs.setIfInBounds i v) t (0, 0)) :=
  heap_setCell_same w g i cs t v hg

theorem Touch.drewN {S : Nat → Prop} {w w' : World} (h : Touch S w w') (n : Nat) : Touch S w (w'.drewN n) := ⟨h.os, h.tape, h.output, h.size, h.block⟩
theorem Touch.drew {S : Nat → Prop} {w w' : World} (h : Touch S w w') : Touch S w w'.drew := ⟨h.os, h.tape, h.output, h.size, h.block⟩
theorem Touch.bel {S : Nat → Prop} {w w' w2 : World} (h : Touch S w w') (hb : Below w'.heap.size w' w2) : Touch S w w2 := h.trans (Touch.of_below hb)
theorem Touch.cell {S : Nat → Prop} {w w' : World} (h : Touch S w w') {b o : Nat} (hb : b < w.heap.size) (hS : ¬ S b) : w'.cell? ⟨b, o, none⟩ = w.cell? ⟨b, o, none⟩ := World.cell?_of_block (a := ⟨b, o, none⟩) (h.block b hb hS)
theorem Touch.frozen {S : Nat → Prop} {w w' : World} (h : Touch S w w') {b o : Nat} (hb : b < w.heap.size) (hS : ¬ S b) : w'.frozen? ⟨b, o, none⟩ = w.frozen? ⟨b, o, none⟩ := World.frozen?_of_block (a := ⟨b, o, none⟩) (h.block b hb hS)
theorem Touch.mono {S T : Nat → Prop} {w w' : World} (h : Touch S w w') (hT : ∀ j, S j → T j) : Touch T w w' := ⟨h.os, h.tape, h.output, h.size, fun j hj hs => h.block j hj (fun h' => hs (hT j h'))⟩

/-- Among j's first children, up to k, nx is the least; j itself counts. -/
structure NextOk (l : List Pl) (n j nx k : Nat) : Prop where
  lo : 2 * j + 1 ≤ k
  hi : k ≤ 2 * j + 3
  at_ : nx = j ∨ (2 * j + 1 ≤ nx ∧ nx < k ∧ nx < n ∧ farAt l nx < farAt l j)
  le : farAt l nx ≤ farAt l j
  min : ∀ c, 2 * j + 1 ≤ c → c < k → c < n → farAt l nx ≤ farAt l c

theorem NextOk.start (l : List Pl) (n j : Nat) : NextOk l n j j (2 * j + 1) := ⟨Nat.le_refl _, by omega, .inl rfl, Int.le_refl _, fun c h1 h2 => by omega⟩
theorem NextOk.bounds {l : List Pl} {n j nx k : Nat} (h : NextOk l n j nx k) : 2 * j + 1 ≤ k ∧ k ≤ 2 * j + 3 ∧ (nx = j ∨ (nx < n ∧ j < nx)) := ⟨h.lo, h.hi, by rcases h.at_ with h | h <;> omega⟩
theorem NextOk.yes {l : List Pl} {n j nx k : Nat} (h : NextOk l n j nx k) (hk : k ≤ 2 * j + 2) (hn : k < n) (hd : farAt l k < farAt l nx) : NextOk l n j k (k + 1) :=
  ⟨by have := h.lo; omega, by omega, .inr ⟨h.lo, by omega, hn, by have := h.le; omega⟩, by have := h.le; omega, fun c h1 h2 h3 => by
    by_cases e : c = k
    · subst e; omega
    · have := h.min c h1 (by omega) h3; omega⟩
theorem NextOk.no {l : List Pl} {n j nx k : Nat} (h : NextOk l n j nx k) (hd : ¬ farAt l k < farAt l nx) (hk : k ≤ 2 * j + 2) : NextOk l n j nx (k + 1) :=
  ⟨by have := h.lo; omega, by omega, by rcases h.at_ with h | h <;> omega, h.le, fun c h1 h2 h3 => by
    by_cases e : c = k
    · subst e; omega
    · exact h.min c h1 (by omega) h3⟩
theorem NextOk.finish {l : List Pl} {n j nx k : Nat} (h : NextOk l n j nx k) (hd : DownOk l n j) (hk : ¬ (k ≤ 2 * j + 2 ∧ k < n)) (hn : n ≤ l.length) :
    nx = j ∧ HeapTo l n ∨ (j < nx ∧ nx < n ∧ DownOk (swapL l j nx) n nx) := by
  have hlo := h.lo
  have hhi := h.hi
  have hall : ∀ c, 0 < c → c < n → (c - 1) / 2 = j → farAt l nx ≤ farAt l c := fun c h0 hc hp => h.min c (by omega) (by omega) hc
  rcases h.at_ with e | ⟨h1, h2, h3, h4⟩
  · refine .inl ⟨e, hd.done fun c h0 hc hp => ?_⟩
    have := hall c h0 hc hp
    rw [e] at this; exact this
  · exact .inr ⟨by omega, h3, hd.step hn (by omega) h3 (by omega) h4 hall⟩

theorem touch_fresh {S : Nat → Prop} {w w' : World} (h : Touch S w w') {a : Addr} (ha : w.heap.size ≤ a.block) (v : Value) : Touch S w (w'.setCell a v) :=
  ⟨h.os, h.tape, h.output, by simpa [World.setCell] using h.size, fun j hj hs => (Below.heap_setCell _ _ _ _ (by omega)).trans (h.block j hj hs)⟩

theorem DownOk.take0 {l : List Pl} {n : Nat} (h : DownOk l n 0) : DownOk (l.take n) n 0 := by
  have e : ∀ k, k < n → farAt (l.take n) k = farAt l k := fun k hk => by simp [farAt, List.getD, hk]
  refine ⟨fun k hk hkn hp => ?_, fun k _ _ _ h0 => by omega⟩
  rw [e k hkn, e _ (by omega)]
  exact h.1 k hk hkn hp

theorem news2d (w0 : World) (A : Obj) (cs : Array Value) (t : TypeId) : ∀ j u, cs.toList[j]? = some u → (((w0.alloc A).drew).alloc (.cells cs t)).cell? ((⟨w0.heap.size + 1, 0, none⟩ : Addr).add j) = some u := fun j u hj => by
  have h := news1 ((w0.alloc A).drew) cs t j u hj
  simpa using h

/-- What a row that grows elsewhere leaves of a block. -/
theorem push_whole {w wa w1 : World} {k X : Nat} {ow : Option Nat} {t : TypeId} {cs : Array Value} (hg : wa.grownBy w1 ow) (_hs : wa.heap.size = w.heap.size + k) (hk : ∀ j, j < w.heap.size → wa.heap[j]? = w.heap[j]?) (h : Whole w X t cs) (hne : ow ≠ some X) : Whole w1 X t cs := by
  have hX := h.lt
  exact (hg.block X (by omega) (fun e => hne e.symm)).trans ((hk X hX).trans h)

theorem push_touch {w wa w1 : World} {k X : Nat} {ow : Option Nat} {t : TypeId} {cs : Array Value} (hg : wa.grownBy w1 ow) (hs : wa.heap.size = w.heap.size + k) (hk : wa.os = w.os ∧ wa.tape = w.tape ∧ wa.output = w.output ∧ ∀ j, j < w.heap.size → wa.heap[j]? = w.heap[j]?) (_h : Whole w X t cs) {i : Nat} {u : Value} :
    Touch (fun k => k = X ∨ ow = some k) w (w1.setCell ⟨X, i, none⟩ u) := by
  refine ⟨hg.os.trans hk.1, hg.tape.trans hk.2.1, hg.output.trans hk.2.2.1, by have := hg.size; simp only [World.size_setCell]; omega, fun j hj hn => ?_⟩
  rw [Below.heap_setCell _ _ _ _ (fun e => hn (.inl e)), hg.block j (by omega) (fun e => hn (.inr e.symm))]
  exact hk.2.2.2 j hj

theorem Whole.keptT {w w' : World} {X : Nat} {t : TypeId} {cs : Array Value} {S : Nat → Prop} (h : Whole w X t cs) (ht : Touch S w w') (hS : ¬ S X) : Whole w' X t cs := (ht.block X h.lt hS).trans h

theorem Touch.trans2 {S T : Nat → Prop} {a b c : World} (h : Touch S a b) (k : Touch T b c) (hT : ∀ j, T j → j < a.heap.size → S j) : Touch S a c :=
  ⟨k.os.trans h.os, k.tape.trans h.tape, k.output.trans h.output, Nat.le_trans h.size k.size, fun j hj hs => (k.block j (Nat.lt_of_lt_of_le hj h.size) (fun ht => hs (hT j ht hj))).trans (h.block j hj hs)⟩

theorem swapL_comm (l : List Pl) (i j : Nat) : swapL l i j = swapL l j i := by
  unfold swapL
  by_cases e : i = j
  · subst e; rfl
  · exact List.set_comm _ _ e

theorem swapL_perm (l : List Pl) {i j : Nat} (hi : i < l.length) (hj : j < l.length) : (swapL l i j).Perm l := by
  unfold swapL
  rw [getP l hi, getP l hj]
  exact List.set_set_perm hi hj

end Go.Proofs.Ytmdcpigobfhckaa
