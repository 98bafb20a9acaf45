/- A region that draws its order and appends: 'append(append([]T{}, l...), r)', step by step. -/
import Derived.Test.YtmdcpigobfhckaaTC
import Derived.Test.YtmdcpigobfhckaaHD
import Derived.Laws.AppendOwn
import Derived.Maps.AppendAt
import Derived.Deep.AppendLies
namespace Go.Proofs.Ytmdcpigobfhckaa
open Go.RowKit

/-- What such a region has made: the row A (slice, length, cells), the cells N of a block of their own; all above B of the world X. -/
structure Mk (X : World) (B : Nat) (e : TypeId) (c : Nat) (w : World) (A : Option (Value × Nat × List Value)) (N : Option (Nat × List Value)) : Prop where
  base : B ≤ X.heap.size
  bel : Below B X w
  own : ∀ v n xs, A = some (v, n, xs) → w.ownsRow B e c v n xs
  new : ∀ b cs, N = some (b, cs) → B ≤ b ∧ b < w.heap.size ∧ (∀ j u, cs[j]? = some u → w.cell? ((⟨b, 0, none⟩ : Addr).add j) = some u) ∧ ∀ v n xs, A = some (v, n, xs) → v.ownBlock ≠ some b

section
variable {X : World} {B : Nat} {e : TypeId} {c : Nat} {w : World} {A : Option (Value × Nat × List Value)} {N : Option (Nat × List Value)}

theorem Mk.start (X : World) (B : Nat) (e : TypeId) (c : Nat) (h : B ≤ X.heap.size) : Mk X B e c X none none :=
  ⟨h, Below.refl _ _, fun _ _ _ h => (by cases h), fun _ _ h => (by cases h)⟩
theorem Mk.size (h : Mk X B e c w A N) : B ≤ w.heap.size := Nat.le_trans h.base h.bel.size
theorem Mk.drew (h : Mk X B e c w A N) : Mk X B e c w.drew A N :=
  ⟨h.base, h.bel.drew, h.own, h.new⟩
theorem Mk.dropN (h : Mk X B e c w A N) : Mk X B e c w A none := ⟨h.base, h.bel, h.own, fun _ _ h => (by cases h)⟩

theorem addr_add0 (b n : Nat) : ((⟨b, 0, none⟩ : Addr).add n) = ⟨b, n, none⟩ := by
  unfold Addr.add
  split
  · rename_i h; rw [h]
  · simp
theorem addr_blk (a : Addr) (n : Nat) : (a.add n).block = a.block := by unfold Addr.add; split <;> rfl

theorem new_alloc {w : World} {b : Nat} {cs : List Value} (o : Obj) (h : b < w.heap.size) (hc : ∀ j u, cs[j]? = some u → w.cell? ((⟨b, 0, none⟩ : Addr).add j) = some u) : ∀ j u, cs[j]? = some u → (w.alloc o).cell? ((⟨b, 0, none⟩ : Addr).add j) = some u := fun j u hj => by
  rw [((Below.refl w.heap.size w).alloc (Nat.le_refl _) o).cell (p := (⟨b, 0, none⟩ : Addr).add j) (by rw [addr_blk]; exact h)]
  exact hc j u hj

/-- '[]T{}'. -/
theorem Mk.zero (h : Mk X B e c w none N) : Mk X B e c (w.alloc (.cells #[] e)) (some (.slice (some ⟨w.heap.size, 0, none⟩) 0 0, 0, [])) N := by
  refine ⟨h.base, h.bel.alloc h.size _, fun v n xs he => ?_, fun b cs hN => ?_⟩
  · cases he
    exact ⟨by simp, .inr ⟨w.heap.size, 0, #[], rfl, h.size, heap_alloc_new w _, Nat.le_refl _, by unfold maxLen; omega, by simp, by simp⟩⟩
  · obtain ⟨h1, h2, h3, _⟩ := h.new b cs hN
    refine ⟨h1, by simp; omega, new_alloc _ h2 h3, fun v n xs he => ?_⟩
    cases he
    simp [Value.ownBlock]
    omega

/-- 'T{..}' in a block of its own. -/
theorem Mk.one (h : Mk X B e c w A none) (cs : Array Value) (t : TypeId) : Mk X B e c (w.alloc (.cells cs t)) A (some (w.heap.size, cs.toList)) := by
  refine ⟨h.base, h.bel.alloc h.size _, fun v n xs he => (h.own v n xs he).alloc _, fun b l hN => ?_⟩
  cases hN
  exact ⟨h.size, by simp, news1 w cs t, fun v n xs he hb => Nat.lt_irrefl _ ((h.own v n xs he).lt _ hb).2⟩

/-- append, as one step of a region that draws: of what lies below B, or of the block N. -/
theorem step_app {P : Program} {ops : Array Oper} {o : Oper} {a : Act} {K : Act → World → Prop} {Q : Exit → Act → World → Prop} {E : Prop} {v : Value} {n : Nat} {xs : List Value}
    (h : Mk X B e c w (some (v, n, xs)) N) (hgd : o.guard = none) (s x : Operand) (t : TypeId)
    (ho : o.op = .call { callee := .builtin .append, args := #[s, x], argTypes := #[t, t] })
    (i : TypeInfo) (z : Value) (bytes : Nat) (ht : P.underlying t = some (.slice e)) (hi : P.info? e = some i) (hz : i.zero = some z)
    (hsize : i.size = c) (hby : i.bytes = bytes) (hzs : z.cells.size = c) (hsz : 0 < c)
    (hs : a.eval s = v) (ad : Addr) (m cp : Nat) (news : List Value) (hx : a.eval x = .slice (some ad) m cp) (hl : news.length = m * c)
    (hnews : (∀ j u, news[j]? = some u → w.cell? (ad.add j) = some u)) (h1 : ∀ u ∈ news, u.oneCell' = true)
    (h63 : n + m ≤ maxLen) (hbytes : (n + m) * bytes ≤ 140737488355328)
    (hK : ∀ v' w', Mk X B e c w' (some (v', n + m, xs ++ news)) N → (v' = .slice none 0 0 ↔ v = .slice none 0 0 ∧ m = 0) → K (a.put o.dst v') w') :
    if Region.wanted o (yielded ops a.tmps) = true then Oper.wp P o a w K Q else E := by
  have hw : Region.wanted o (yielded ops a.tmps) = true := by simp [Region.wanted, hgd]
  rw [if_pos hw]
  obtain ⟨v', w', hr, h2, h3, h4, h5⟩ := run_append_own_at (P := P) w B t o.type e i z c bytes ht hi hz hsize hby hzs hsz v n xs (h.own _ _ _ rfl) ad m cp news hl hnews h1 h63 hbytes h.size
  unfold Oper.wp execOp
  simp only [ho, resolve, invoke, builtin, Sem.run_bind, Sem.run_pure, Result.andThen_ok, List.map_toArray, List.map_cons, List.map_nil, hs, hx, hr]
  refine hK v' w' ⟨h.base, h.bel.grown h3 h.size (fun j hj => ((h.own _ _ _ rfl).lt j hj).1), fun _ _ _ he => (by cases he; exact h2), fun b cs hN => ?_⟩ h4
  obtain ⟨k1, k2, k3, k4⟩ := h.new b cs hN
  have hne : some b ≠ v.ownBlock := fun he => k4 _ _ _ rfl he.symm
  refine ⟨k1, Nat.lt_of_lt_of_le k2 h3.size, fun j u hj => ?_, fun _ _ _ he => ?_⟩
  · rw [h3.cell_far _ (by rw [addr_blk]; exact k2) (by rw [addr_blk]; exact hne)]
    exact k3 j u hj
  · cases he
    rcases h5 with h5 | h5
    · rw [h5]; exact fun he => hne he.symm
    · rw [h5]; intro he; injection he with he; omega
end

end Go.Proofs.Ytmdcpigobfhckaa
