/- How an argument that is a slice of Parcel is opened. -/
import Derived.Test.YtmdcpigobfhckaaOC
import Derived.Test.YtmdcpigobfhckaaFA
namespace Go.Proofs.Ytmdcpigobfhckaa
open Go.ChangeShapes Go.WideShapes Go.ChangeAt Go.RowKit Go.Deep

theorem open_Fr {H : Type} {enc : TypeId × Value → H} {w : World} {base : Nat} {spare : Nat → Bool} {held : Bool} {a : Option Addr} {len cap : Nat} {d : DataW H} {p : List MemPlace}
    (h : DataW.Trod enc Try.prog w base spare held 22 (.slice a len cap) d p) : ∃ l : List Fr, FrIn w (.slice a len cap) l ∧ FrWf l ∧ l.length = len ∧ l.length ≤ maxLen := by
  obtain ⟨fuel, hf⟩ := h
  rcases open_slice_fields Try.underlying22 Try.underlying38 (by kernel_rfl) (by kernel_rfl) hf with ⟨hcs, _⟩ | ⟨x, l, c, m, D, Pl, hcs, _, hl, hm, hmm, _, hi⟩
  · simp [Value.cells] at hcs
    obtain ⟨rfl, rfl, rfl⟩ := hcs
    exact ⟨[], ⟨_, _, rfl, Nat.le_refl _, fun h => absurd rfl h⟩, (fun r hr => by cases hr), rfl, by simp⟩
  · simp [Value.cells] at hcs
    obtain ⟨rfl, rfl, rfl⟩ := hcs
    have hlm : len ≤ m := by rw [hmm]; split <;> omega
    obtain ⟨L, hL, hQ⟩ := list_of (α := Int × Int × Int) (Q := fun i r => w.cell? (x.add (i * 3)) = some (.int .i64 r.1) ∧ w.cell? (x.add (i * 3 + 1)) = some (.int .i64 r.2.1) ∧ w.cell? (x.add (i * 3 + 2)) = some (.int .i64 r.2.2) ∧ W64 r.1 ∧ W64 r.2.1 ∧ W64 r.2.2) len (fun i hi' => by
      obtain ⟨ys, n, _, _, _, hfld⟩ := hi i (by omega)
      obtain ⟨v0, y0, hc0, _, ht0⟩ := hfld 0 _ rfl
      obtain ⟨v1, y1, hc1, _, ht1⟩ := hfld 1 _ rfl
      obtain ⟨v2, y2, hc2, _, ht2⟩ := hfld 2 _ rfl
      obtain ⟨x0, e0, _, w0⟩ := DataW.trod_int Try.underlying3 ht0
      obtain ⟨x1, e1, _, w1⟩ := DataW.trod_int Try.underlying3 ht1
      obtain ⟨x2, e2, _, w2⟩ := DataW.trod_int Try.underlying3 ht2
      simp at e0 e1 e2
      subst e0 e1 e2
      exact ⟨(x0, x1, x2), hc0, hc1, hc2, wfI w0, wfI w1, wfI w2⟩)
    refine ⟨L.map fun r => ⟨r.1, r.2.1, r.2.2⟩, ?_, ?_, by simp [hL], by simp [hL]; omega⟩
    · refine ⟨some x, cap, by simp [hL], by simp [hL]; omega, fun hne => ?_⟩
      have hpos : 0 < L.length := by
        cases L with
        | nil => simp at hne
        | cons => simp
      obtain ⟨b, o, sp⟩ := x
      have hq0 := (hQ 0 hpos).1
      have hsp : sp = none := by simpa [Addr.add] using World.cell?_spot hq0
      subst hsp
      refine ⟨b, o, rfl, by have := World.block_lt_of_cell? _ _ hq0; simpa [Addr.add] using this, fun i hi => ?_⟩
      simp only [List.length_map] at hi
      obtain ⟨q0, q1, q2, _⟩ := hQ i hi
      have e : (L.map fun r => (⟨r.1, r.2.1, r.2.2⟩ : Fr)).getD i fr0 = ⟨L[i].1, L[i].2.1, L[i].2.2⟩ := by simp [List.getD, hi]
      rw [e]
      rw [addr_add] at q0 q1 q2
      simp only [← Nat.add_assoc] at q1 q2
      exact ⟨q0, q1, q2⟩
    · intro r hr
      obtain ⟨q, hq, rfl⟩ := List.mem_map.1 hr
      obtain ⟨i, hi, rfl⟩ := List.getElem_of_mem hq
      exact (hQ i hi).2.2.2

end Go.Proofs.Ytmdcpigobfhckaa
