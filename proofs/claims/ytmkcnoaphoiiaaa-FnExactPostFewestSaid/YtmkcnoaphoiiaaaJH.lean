/- How an argument that is a slice of slices of Stop is opened. -/
import Derived.Test.YtmkcnoaphoiiaaaZC
import Derived.Test.YtmkcnoaphoiiaaaJE
namespace Go.Proofs.Ytmkcnoaphoiiaaa
open Go.ChangeShapes Go.WideShapes Go.ChangeAt Go.RowKit Go.Deep

theorem open_Nt {H : Type} {enc : TypeId × Value → H} {w : World} {base : Nat} {spare : Nat → Bool} {held : Bool} {a : Option Addr} {len cap : Nat} {d : DataW H} {p : List MemPlace}
    (h : DataW.Trod enc Try.prog w base spare held 22 (.slice a len cap) d p) : ∃ net : List (List Tz), NtIn w (.slice a len cap) net ∧ net.length ≤ maxLen ∧ ∀ i, i < net.length → (coach net i).length ≤ maxLen := by
  obtain ⟨fuel, hf⟩ := h
  rcases open_slice Try.underlying22 hf with ⟨hcs, _⟩ | ⟨x, l, c, m, n, D, Pl, hcs, _, hl, hm, hmm, _, hi⟩
  · simp [Value.cells] at hcs
    obtain ⟨rfl, rfl, rfl⟩ := hcs
    exact ⟨[], ⟨_, _, rfl, Nat.le_refl _, fun h => absurd rfl h⟩, by simp, fun i hi => by simp at hi⟩
  · simp [Value.cells] at hcs
    obtain ⟨rfl, rfl, rfl⟩ := hcs
    have hlm : len ≤ m := by rw [hmm]; split <;> omega
    have hC : Try.prog.cellsOf 54 = 1 := by kernel_rfl
    obtain ⟨L, hL, hQ⟩ := list_of (α := List Tz) (Q := fun i l => ∃ u, w.cell? (x.add i) = some u ∧ TzIn w u l ∧ l.length ≤ maxLen) len (fun i hi' => by
      obtain ⟨cs', hc, ht'⟩ := hi i (by omega)
      rw [hC] at hc
      obtain ⟨_, hcl, hat⟩ := World.cells?_some hc
      have h0 := hat 0 (by omega)
      have hcs1 : cs' = [cs'[0]'(by omega)] := by
        match cs', hcl with
        | [y], _ => rfl
      generalize cs'[0]'(by omega) = u at *
      subst hcs1
      rw [Nat.mul_one] at h0
      have hcell : w.cell? (x.add i) = some u := by simpa [Addr.add] using h0
      rcases open_slice Try.underlying54 ht' with ⟨hcs, _⟩ | ⟨x', l', c', _, _, _, _, hcs, _⟩
      · simp at hcs
        subst hcs
        obtain ⟨l, q1, _, _, q2⟩ := open_Tz (a := none) (len := 0) (cap := 0) ⟨_, ht'⟩
        exact ⟨l, _, hcell, q1, q2⟩
      · simp at hcs
        subst hcs
        obtain ⟨l, q1, _, _, q2⟩ := open_Tz (a := some x') (len := l') (cap := c') ⟨_, ht'⟩
        exact ⟨l, _, hcell, q1, q2⟩)
    refine ⟨L, ⟨some x, cap, by rw [hL], by rw [hL]; exact hl, fun hne => ?_⟩, by rw [hL]; omega, fun i hi => ?_⟩
    · have hpos : 0 < L.length := by
        cases L with
        | nil => simp at hne
        | cons => simp
      obtain ⟨b, o, sp⟩ := x
      obtain ⟨u0, hq0, _⟩ := hQ 0 hpos
      have hsp : sp = none := by simpa [Addr.add] using World.cell?_spot hq0
      subst hsp
      refine ⟨b, o, rfl, by have := World.block_lt_of_cell? _ _ hq0; simpa [Addr.add] using this, fun i hi => ?_⟩
      obtain ⟨u, q0, q1, _⟩ := hQ i hi
      rw [addr_add] at q0
      exact ⟨u, q0, by rw [coach_eq hi]; exact q1⟩
    · obtain ⟨u, _, _, q⟩ := hQ i hi
      rw [coach_eq hi]; exact q

end Go.Proofs.Ytmkcnoaphoiiaaa
