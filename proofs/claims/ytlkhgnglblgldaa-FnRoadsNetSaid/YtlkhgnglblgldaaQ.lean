/- How many entries a map has; the greatest of a list. -/
import Derived.Test.YtlkhgnglblgldaaN
import Derived.Test.YtlkhgnglblgldaaD
namespace Go.Proofs.Ytlkhgnglblgldaa
open Go.RowKit Go.Maps Go.ChangeMaps Go.MapKept Go.WideShapes

theorem length_le_of_nodup {α : Type} : ∀ {l l' : List α}, l.Nodup → (∀ a, a ∈ l → a ∈ l') → l.length ≤ l'.length
  | [], _, _, _ => Nat.zero_le _
  | a :: r, l', hn, hs => by
    obtain ⟨h1, h2⟩ := List.nodup_cons.1 hn
    obtain ⟨s, t, rfl⟩ := List.append_of_mem (hs a (by simp))
    have := length_le_of_nodup (l := r) (l' := s ++ t) h2 (fun b hb => by
      have hb' := hs b (by simp [hb])
      have hne : b ≠ a := fun e => h1 (e ▸ hb)
      simp only [List.mem_append, List.mem_cons] at hb' ⊢
      rcases hb' with h | h | h
      · exact .inl h
      · exact absurd h hne
      · exact .inr h)
    simp only [List.length_append, List.length_cons] at this ⊢
    omega

theorem own_keys {w : World} {R : MElem} {b n : Nat} {D : DataW Unit} (h : w.ownsMap Try.prog 3 R b n D) : ∃ L : List (Lit × DataW Unit), D = .map L ∧ L.Pairwise (fun p q => p.1 ≠ q.1) ∧ ∀ p ∈ L, ∃ x, p.1 = .int .i64 x ∧ W64 x := by
  obtain ⟨es, clock, _, F, _, rfl⟩ := h
  refine ⟨_, rfl, ((sorted_perm _).pairwise_iff (fun {_ _} hne => Ne.symm hne)).2 (Maps.fit_apart keyInt F), fun p hp => ?_⟩
  obtain ⟨v, hv⟩ := Maps.fit_keys F p (mem_sorted.1 hp)
  obtain ⟨x, _, hx, hw⟩ := Maps.keyOf_int_inv Try.underlying3 hv
  exact ⟨x, hx, of_wf hw⟩

/-- A map whose keys lie in [0, n) has as many entries as its function says. -/
theorem size_of_map {w : World} {R : MElem} {b c : Nat} {D : DataW Unit} (h : w.ownsMap Try.prog 3 R b c D) {f : Int → Option (DataW Unit)} (hf : ∀ x, W64 x → Maps.has D (.int .i64 x) = (f x).isSome) {n : Nat} (hn : n ≤ 1000)
    (hin : ∀ x, (f x).isSome = true → 0 ≤ x ∧ x < n) : Maps.size D = (List.range n).countP fun (i : Nat) => (f (i : Int)).isSome := by
  obtain ⟨L, rfl, hpw, hk⟩ := own_keys h
  rw [Maps.size_eq, List.countP_eq_length_filter]
  have key : ∀ p ∈ L, ∃ i : Nat, i < n ∧ p.1 = .int .i64 (i : Int) ∧ (f (i : Int)).isSome = true := fun p hp => by
    obtain ⟨x, hx, wx⟩ := hk p hp
    have hh : Maps.has (.map L) (.int .i64 x) = true := by
      rw [Maps.has_eq]
      exact List.any_eq_true.2 ⟨p, hp, by rw [hx]; exact WideAt.sameKey_self (isKey x)⟩
    rw [hf x wx] at hh
    obtain ⟨h0, h1⟩ := hin x hh
    exact ⟨x.toNat, by omega, by rw [hx, Int.toNat_of_nonneg h0], by rw [Int.toNat_of_nonneg h0]; exact hh⟩
  have hL : (L.map (·.1)).Nodup := by
    rw [List.nodup_iff_pairwise_ne, List.pairwise_map]; exact hpw
  have hR : (((List.range n).filter fun (i : Nat) => (f (i : Int)).isSome).map fun (i : Nat) => Lit.int .i64 (i : Int)).Nodup := by
    rw [List.nodup_iff_pairwise_ne, List.pairwise_map]
    refine List.Pairwise.filter _ ?_
    exact List.nodup_range.imp (fun {a b} hne e => hne (by injection e with _ e; omega))
  refine Nat.le_antisymm ?_ ?_
  · have := length_le_of_nodup hL (l' := ((List.range n).filter fun (i : Nat) => (f (i : Int)).isSome).map fun (i : Nat) => Lit.int .i64 (i : Int)) (fun a ha => by
      obtain ⟨p, hp, rfl⟩ := List.mem_map.1 ha
      obtain ⟨i, hi, hx, hs⟩ := key p hp
      rw [hx]
      exact List.mem_map.2 ⟨i, List.mem_filter.2 ⟨List.mem_range.2 hi, hs⟩, rfl⟩)
    simpa using this
  · have := length_le_of_nodup hR (l' := L.map (·.1)) (fun a ha => by
      obtain ⟨i, hi, rfl⟩ := List.mem_map.1 ha
      obtain ⟨hi1, hi2⟩ := List.mem_filter.1 hi
      have hi1 := List.mem_range.1 hi1
      have hh := hf (i : Int) (by unfold W64; omega)
      rw [hi2, Maps.has_eq, List.any_eq_true] at hh
      obtain ⟨p, hp, hpk⟩ := hh
      exact List.mem_map.2 ⟨p, hp, WideAt.sameKey_eq hpk⟩)
    simpa using this

theorem countP_all {n : Nat} {p : Nat → Bool} : ((List.range n).countP p = n) ↔ ∀ i, i < n → p i = true := by
  have h := List.countP_eq_length (p := p) (l := List.range n)
  rw [List.length_range] at h
  rw [h]
  simp

end Go.Proofs.Ytlkhgnglblgldaa
