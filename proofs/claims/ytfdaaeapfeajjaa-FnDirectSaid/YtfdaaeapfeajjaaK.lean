/- Bellman's and Ford's numbers as a list; no program. -/
import Derived.Test.YtfdaaeapfeajjaaD
namespace Go.Proofs.Ytfdaaeapfeajjaa

/-- A list of numbers as a function of towns; 100000 elsewhere. -/
def fO (o : List Int) (t : Int) : Int := if 0 ≤ t ∧ t < o.length then o.getD t.toNat 0 else 100000

theorem fO_nat (o : List Int) {p : Nat} (h : p < o.length) : fO o (p : Int) = o.getD p 0 := by
  unfold fO; rw [if_pos (by omega)]; simp

theorem fO_set (o : List Int) {p : Nat} (h : p < o.length) (x : Int) (t : Int) : fO (o.set p x) t = if t = (p : Int) then x else fO o t := by
  unfold fO
  rw [List.length_set]
  by_cases e : t = (p : Int)
  · subst e
    rw [if_pos (by omega), if_pos rfl]
    simp [List.getD, h]
  · rw [if_neg e]
    split
    · rename_i ht
      have : ¬ p = t.toNat := by omega
      simp [List.getD, this]
    · rfl

/-- What is told after R rounds and j roads of the next. -/
def Cov (l : List Rd) (s : Int) (R j : Nat) (t d : Int) : Prop :=
  WayN (edge l) R s t d ∨ ∃ i, i < j ∧ ((t = (l.getD i rd0).a ∧ ∃ d0, WayN (edge l) R s (l.getD i rd0).b d0 ∧ d = d0 + (l.getD i rd0).m) ∨ (t = (l.getD i rd0).b ∧ ∃ d0, WayN (edge l) R s (l.getD i rd0).a d0 ∧ d = d0 + (l.getD i rd0).m))

theorem edge_of_road {n : Int} {l : List Rd} {i : Nat} (h : okTo n l l.length = true) (hi : i < l.length) : edge l (l.getD i rd0).a (l.getD i rd0).b = some (l.getD i rd0).m := by
  have key : ∀ k, i < k → k ≤ l.length → edge (l.take k) (l.getD i rd0).a (l.getD i rd0).b = some (l.getD i rd0).m := by
    intro k
    induction k with
    | zero => intro h; omega
    | succ k ih =>
      intro hik hk
      have hok := okTo_at n l h (show k < l.length by omega)
      rw [edge_snoc n l k (by omega) hok]
      by_cases e : i = k
      · subst e; rw [if_pos (.inl ⟨rfl, rfl⟩)]
      · have h1 := ih (by omega) (by omega)
        have hno := (no_edge_iff n l k ((okAt_iff n l k).1 hok).1).2 hok
        rw [if_neg ?_]
        · exact h1
        · rintro (⟨ha, hb⟩ | ⟨ha, hb⟩)
          · rw [ha, hb] at h1; rw [h1] at hno; cases hno
          · rw [ha, hb, edge_symm] at h1; rw [h1] at hno; cases hno
  have := key l.length hi (Nat.le_refl _)
  rwa [List.take_length] at this

theorem bf_step {n : Int} {l : List Rd} {s : Int} {R j : Nat} {f : Int → Int} (hv : okTo n l l.length = true) (hj : j < l.length) (h : BF (edge l) s (Cov l s R j) f) {f1 f2 : Int → Int}
    (h1 : ∀ t, f1 t = if t = (l.getD j rd0).a then min (f (l.getD j rd0).a) (f (l.getD j rd0).b + (l.getD j rd0).m) else f t) (h2 : ∀ t, f2 t = if t = (l.getD j rd0).b then min (f1 (l.getD j rd0).b) (f1 (l.getD j rd0).a + (l.getD j rd0).m) else f1 t) :
    BF (edge l) s (Cov l s R (j + 1)) f2 := by
  have he := edge_of_road hv hj
  have hm := ((fits_iff n _).1 ((okAt_iff n l j).1 (okTo_at n l hv hj)).1).2.2.2.1
  have a1 := (h.half (x := (l.getD j rd0).a) (y := (l.getD j rd0).b) (by rw [edge_symm]; exact he) hm).congr h1
  have a2 := (a1.half (x := (l.getD j rd0).b) (y := (l.getD j rd0).a) he hm).congr h2
  refine a2.weaken fun t d hc => ?_
  rcases hc with hc | ⟨i, hi, hc⟩
  · exact .inl (.inl (.inl hc))
  · by_cases e : i = j
    · subst e
      rcases hc with ⟨ht, d0, hd, rfl⟩ | ⟨ht, d0, hd, rfl⟩
      · exact .inl (.inr ⟨ht, d0, .inl hd, rfl⟩)
      · exact .inr ⟨ht, d0, .inl (.inl hd), rfl⟩
    · exact .inl (.inl (.inr ⟨i, by omega, hc⟩))

theorem bf_round {l : List Rd} {s : Int} {R : Nat} {f : Int → Int} (h : BF (edge l) s (Cov l s R l.length) f) : BF (edge l) s (WayN (edge l) (R + 1) s) f := by
  refine h.weaken fun t d hw => ?_
  generalize hR : R + 1 = R1 at hw
  cases hw with
  | nil => exact .inl (.nil _ _)
  | snoc hw he =>
    rename_i k y d m
    obtain rfl : k = R := by omega
    obtain ⟨r, hr, rfl, ha, hb⟩ := edge_some he
    obtain ⟨i, hi, rfl⟩ := List.getElem_of_mem hr
    have e : l.getD i rd0 = l[i] := by simp [List.getD, hi]
    refine .inr ⟨i, hi, ?_⟩
    rw [e]
    by_cases hle : y ≤ t
    · refine .inr ⟨by omega, d, ?_, rfl⟩
      rw [show l[i].a = y by omega]; exact hw
    · refine .inl ⟨by omega, d, ?_, rfl⟩
      rw [show l[i].b = y by omega]; exact hw

theorem bf_begin {l : List Rd} {s : Int} {R : Nat} {f : Int → Int} (h : BF (edge l) s (WayN (edge l) R s) f) : BF (edge l) s (Cov l s R 0) f :=
  h.weaken fun t d hc => by
    rcases hc with hc | ⟨i, hi, _⟩
    · exact hc
    · omega

end Go.Proofs.Ytfdaaeapfeajjaa
