/- A coach stops once in a town: where it is at that time, and where on the way back; no program. -/
import Derived.Test.YtfdaaeapfeajjaaSBF
import Derived.Test.YtfdaaeapfeajjaaSH
namespace Go.Proofs.Ytfdaaeapfeajjaa

theorem at_facts {n : Int} {l : List Rd} {t : Int} (h : 0 ≤ stopsAtV n l t) : validS n l = true ∧ ∃ i : Nat, stopsAtV n l t = (i : Int) ∧ i < l.length ∧ (l.getD i rd0).a = t := by
  unfold stopsAtV at h ⊢
  by_cases hz : validS n l = true
  · rw [if_pos hz] at h ⊢
    unfold atV at h ⊢
    cases ha : atS l t with
    | none => rw [ha] at h; exact absurd h (by decide)
    | some i =>
      refine ⟨hz, i, rfl, ?_⟩
      unfold atS at ha
      rw [List.findIdx?_eq_some_iff_getElem] at ha
      obtain ⟨hi, h1, _⟩ := ha
      exact ⟨hi, by rw [getD_eq l hi]; simpa using h1⟩
  · rw [if_neg hz] at h; exact absurd h (by decide)
/-- At a time of a stop the coach is there. -/
theorem where_in {n : Int} {l : List Rd} (hz : validS n l = true) {i : Nat} (hi : i < l.length) {t : Int} (ht1 : (l.getD i rd0).b ≤ t) (ht2 : t ≤ (l.getD i rd0).m) : whereV n l t = .tuple #[.int .i64 (i : Int), .bool true, .bool true] := by
  have h2 := (validS_iff.1 hz).1.2.2.1
  have hv := validS_at hz hi
  have h0 := validS_at hz (show 0 < l.length by omega)
  have hl := validS_at hz (show l.length - 1 < l.length by omega)
  have hfirst : (l.getD 0 rd0).b ≤ t := by
    by_cases e : i = 0
    · subst e; exact ht1
    · have := validS_lt hz (j := 0) (i := i) (by omega) hi; omega
  have hlast : t ≤ (l.getD (l.length - 1) rd0).m := by
    by_cases e : i = l.length - 1
    · rw [← e]; exact ht2
    · have := validS_lt hz (j := i) (i := l.length - 1) (by omega) (by omega); omega
  have hok : whereOk n l t = true := by
    unfold whereOk
    rw [hz, (inB_iff _ _ _).2 ⟨hfirst, hlast⟩]; rfl
  have hw : ∀ m, i < m → m ≤ l.length → whereTo l t m = i := by
    intro m
    induction m with
    | zero => intro h; omega
    | succ m ih =>
      intro h1 h3
      unfold whereTo
      by_cases e : m = i
      · subst e; rw [if_pos ht1]
      · have := validS_lt hz (j := i) (i := m) (by omega) (by omega)
        rw [if_neg (by omega), ih (by omega) (by omega)]
  have hK : whereK n l t = i := by
    unfold whereK; rw [if_pos hok]; exact hw _ hi (Nat.le_refl _)
  unfold whereV whereT
  rw [hK, hok, Bool.true_and, decide_eq_true ht2]
theorem at_where {n : Int} {l : List Rd} (hz : validS n l = true) {i : Nat} (hi : i < l.length) : whereV n l (l.getD i rd0).b = .tuple #[.int .i64 (i : Int), .bool true, .bool true] :=
  where_in hz hi (Int.le_refl _) (validS_at hz hi).2.2.2.1
/-- On the way back it is the stop from the end. -/
theorem at_back {n : Int} {l : List Rd} {t k : Int} (h : backOk n l t = true) (hw : W64 t) {i : Nat} (hi : i < l.length) (ha : (l.getD i rd0).a = k) : stopsAtV n (backTo l t 0) k = ((l.length - 1 - i : Nat) : Int) := by
  obtain ⟨h1, h2, ht, hl, hg⟩ := back_facts h hw
  have hk : l.length - 1 - i < (backTo l t 0).length := by rw [hl]; omega
  have hgk := hg (l.length - 1 - i) (by omega)
  rw [show l.length - 1 - (l.length - 1 - i) = i by omega] at hgk
  unfold stopsAtV
  rw [if_pos h2]
  refine atV_some hk ?_ (by rw [hgk]; exact ha)
  rw [newS_iff]
  intro j hj
  have := validS_ne h2 hj hk
  rw [hgk] at this
  rw [← ha]
  exact this

end Go.Proofs.Ytfdaaeapfeajjaa
