/- A coach that goes back: back of back, runs and waits, the meeting at half the turn; no program. -/
import Derived.Test.YtfdaaeapfeajjaaSX
import Derived.Test.YtfdaaeapfeajjaaSN
import Derived.Test.YtfdaaeapfeajjaaSE
import Derived.Test.YtfdaaeapfeajjaaSG
namespace Go.Proofs.Ytfdaaeapfeajjaa

def sumQ (f : Nat → Int) : Nat → Int
  | 0 => 0
  | k + 1 => sumQ f k + f k
theorem sumQ_congr {f g : Nat → Int} : ∀ {k : Nat}, (∀ i, i < k → f i = g i) → sumQ f k = sumQ g k
  | 0, _ => rfl
  | k + 1, h => by show sumQ f k + f k = sumQ g k + g k; rw [sumQ_congr (fun i hi => h i (by omega)), h k (by omega)]
theorem sumQ_add (f : Nat → Int) (a : Nat) : ∀ b, sumQ f (a + b) = sumQ f a + sumQ (fun i => f (a + i)) b
  | 0 => by simp [sumQ]
  | b + 1 => by
    show sumQ f (a + b) + f (a + b) = sumQ f a + (sumQ (fun i => f (a + i)) b + f (a + b))
    rw [sumQ_add f a b]; omega
theorem sumQ_rev (f : Nat → Int) : ∀ k, sumQ (fun i => f (k - 1 - i)) k = sumQ f k
  | 0 => rfl
  | k + 1 => by
    have h := sumQ_add (fun i => f (k + 1 - 1 - i)) 1 k
    rw [Nat.add_comm 1 k] at h
    rw [h]
    have h1 : sumQ (fun i => f (k + 1 - 1 - i)) 1 = f k := by simp [sumQ]
    have h2 : sumQ (fun i => f (k + 1 - 1 - (1 + i))) k = sumQ f k := by
      rw [← sumQ_rev f k]
      exact sumQ_congr fun i hi => by congr 1; omega
    rw [h1, h2]
    show f k + sumQ f k = sumQ f k + f k
    omega
theorem wait_Q (l : List Rd) : ∀ k, waitTo l k = sumQ (fun i => (l.getD (i + 1) rd0).m - (l.getD (i + 1) rd0).b) k
  | 0 => rfl
  | k + 1 => by show waitTo l k + _ = sumQ _ k + _; rw [wait_Q l k]

theorem back_at (B : List Rd) (t : Int) {i : Nat} (hi : i < B.length) : (backTo B t 0).getD i rd0 = bacR t (B.getD (B.length - 1 - i) rd0) := by
  have hl : (backTo B t 0).length = B.length := by rw [backTo_len]; omega
  rw [getD_eq _ (by rw [hl]; exact hi), getD_eq B (show B.length - 1 - i < B.length by omega)]
  unfold backTo
  simp only [List.drop_zero, List.getElem_reverse, List.getElem_map, List.length_map]
/-- The turn of a coach that goes back, and its stops. -/
theorem back_facts {n : Int} {l : List Rd} {t : Int} (h : backOk n l t = true) (hw : W64 t) :
    validS n l = true ∧ validS n (backTo l t 0) = true ∧ (0 ≤ t ∧ t ≤ 20000) ∧ (backTo l t 0).length = l.length ∧
    ∀ i, i < l.length → (backTo l t 0).getD i rd0 = ⟨(l.getD (l.length - 1 - i) rd0).a, t - (l.getD (l.length - 1 - i) rd0).m, t - (l.getD (l.length - 1 - i) rd0).b⟩ := by
  simp only [backOk, Bool.and_eq_true] at h
  obtain ⟨h1, h2⟩ := h
  have ht : 0 ≤ t ∧ t ≤ 20000 := by
    by_cases ht : 0 ≤ t ∧ t ≤ 20000
    · exact ht
    · rw [back_far h1 hw ht] at h2; cases h2
  have hl : (backTo l t 0).length = l.length := by rw [backTo_len]; omega
  refine ⟨h1, h2, ht, hl, fun i hi => ?_⟩
  rw [back_at l t hi]
  have hv := validS_at h1 (show l.length - 1 - i < l.length by omega)
  generalize l.getD (l.length - 1 - i) rd0 = r at *
  unfold bacR
  simp only [IntKind.wrap_i64]
  have e1 : (t - r.m + 9223372036854775808) % 18446744073709551616 - 9223372036854775808 = t - r.m := by omega
  have e2 : (t - r.b + 9223372036854775808) % 18446744073709551616 - 9223372036854775808 = t - r.b := by omega
  first | rw [e1, e2] | (congr 1 <;> omega)
theorem ext_rd {a b : List Rd} (hl : a.length = b.length) (h : ∀ j, j < a.length → a.getD j rd0 = b.getD j rd0) : a = b := by
  apply List.ext_getElem hl
  intro j h1 h2
  have := h j h1
  rwa [getD_eq a h1, getD_eq b h2] at this
theorem back_back {n : Int} {l : List Rd} {t : Int} (h : backOk n l t = true) (hw : W64 t) : backOk n (backTo l t 0) t = true ∧ backL n (backTo l t 0) t = l := by
  obtain ⟨h1, h2, ht, hl, hg⟩ := back_facts h hw
  have e : backTo (backTo l t 0) t 0 = l := by
    have hl2 : (backTo (backTo l t 0) t 0).length = l.length := by rw [backTo_len, hl]; omega
    refine ext_rd hl2 fun i hi => ?_
    rw [hl2] at hi
    have hv := validS_at h1 hi
    have hg' := hg (l.length - 1 - i) (by omega)
    rw [show l.length - 1 - (l.length - 1 - i) = i by omega] at hg'
    rw [back_at _ t (by rw [hl]; exact hi), hl, hg']
    generalize l.getD i rd0 = r at *
    obtain ⟨ra, rb, rm⟩ := r
    unfold bacR
    simp only [IntKind.wrap_i64] at hv ⊢
    have e3 : (t - (t - rb) + 9223372036854775808) % 18446744073709551616 - 9223372036854775808 = rb := by omega
    have e4 : (t - (t - rm) + 9223372036854775808) % 18446744073709551616 - 9223372036854775808 = rm := by omega
    first | rw [e3, e4] | (congr 1 <;> omega)
  have hok : backOk n (backTo l t 0) t = true := by
    unfold backOk; rw [e, h1, h2]; rfl
  exact ⟨hok, by unfold backL; rw [if_pos hok, e]⟩
theorem back_run {n : Int} {l : List Rd} {t : Int} (h : backOk n l t = true) (hw : W64 t) : runV n (backTo l t 0) = runV n l := by
  obtain ⟨h1, h2, ht, hl, hg⟩ := back_facts h hw
  have h3 := (validS_iff.1 h1).1.2.2.1
  unfold runV runS
  rw [if_pos h1, if_pos h2, hl, hg 0 (by omega), hg (l.length - 1) (by omega)]
  simp only
  rw [show l.length - 1 - 0 = l.length - 1 by omega, show l.length - 1 - (l.length - 1) = 0 by omega]
  omega
theorem back_wait {n : Int} {l : List Rd} {t : Int} (h : backOk n l t = true) (hw : W64 t) : waitV n (backTo l t 0) = waitV n l := by
  obtain ⟨h1, h2, ht, hl, hg⟩ := back_facts h hw
  have h3 := (validS_iff.1 h1).1.2.2.1
  unfold waitV
  rw [if_pos h1, if_pos h2, hl, wait_Q, wait_Q, ← sumQ_rev (fun i => (l.getD (i + 1) rd0).m - (l.getD (i + 1) rd0).b)]
  refine sumQ_congr fun i hi => ?_
  rw [hg (i + 1) (by omega), show l.length - 1 - (i + 1) = l.length - 2 - 1 - i + 1 by omega]
  simp only
  omega
/-- Where half the turn lies in a stop, the coaches meet. -/
theorem back_meet {n : Int} {l : List Rd} {t : Int} (h : backOk n l t = true) (hw : W64 t) {i : Nat} (hi : i < l.length) (ha : 2 * (l.getD i rd0).b ≤ t) (hb : t ≤ 2 * (l.getD i rd0).m) :
    ∃ m, meetOf n l (backTo l t 0) = some m ∧ 0 ≤ m ∧ m ≤ 10000 := by
  obtain ⟨h1, h2, ht, hl, hg⟩ := back_facts h hw
  have hk : l.length - 1 - i < (backTo l t 0).length := by rw [hl]; omega
  have hgk := hg (l.length - 1 - i) (by omega)
  rw [show l.length - 1 - (l.length - 1 - i) = i by omega] at hgk
  have hv := validS_at h1 hi
  have hm : meetAt l (backTo l t 0) i = some (bothAt l (backTo l t 0) i (l.length - 1 - i)) := by
    rw [meetAt_some hk ?_ (by rw [hgk])]
    · rw [if_pos]
      unfold bothAt
      rw [hgk]
      simp only
      omega
    · rw [newS_iff]
      intro j hj
      have := validS_ne h2 hj hk
      rw [hgk] at this
      exact this
  have key : ∀ k, i < k → ∃ m, meetTo l (backTo l t 0) k = some m := by
    intro k
    induction k with
    | zero => intro h; omega
    | succ k ih =>
      intro hik
      by_cases e : i = k
      · subst e
        cases hmt : meetTo l (backTo l t 0) i with
        | some m => exact ⟨m, meetTo_keep hmt⟩
        | none => exact ⟨_, meetTo_hit hmt hm _ (by omega)⟩
      · obtain ⟨m, hmk⟩ := ih (by omega)
        exact ⟨m, meetTo_keep hmk⟩
  obtain ⟨m, hmm⟩ := key l.length hi
  have hin : ∀ k, k ≤ l.length → ∀ m, meetTo l (backTo l t 0) k = some m → 0 ≤ m ∧ m ≤ 10000 := by
    intro k
    induction k with
    | zero => intro _ m h; cases h
    | succ k ih =>
      intro hk' m hm'
      unfold meetTo at hm'
      cases hmt : meetTo l (backTo l t 0) k with
      | some u =>
        rw [hmt] at hm'
        injection hm' with hm'
        subst hm'
        exact ih (by omega) _ hmt
      | none =>
        rw [hmt] at hm'
        have h5 := meetAt_in hm'
        have h6 := validS_at h1 (show k < l.length by omega)
        omega
  refine ⟨m, ?_, hin _ (Nat.le_refl _) m hmm⟩
  unfold meetOf
  rw [h1, h2]
  exact hmm

theorem meetV_tup (o : Option Int) : ∃ mt mq, meetV o = .tuple #[.int .i64 mt, .bool mq] := by
  cases o with
  | none => exact ⟨0, false, rfl⟩
  | some t => exact ⟨t, true, rfl⟩
theorem meetV_some {o : Option Int} {mt : Int} {mq : Bool} (h : meetV o = .tuple #[.int .i64 mt, .bool mq]) (hm : ∃ m, o = some m ∧ 0 ≤ m ∧ m ≤ 10000) : mq = true ∧ 0 ≤ mt := by
  obtain ⟨m, rfl, h0, _⟩ := hm
  unfold meetV at h
  injection h with h
  injection h with h
  injection h with h1 h2
  injection h2 with h2 _
  injection h1 with _ h1
  injection h2 with h2
  exact ⟨h2.symm, by omega⟩

end Go.Proofs.Ytfdaaeapfeajjaa
