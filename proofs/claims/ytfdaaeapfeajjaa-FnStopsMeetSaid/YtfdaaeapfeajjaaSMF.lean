/- Two coaches meet at the first time at which both are in one town: from either coach, at both, and later as both are later; no program. -/
import Derived.Test.YtfdaaeapfeajjaaSAF
import Derived.Test.YtfdaaeapfeajjaaSLF
namespace Go.Proofs.Ytfdaaeapfeajjaa

/-- They may meet at t. -/
def Meets (a b : List Rd) (t : Int) : Prop := ∃ i k, i < a.length ∧ k < b.length ∧ (a.getD i rd0).a = (b.getD k rd0).a ∧ t = max (a.getD i rd0).b (b.getD k rd0).b ∧ t ≤ (a.getD i rd0).m ∧ t ≤ (b.getD k rd0).m
theorem Meets.symm {a b : List Rd} {t : Int} (h : Meets a b t) : Meets b a t := by
  obtain ⟨i, k, h1, h2, h3, h4, h5, h6⟩ := h
  exact ⟨k, i, h2, h1, h3.symm, by rw [Int.max_comm]; exact h4, h6, h5⟩
theorem meetAt_iff {n : Int} {a b : List Rd} (hb : validS n b = true) {i : Nat} {t : Int} : meetAt a b i = some t ↔ ∃ k, k < b.length ∧ (a.getD i rd0).a = (b.getD k rd0).a ∧ t = max (a.getD i rd0).b (b.getD k rd0).b ∧ t ≤ (a.getD i rd0).m ∧ t ≤ (b.getD k rd0).m := by
  have hat : ∀ k, k < b.length → (a.getD i rd0).a = (b.getD k rd0).a → meetAt a b i = if bothAt a b i k ≤ (a.getD i rd0).m ∧ bothAt a b i k ≤ (b.getD k rd0).m then some (bothAt a b i k) else none := fun k hk e => by
    refine meetAt_some hk ?_ e.symm
    rw [newS_iff]
    intro j hj
    rw [e]
    exact validS_ne hb hj hk
  constructor
  · intro h
    cases ha : atS b (a.getD i rd0).a with
    | none => unfold meetAt at h; rw [ha] at h; cases h
    | some k =>
      unfold atS at ha
      rw [List.findIdx?_eq_some_iff_getElem] at ha
      obtain ⟨hk, h1, _⟩ := ha
      have e : (a.getD i rd0).a = (b.getD k rd0).a := by rw [getD_eq b hk]; have : b[k].a = (a.getD i rd0).a := by simpa using h1
                                                         exact this.symm
      rw [hat k hk e] at h
      split at h
      · rename_i hc
        injection h with h
        subst h
        exact ⟨k, hk, e, rfl, hc.1, hc.2⟩
      · cases h
  · rintro ⟨k, hk, e, rfl, h1, h2⟩
    rw [hat k hk e, if_pos ⟨h1, h2⟩]; rfl
theorem meetTo_first {a b : List Rd} {t : Int} : ∀ {K : Nat}, meetTo a b K = some t → ∃ i, i < K ∧ meetAt a b i = some t ∧ ∀ j, j < i → meetAt a b j = none
  | 0, h => by cases h
  | K + 1, h => by
    unfold meetTo at h
    cases hm : meetTo a b K with
    | some u =>
      rw [hm] at h
      injection h with h
      subst h
      obtain ⟨i, h1, h2⟩ := meetTo_first hm
      exact ⟨i, by omega, h2⟩
    | none =>
      rw [hm] at h
      exact ⟨K, by omega, h, fun j hj => meetTo_noneAt hm j hj⟩
where meetTo_noneAt {a b : List Rd} : ∀ {K : Nat}, meetTo a b K = none → ∀ i, i < K → meetAt a b i = none
  | 0, _, i, hi => by omega
  | K + 1, h, i, hi => by
    unfold meetTo at h
    cases hm : meetTo a b K with
    | some u => rw [hm] at h; cases h
    | none =>
      rw [hm] at h
      by_cases e : i = K
      · subst e; exact h
      · exact meetTo_noneAt hm i (by omega)
theorem meet_least {n : Int} {a b : List Rd} (ha : validS n a = true) (hb : validS n b = true) {t : Int} : meetTo a b a.length = some t ↔ Meets a b t ∧ ∀ u, Meets a b u → t ≤ u := by
  have hfwd : ∀ {t : Int}, meetTo a b a.length = some t → Meets a b t ∧ ∀ u, Meets a b u → t ≤ u := by
    intro t h
    obtain ⟨i, h1, h2, h3⟩ := meetTo_first h
    obtain ⟨k, g1, g2, g3, g4, g5⟩ := (meetAt_iff hb).1 h2
    refine ⟨⟨i, k, h1, g1, g2, g3, g4, g5⟩, ?_⟩
    rintro u ⟨i', k', q1, q2, q3, q4, q5, q6⟩
    have hm := (meetAt_iff (a := a) (b := b) (i := i') (t := u) hb).2 ⟨k', q2, q3, q4, q5, q6⟩
    rcases Nat.lt_trichotomy i' i with e | e | e
    · rw [h3 i' e] at hm; cases hm
    · subst e; rw [h2] at hm; injection hm with hm; omega
    · have := validS_lt ha e q1
      omega
  refine ⟨hfwd, fun ⟨h1, h2⟩ => ?_⟩
  cases hm : meetTo a b a.length with
  | none =>
    exfalso
    obtain ⟨i, k, g1, g2, g3, g4, g5, g6⟩ := h1
    have := meetTo_first.meetTo_noneAt hm i g1
    rw [(meetAt_iff hb).2 ⟨k, g2, g3, g4, g5, g6⟩] at this
    cases this
  | some u =>
    obtain ⟨g1, g2⟩ := hfwd hm
    have := g2 t h1
    have := h2 u g1
    congr 1; omega
/-- What FnStopsMeet asks. -/
theorem meet_law {n : Int} {a b : List Rd} {t : Int} (h : meetOf n a b = some t) : meetOf n b a = some t ∧ (0 ≤ t ∧ t ≤ 10000) ∧ (∃ i k : Nat, i < a.length ∧ k < b.length ∧ whereV n a t = .tuple #[.int .i64 (i : Int), .bool true, .bool true] ∧ whereV n b t = .tuple #[.int .i64 (k : Int), .bool true, .bool true] ∧ (a.getD i rd0).a = (b.getD k rd0).a) ∧
    (laterOk n a 10 = true → laterOk n b 10 = true → meetOf n (laterW a 10) (laterW b 10) = some (t + 10)) := by
  unfold meetOf at h
  by_cases hv : (validS n a && validS n b) = true
  · rw [if_pos hv] at h
    rw [Bool.and_eq_true] at hv
    obtain ⟨ha, hb⟩ := hv
    obtain ⟨h1, h2⟩ := (meet_least ha hb).1 h
    refine ⟨?_, ?_, ?_, fun la lb => ?_⟩
    · unfold meetOf
      rw [hb, ha]
      exact (meet_least hb ha).2 ⟨h1.symm, fun u hu => h2 u hu.symm⟩
    · obtain ⟨i, k, g1, g2, g3, g4, g5, g6⟩ := h1
      have := validS_at ha g1
      omega
    · obtain ⟨i, k, g1, g2, g3, g4, g5, g6⟩ := h1
      exact ⟨i, k, g1, g2, where_in ha g1 (by omega) g5, where_in hb g2 (by omega) g6, g3⟩
    · obtain ⟨_, va, _, fa⟩ := later_facts la (by unfold W64; omega)
      obtain ⟨_, vb, _, fb⟩ := later_facts lb (by unfold W64; omega)
      have hl1 := laterW_len a 10
      have hl2 := laterW_len b 10
      have hsh : ∀ u, Meets (laterW a 10) (laterW b 10) u ↔ Meets a b (u - 10) := by
        intro u
        constructor
        · rintro ⟨i, k, g1, g2, g3, g4, g5, g6⟩
          rw [hl1] at g1; rw [hl2] at g2
          rw [fa i g1, fb k g2] at g3 g4
          rw [fa i g1] at g5; rw [fb k g2] at g6
          simp only at g3 g4 g5 g6
          exact ⟨i, k, g1, g2, g3, by omega, by omega, by omega⟩
        · rintro ⟨i, k, g1, g2, g3, g4, g5, g6⟩
          refine ⟨i, k, by rw [hl1]; exact g1, by rw [hl2]; exact g2, ?_, ?_, ?_, ?_⟩
          · rw [fa i g1, fb k g2]; exact g3
          · rw [fa i g1, fb k g2]; simp only; omega
          · rw [fa i g1]; simp only; omega
          · rw [fb k g2]; simp only; omega
      unfold meetOf
      rw [va, vb]
      refine (meet_least va vb).2 ⟨(hsh _).2 (by rw [show t + 10 - 10 = t by omega]; exact h1), fun u hu => ?_⟩
      have := h2 _ ((hsh u).1 hu)
      omega
  · rw [if_neg hv] at h; cases h

end Go.Proofs.Ytfdaaeapfeajjaa
