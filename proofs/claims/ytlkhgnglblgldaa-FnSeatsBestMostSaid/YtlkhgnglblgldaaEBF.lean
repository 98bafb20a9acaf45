/- Why the best seat is the best: those taken do not meet, each one meets a taken one, no others are more; no program. -/
import Derived.Test.YtlkhgnglblgldaaEW
namespace Go.Proofs.Ytlkhgnglblgldaa

/-- Do the i-th and the j-th meet? -/
def meetE (l : List Bk) (i j : Nat) : Prop := (l.getD i bk0).a < (l.getD j bk0).b ∧ (l.getD j bk0).a < (l.getD i bk0).b
/-- All begin at stop 0 or later, and end behind. -/
def FwdE (l : List Bk) : Prop := ∀ i, i < l.length → 0 ≤ (l.getD i bk0).a ∧ (l.getD i bk0).a < (l.getD i bk0).b
theorem FwdE.lt {l : List Bk} (h : FwdE l) : ∀ i, i < l.length → (l.getD i bk0).a < (l.getD i bk0).b := fun i hi => (h i hi).2

theorem goE_step (l : List Bk) (t : Nat) : (goE l (t + 1) = goE l t ∧ atE l ((t + 1 : Nat) : Int) ((goE l t).1 : Int) l.length = none) ∨
    ∃ i, atE l ((t + 1 : Nat) : Int) ((goE l t).1 : Int) l.length = some i ∧ goE l (t + 1) = (t + 1, (goE l t).2 ++ [i]) := by
  rw [goE]
  cases h : atE l ((t + 1 : Nat) : Int) ((goE l t).1 : Int) l.length with
  | none => exact .inl ⟨rfl, rfl⟩
  | some i => exact .inr ⟨i, rfl, rfl⟩
theorem goE_le (l : List Bk) : ∀ t, (goE l t).2.length ≤ t
  | 0 => Nat.le_refl _
  | t + 1 => by
    have ih := goE_le l t
    rcases goE_step l t with ⟨e, _⟩ | ⟨i, _, e⟩ <;> rw [e]
    · omega
    · simp only [List.length_append, List.length_singleton]; omega
theorem goE_mono (l : List Bk) (t : Nat) : ∀ d, (goE l t).2.length ≤ (goE l (t + d)).2.length ∧ ∀ i, i ∈ (goE l t).2 → i ∈ (goE l (t + d)).2
  | 0 => ⟨Nat.le_refl _, fun _ h => h⟩
  | d + 1 => by
    obtain ⟨h1, h2⟩ := goE_mono l t d
    show (goE l t).2.length ≤ (goE l (t + d + 1)).2.length ∧ ∀ i, i ∈ (goE l t).2 → i ∈ (goE l (t + d + 1)).2
    rcases goE_step l (t + d) with ⟨e, _⟩ | ⟨i, _, e⟩ <;> rw [e]
    · exact ⟨h1, h2⟩
    · exact ⟨by simp only [List.length_append, List.length_singleton]; omega, fun j hj => List.mem_append.2 (.inl (h2 j hj))⟩
theorem goE_len_mono (l : List Bk) {t u : Nat} (h : t ≤ u) : (goE l t).2.length ≤ (goE l u).2.length := by
  have := (goE_mono l t (u - t)).1; rwa [show t + (u - t) = u by omega] at this
theorem goE_sub (l : List Bk) {t u i : Nat} (h : t ≤ u) (hi : i ∈ (goE l t).2) : i ∈ (goE l u).2 := by
  have := (goE_mono l t (u - t)).2 i hi; rwa [show t + (u - t) = u by omega] at this
/-- The last end: of one that is taken, and then one more was taken. -/
theorem goE_last (l : List Bk) : ∀ t, (goE l t).1 = 0 ∨ ∃ u j, (goE l t).1 = u + 1 ∧ u + 1 ≤ t ∧ j < l.length ∧ j ∈ (goE l (u + 1)).2 ∧ (l.getD j bk0).b = ((u + 1 : Nat) : Int) ∧ (goE l (u + 1)).2.length = (goE l u).2.length + 1
  | 0 => .inl rfl
  | t + 1 => by
    rcases goE_step l t with ⟨e, _⟩ | ⟨i, hi, e⟩
    · rw [e]
      rcases goE_last l t with h | ⟨u, j, h1, h2, h3⟩
      · exact .inl h
      · exact .inr ⟨u, j, h1, by omega, h3⟩
    · obtain ⟨g1, g2, _⟩ := atE_some.1 hi
      refine .inr ⟨t, i, by rw [e], Nat.le_refl _, g1, by rw [e]; exact List.mem_append.2 (.inr (List.mem_singleton.2 rfl)), (hitE_iff.1 g2).1, by rw [e]; simp⟩
/-- Those taken do not meet. -/
theorem goE_apart {l : List Bk} (hf : FwdE l) : ∀ t i j, i ∈ (goE l t).2 → j ∈ (goE l t).2 → i ≠ j → ¬ meetE l i j
  | 0, i, j, hi, _, _ => by cases hi
  | t + 1, i, j, hi, hj, hij => by
    have hm := goE_mem hf.lt t
    rcases goE_step l t with ⟨e, _⟩ | ⟨k, hk, e⟩
    · rw [e] at hi hj; exact goE_apart hf t i j hi hj hij
    · obtain ⟨g1, g2, _⟩ := atE_some.1 hk
      have g3 := (hitE_iff.1 g2).2
      rw [e] at hi hj
      rcases List.mem_append.1 hi with ki | ki <;> rcases List.mem_append.1 hj with kj | kj
      · exact goE_apart hf t i j ki kj hij
      · have hjk := List.mem_singleton.1 kj
        have := (hm.2.2 i ki).2
        rw [hjk]
        rintro ⟨h1, h2⟩; omega
      · have hik := List.mem_singleton.1 ki
        have := (hm.2.2 j kj).2
        rw [hik]
        rintro ⟨h1, h2⟩; omega
      · rw [List.mem_singleton.1 ki, List.mem_singleton.1 kj] at hij; exact absurd rfl hij
/-- Each one meets a taken one. -/
theorem goE_hit {l : List Bk} {n i : Nat} (hf : FwdE l) (hi : i < l.length) (hn : (l.getD i bk0).b ≤ (n : Int)) : ∃ j, j < l.length ∧ j ∈ (goE l n).2 ∧ meetE l i j := by
  obtain ⟨h0, h1⟩ := hf i hi
  obtain ⟨t, ht⟩ : ∃ t : Nat, (l.getD i bk0).b = ((t + 1 : Nat) : Int) := ⟨((l.getD i bk0).b - 1).toNat, by omega⟩
  have htn : t + 1 ≤ n := by omega
  by_cases hu : ((goE l t).1 : Int) ≤ (l.getD i bk0).a
  · rcases goE_step l t with ⟨_, e⟩ | ⟨k, hk, e⟩
    · have := atE_none.1 e i hi
      rw [hitE_iff.2 ⟨ht, hu⟩] at this; cases this
    · obtain ⟨g1, g2, _⟩ := atE_some.1 hk
      have g3 := (hitE_iff.1 g2).1
      have := (hf k g1).2
      refine ⟨k, g1, goE_sub l htn (by rw [e]; exact List.mem_append.2 (.inr (List.mem_singleton.2 rfl))), by omega, by omega⟩
  · rcases goE_last l t with h | ⟨u, j, h2, h3, h4, h5, h6, _⟩
    · rw [h] at hu; omega
    · rw [h2] at hu
      have := (hf j h4).2
      exact ⟨j, h4, goE_sub l (by omega) h5, by omega, by omega⟩

/-- No list of indexes that do not meet is longer. -/
theorem goE_most {l : List Bk} (hf : FwdE l) : ∀ (t : Nat) (C : List Nat), C.Nodup → (∀ c, c ∈ C → c < l.length) → (∀ i j, i ∈ C → j ∈ C → i ≠ j → ¬ meetE l i j) →
    (∀ c, c ∈ C → (l.getD c bk0).b ≤ (t : Int)) → C.length ≤ (goE l t).2.length := by
  intro t
  induction t using Nat.strongRecOn with
  | _ t ih =>
    intro C hnd hlt hap hb
    cases t with
    | zero =>
      cases C with
      | nil => exact Nat.le_refl _
      | cons c C => have h1 := hf c (hlt c (List.mem_cons_self ..)); have h2 := hb c (List.mem_cons_self ..); omega
    | succ t =>
      by_cases hex : ∃ c, c ∈ C ∧ (l.getD c bk0).b = ((t + 1 : Nat) : Int)
      · obtain ⟨c, hc, hcb⟩ := hex
        obtain ⟨h0, h1⟩ := hf c (hlt c hc)
        obtain ⟨a, ha⟩ : ∃ a : Nat, (l.getD c bk0).a = (a : Int) := ⟨((l.getD c bk0).a).toNat, by omega⟩
        have hat : a < t + 1 := by omega
        have hrest := ih a hat (C.erase c) (hnd.erase c) (fun x hx => hlt x (List.mem_of_mem_erase hx)) (fun i j hi hj => hap i j (List.mem_of_mem_erase hi) (List.mem_of_mem_erase hj)) (fun x hx => by
          have hx' := (hnd.mem_erase_iff).1 hx
          have hn := hap x c hx'.2 hc hx'.1
          have hxb := hb x hx'.2
          have hxf := hf x (hlt x hx'.2)
          unfold meetE at hn
          omega)
        rw [List.length_erase_of_mem hc] at hrest
        have hpos : 0 < C.length := List.length_pos_of_mem hc
        have hgoal : (goE l a).2.length + 1 ≤ (goE l (t + 1)).2.length := by
          by_cases hu : ((goE l t).1 : Int) ≤ (l.getD c bk0).a
          · rcases goE_step l t with ⟨_, e⟩ | ⟨k, hk, e⟩
            · have := atE_none.1 e c (hlt c hc)
              rw [hitE_iff.2 ⟨hcb, hu⟩] at this; cases this
            · rw [e]
              have := goE_len_mono l (show a ≤ t by omega)
              simp only [List.length_append, List.length_singleton]; omega
          · rcases goE_last l t with h | ⟨u, j, h2, h3, h4, h5, h6, h7⟩
            · rw [h] at hu; omega
            · rw [h2] at hu
              have := goE_len_mono l (show a ≤ u by omega)
              have := goE_len_mono l (show u + 1 ≤ t + 1 by omega)
              omega
        omega
      · have := ih t (by omega) C hnd hlt hap (fun c hc => by
          have h1 := hb c hc
          have h2 : ¬ (l.getD c bk0).b = ((t + 1 : Nat) : Int) := fun h => hex ⟨c, hc, h⟩
          omega)
        have := goE_len_mono l (show t ≤ t + 1 by omega)
        omega

theorem validB_fwd {n : Int} {l : List Bk} (h : validB n l = true) : FwdE l ∧ (∀ i, i < l.length → (l.getD i bk0).b ≤ n) ∧ 1 ≤ n := by
  obtain ⟨⟨hn1, _⟩, _, hfit, _⟩ := validB_iff.1 h
  exact ⟨fun i hi => by have := fitsB_iff.1 (hfit i hi); exact ⟨this.1, this.2.1⟩, fun i hi => (fitsB_iff.1 (hfit i hi)).2.2, hn1⟩
theorem pickE_mem {l : List Bk} {n k : Nat} {z : Int} : z ∈ pickE l n k ↔ ∃ i : Nat, z = (i : Int) ∧ i < k ∧ i ∈ (goE l n).2 := by
  simp only [pickE, List.mem_map, List.mem_filter, List.mem_range, List.contains_iff_mem]
  constructor
  · rintro ⟨i, ⟨h1, h2⟩, rfl⟩; exact ⟨i, rfl, h1, h2⟩
  · rintro ⟨i, rfl, h1, h2⟩; exact ⟨i, ⟨h1, h2⟩, rfl⟩
theorem pickE_full {l : List Bk} (hf : FwdE l) (n : Nat) : (pickE l n l.length).length = (goE l n).2.length := by
  rw [← pickE_sort hf.lt n, List.length_mergeSort, List.length_map]
/-- What a law may use of the best: the elements are indexes; two of them do not meet; each one meets one of them; their number. -/
theorem bestX_facts {n : Int} {l : List Bk} (h : bestOk n l = true) :
    (∀ k, k < (bestX n l).length → ∃ i : Nat, (bestX n l).getD k 0 = (i : Int) ∧ i < l.length) ∧
    (∀ i j : Nat, (i : Int) ∈ bestX n l → (j : Int) ∈ bestX n l → i ≠ j → ¬ meetE l i j) ∧
    (∀ i, i < l.length → ∃ k j : Nat, k < (bestX n l).length ∧ (bestX n l).getD k 0 = (j : Int) ∧ meetE l i j) ∧
    ((bestX n l).length : Int) ≤ n ∧ (0 < (bestX n l).length ↔ 0 < l.length) := by
  obtain ⟨hv, _⟩ := bestOk_iff.1 h
  obtain ⟨hf, hb, hn1⟩ := validB_fwd hv
  rw [bestX_yes h]
  have hbn : ∀ i, i < l.length → (l.getD i bk0).b ≤ (n.toNat : Int) := fun i hi => by have := hb i hi; omega
  have hget : ∀ k, k < (pickE l n.toNat l.length).length → (pickE l n.toNat l.length).getD k 0 ∈ pickE l n.toNat l.length := fun k hk => by
    simp [List.getD, hk]
  have hhit : ∀ i, i < l.length → ∃ k j : Nat, k < (pickE l n.toNat l.length).length ∧ (pickE l n.toNat l.length).getD k 0 = (j : Int) ∧ meetE l i j := fun i hi => by
    obtain ⟨j, hj, hm, hmt⟩ := goE_hit hf hi (hbn i hi)
    obtain ⟨k, hk, e⟩ := List.getElem_of_mem (pickE_mem.2 ⟨j, rfl, hj, hm⟩)
    exact ⟨k, j, hk, by simp [List.getD, hk, e], hmt⟩
  refine ⟨fun k hk => ?_, fun i j hi hj hij => ?_, hhit, ?_, ?_⟩
  · obtain ⟨i, e, hi, _⟩ := pickE_mem.1 (hget k hk); exact ⟨i, e, hi⟩
  · obtain ⟨i', e, _, hi⟩ := pickE_mem.1 hi
    obtain ⟨j', e', _, hj⟩ := pickE_mem.1 hj
    have : i' = i := by omega
    have : j' = j := by omega
    subst i' j'
    exact goE_apart hf _ i j hi hj hij
  · rw [pickE_full hf]; have := goE_le l n.toNat; omega
  · constructor
    · intro h1; have := pickE_len l n.toNat l.length; omega
    · intro h1; obtain ⟨k, _, hk, _⟩ := hhit 0 h1; omega
theorem bestX_most {n : Int} {l : List Bk} (h : bestOk n l = true) {C : List Nat} (hnd : C.Nodup) (hlt : ∀ c, c ∈ C → c < l.length) (hap : ∀ i j, i ∈ C → j ∈ C → i ≠ j → ¬ meetE l i j) : C.length ≤ (bestX n l).length := by
  obtain ⟨hv, _⟩ := bestOk_iff.1 h
  obtain ⟨hf, hb, hn1⟩ := validB_fwd hv
  rw [bestX_yes h, pickE_full hf]
  exact goE_most hf _ C hnd hlt hap (fun c hc => by have := hb c (hlt c hc); omega)

end Go.Proofs.Ytlkhgnglblgldaa
