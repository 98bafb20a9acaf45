/- Teams away and teams at home: plain facts. -/
import Derived.Test.YtmcapcclnkicbabUH
import Derived.Test.YtmcapcclnkicbabH
namespace Go.Proofs.Ytmcapcclnkicbab

def natI (n : Nat) : List Int := (List.range n).map fun (t : Nat) => (t : Int)
theorem mem_natI {n : Nat} {t : Int} : t ∈ natI n ↔ 0 ≤ t ∧ t < (n : Int) := by
  unfold natI
  rw [List.mem_map]
  constructor
  · rintro ⟨a, ha, rfl⟩; have := List.mem_range.1 ha; omega
  · rintro ⟨h0, h1⟩; exact ⟨t.toNat, List.mem_range.2 (by omega), by omega⟩
theorem natI_succ (n : Nat) : natI (n + 1) = natI n ++ [(n : Int)] := by unfold natI; rw [List.range_succ, List.map_append]; rfl
theorem natI_len (n : Nat) : (natI n).length = n := by simp [natI]

theorem freeTo_same {l : List Rn} {rest : Int} {r r' : List Int} {t : Int} : ∀ {j : Nat}, (∀ k, k < j → r.getD k 0 = r'.getD k 0) → freeTo l rest r t j = freeTo l rest r' t j
  | 0, _ => rfl
  | j + 1, h => by
    unfold freeTo
    rw [h j (by omega), freeTo_same (j := j) (fun k hk => h k (by omega))]

/-- When team t is free behind the first i runs. -/
def freeI (l : List Rn) (rest : Int) (i : Nat) (t : Int) : Int := freeTo l rest (mkTo l rest i) t i

theorem freeI_hit (l : List Rn) (rest : Int) (i : Nat) : freeI l rest (i + 1) (leastT l rest (mkTo l rest i) i : Int) = (l.getD i rn0).b + rest := by
  unfold freeI freeTo
  rw [if_pos (mkTo_at l rest i)]
theorem freeI_miss {l : List Rn} {rest : Int} {i : Nat} {t : Int} (h : t ≠ (leastT l rest (mkTo l rest i) i : Int)) : freeI l rest (i + 1) t = freeI l rest i t := by
  show (if (mkTo l rest (i + 1)).getD i 0 = t then (l.getD i rn0).b + rest else freeTo l rest (mkTo l rest (i + 1)) t i) = freeTo l rest (mkTo l rest i) t i
  rw [if_neg (by rw [mkTo_at]; exact Ne.symm h)]
  exact freeTo_same fun k hk => mkTo_lt l rest hk

theorem can_freeI {l : List Rn} {rest : Int} (hz : okR l rest = true) {i : Nat} (hi : i < l.length) (t : Int) : canU l rest (mkTo l rest i) i t = true ↔ freeI l rest i t ≤ (l.getD i rn0).a :=
  can_free hz hi (fun k hk => mk_can l rest hk) t

/-- Of n teams those of A are away, those of H at home; who is at home is free at s. -/
structure TInv (l : List Rn) (rest : Int) (i : Nat) (s : Int) (A H : List Pl) (n : Nat) : Prop where
  cnt : n = cntTo l rest i
  perm : (A.map (·.1) ++ H.map (·.2)).Perm (natI n)
  away : ∀ p, p ∈ A → p.2 = freeI l rest i p.1
  home : ∀ p, p ∈ H → freeI l rest i p.2 ≤ s

theorem TInv.len {l : List Rn} {rest : Int} {i : Nat} {s : Int} {A H : List Pl} {n : Nat} (h : TInv l rest i s A H n) : A.length + H.length = n ∧ n ≤ i := by
  have h1 := h.perm.length_eq
  have h2 := cntTo_le l rest i
  rw [natI_len] at h1
  simp only [List.length_append, List.length_map] at h1
  have := h.cnt
  omega

theorem TInv.start (l : List Rn) (rest s : Int) : TInv l rest 0 s [] [] 0 := ⟨rfl, List.Perm.refl _, fun p hp => (by cases hp), fun p hp => (by cases hp)⟩

theorem TInv.mono {l : List Rn} {rest : Int} {i : Nat} {s s' : Int} {A H : List Pl} {n : Nat} (h : TInv l rest i s A H n) (hs : s ≤ s') : TInv l rest i s' A H n :=
  ⟨h.cnt, h.perm, h.away, fun p hp => by have := h.home p hp; omega⟩

/-- A team comes home. -/
theorem TInv.move {l : List Rn} {rest : Int} {i : Nat} {s : Int} {A A' H H' : List Pl} {n : Nat} {p : Pl} (h : TInv l rest i s A H n) (hA : (p :: A').Perm A) (hH : H'.Perm (H ++ [(0, p.1)])) (hp : p.2 ≤ s) : TInv l rest i s A' H' n := by
  refine ⟨h.cnt, ?_, fun q hq => h.away q (hA.mem_iff.1 (List.mem_cons_of_mem _ hq)), fun q hq => ?_⟩
  · refine List.Perm.trans ?_ h.perm
    have h1 := (hA.map (·.1)).symm
    have h2 := hH.map (·.2)
    simp only [List.map_cons, List.map_append, List.map_nil] at h1 h2
    refine ((h2.append_left _).trans ?_).trans (h1.append_right _).symm
    refine (List.perm_append_comm (l₁ := A'.map (·.1))).trans ?_
    rw [List.append_assoc, List.singleton_append]
    exact List.perm_append_comm
  · rcases List.mem_append.1 (hH.mem_iff.1 hq) with h' | h'
    · exact h.home q h'
    · simp only [List.mem_singleton] at h'
      subst h'
      have := h.away p (hA.mem_iff.1 (List.mem_cons_self))
      show freeI l rest i p.1 ≤ s
      omega

/-- At least one team is at home, or a new one has come. -/
structure TNew (l : List Rn) (rest : Int) (i : Nat) (s : Int) (A H : List Pl) (n : Nat) : Prop where
  perm : (A.map (·.1) ++ H.map (·.2)).Perm (natI n)
  away : ∀ p, p ∈ A → p.2 = freeI l rest i p.1 ∧ s < p.2
  from_ : (n = cntTo l rest i ∧ ∀ p, p ∈ H → freeI l rest i p.2 ≤ s) ∨ (n = cntTo l rest i + 1 ∧ H.map (·.2) = [(cntTo l rest i : Int)])
  some_ : 0 < H.length

theorem TInv.keep {l : List Rn} {rest : Int} {i : Nat} {s : Int} {A H : List Pl} {n : Nat} (h : TInv l rest i s A H n) (ha : ∀ p, p ∈ A → s < p.2) (h0 : 0 < H.length) : TNew l rest i s A H n :=
  ⟨h.perm, fun p hp => ⟨h.away p hp, ha p hp⟩, .inl ⟨h.cnt, h.home⟩, h0⟩

theorem TInv.fresh {l : List Rn} {rest : Int} {i : Nat} {s : Int} {A H' : List Pl} {n : Nat} (h : TInv l rest i s A [] n) (ha : ∀ p, p ∈ A → s < p.2) (hH : H'.Perm ([] ++ [(0, (n : Int))])) : TNew l rest i s A H' (n + 1) := by
  have e : H' = [(0, (n : Int))] := List.perm_singleton.1 hH
  subst e
  refine ⟨?_, fun p hp => ⟨h.away p hp, ha p hp⟩, .inr ⟨by rw [h.cnt], by rw [h.cnt]; rfl⟩, by simp⟩
  have := h.perm
  simp only [List.map_nil, List.append_nil] at this
  rw [natI_succ]
  exact this.append_right _

/-- The least team at home is the least that can begin the run. -/
theorem TNew.least {l : List Rn} {rest : Int} {i : Nat} {A H : List Pl} {n : Nat} (hz : okR l rest = true) (hi : i < l.length) (h : TNew l rest i (l.getD i rn0).a A H n) {t : Int} (ht : t ∈ H.map (·.2)) (hmin : ∀ u, u ∈ H.map (·.2) → t ≤ u) :
    t = (leastT l rest (mkTo l rest i) i : Int) ∧ cntTo l rest (i + 1) = n := by
  have htn : t ∈ natI n := h.perm.mem_iff.1 (List.mem_append_right _ ht)
  obtain ⟨t0, t1⟩ := mem_natI.1 htn
  obtain ⟨k, rfl⟩ : ∃ k : Nat, t = (k : Int) := ⟨t.toNat, by omega⟩
  have hlt : ∀ u, u < k → canU l rest (mkTo l rest i) i (u : Int) = false := fun u hu => by
    have hun : (u : Int) ∈ natI n := mem_natI.2 ⟨by omega, by omega⟩
    rcases List.mem_append.1 (h.perm.mem_iff.2 hun) with h' | h'
    · obtain ⟨p, hp, he⟩ := List.mem_map.1 h'
      obtain ⟨a1, a2⟩ := h.away p hp
      rw [Bool.eq_false_iff]
      intro hc
      have := (can_freeI hz hi _).1 hc
      rw [← he, ← a1] at this
      omega
    · have := hmin _ h'; omega
  have hcan : canU l rest (mkTo l rest i) i (k : Int) = true := by
    rcases h.from_ with ⟨h1, h2⟩ | ⟨h1, h2⟩
    · obtain ⟨p, hp, he⟩ := List.mem_map.1 ht
      rw [← he]
      exact (can_freeI hz hi _).2 (h2 p hp)
    · rw [h2] at ht
      simp only [List.mem_singleton] at ht
      refine canTo_iff.2 fun j hj hjt => ?_
      have := mk_cnt l rest hj
      omega
  have e := least_is hcan hlt
  refine ⟨by rw [e], ?_⟩
  rw [cntTo_succ, e]
  rcases h.from_ with ⟨h1, h2⟩ | ⟨h1, h2⟩
  · omega
  · rw [h2] at ht
    simp only [List.mem_singleton] at ht
    omega

theorem natI_nodup (n : Nat) : (natI n).Nodup := by
  unfold natI
  rw [List.nodup_iff_pairwise_ne, List.pairwise_map]
  exact List.nodup_range.imp fun h e => h (by omega)

/-- The team goes. -/
theorem TNew.go {l : List Rn} {rest : Int} {i : Nat} {A A' H H' : List Pl} {n : Nat} {p : Pl} {s' : Int} (hz : okR l rest = true) (hi : i < l.length) (h : TNew l rest i (l.getD i rn0).a A H n) (hH : (p :: H').Perm H) (hmin : ∀ u, u ∈ H.map (·.2) → p.2 ≤ u)
    (hA : A'.Perm (A ++ [(p.2, (l.getD i rn0).b + rest)])) (hs : (l.getD i rn0).a ≤ s') : p.2 = (leastT l rest (mkTo l rest i) i : Int) ∧ TInv l rest (i + 1) s' A' H' n := by
  have hpH : p.2 ∈ H.map (·.2) := List.mem_map.2 ⟨p, hH.mem_iff.1 List.mem_cons_self, rfl⟩
  obtain ⟨ht, hc⟩ := h.least hz hi hpH hmin
  have hperm : (A.map (·.1) ++ (p.2 :: H'.map (·.2))).Perm (natI n) := ((hH.map (·.2)).append_left _).trans h.perm
  have hnd : (A.map (·.1) ++ (p.2 :: H'.map (·.2))).Nodup := hperm.nodup_iff.2 (natI_nodup n)
  obtain ⟨_, hnd2, hnd3⟩ := List.nodup_append.1 hnd
  refine ⟨ht, ⟨hc.symm, ?_, fun q hq => ?_, fun q hq => ?_⟩⟩
  · refine List.Perm.trans ?_ hperm
    have h1 := hA.map (·.1)
    simp only [List.map_append, List.map_cons, List.map_nil] at h1
    refine (h1.append_right _).trans ?_
    rw [List.append_assoc, List.singleton_append]
  · rcases List.mem_append.1 (hA.mem_iff.1 hq) with h' | h'
    · have hne : q.1 ≠ (leastT l rest (mkTo l rest i) i : Int) := by
        rw [← ht]
        exact hnd3 q.1 (List.mem_map.2 ⟨q, h', rfl⟩) p.2 (List.mem_cons_self)
      rw [freeI_miss hne]
      exact (h.away q h').1
    · simp only [List.mem_singleton] at h'
      subst h'
      show (l.getD i rn0).b + rest = freeI l rest (i + 1) p.2
      rw [ht, freeI_hit]
  · have hne : q.2 ≠ (leastT l rest (mkTo l rest i) i : Int) := by
      rw [← ht]
      intro e
      have := (List.nodup_cons.1 hnd2).1
      exact this (e ▸ List.mem_map.2 ⟨q, hq, rfl⟩)
    rw [freeI_miss hne]
    rcases h.from_ with ⟨h1, h2⟩ | ⟨h1, h2⟩
    · have := h2 q (hH.mem_iff.1 (List.mem_cons_of_mem _ hq)); omega
    · exfalso
      have hl := hH.length_eq
      have hl2 := congrArg List.length h2
      simp only [List.length_cons, List.length_map, List.length_nil] at hl hl2
      have : H' = [] := List.eq_nil_of_length_eq_zero (by omega)
      rw [this] at hq; cases hq

/-- Of a heap of teams at home the first is the least. -/
theorem heap_least {H : List Pl} (h : HeapTo H H.length) : ∀ u, u ∈ H.map (·.2) → (H.getD 0 pl0).2 ≤ u := by
  intro u hu
  obtain ⟨p, hp, rfl⟩ := List.mem_map.1 hu
  obtain ⟨k, hk, rfl⟩ := List.getElem_of_mem hp
  have := h.min k hk
  unfold farAt at this
  rw [getP H hk] at this
  exact this

theorem heap_first {A : List Pl} (h : HeapTo A A.length) {s : Int} (h0 : 0 < A.length → s < (A.getD 0 pl0).2) : ∀ p, p ∈ A → s < p.2 := by
  intro p hp
  have hl : 0 < A.length := List.length_pos_of_mem hp
  have := heap_least h p.2 (List.mem_map.2 ⟨p, hp, rfl⟩)
  have := h0 hl
  omega

end Go.Proofs.Ytmcapcclnkicbab
