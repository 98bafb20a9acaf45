/- Pure facts on way-bills: the stack and the moves; no program. -/
import Derived.Test.YtmdcpigobfhckaaFE
namespace Go.Proofs.Ytmdcpigobfhckaa

/-- Parcels to a stop are taken out, among the first ones. -/
def outsF (l : List Fr) (s : Nat) : Nat → List Nat × Nat → List Nat × Nat
  | 0, x => x
  | k + 1, x => if (l.getD k fr0).b = (s : Int) then ((outsF l s k x).1.erase k, (outsF l s k x).2 + ((outsF l s k x).1.length - 1 - (outsF l s k x).1.idxOf k)) else outsF l s k x
/-- Parcels from a stop are put on top, among the first ones. -/
def putsF (l : List Fr) (s : Nat) : Nat → List Nat → List Nat
  | 0, x => x
  | k + 1, x => if (l.getD k fr0).a = (s : Int) then putsF l s k x ++ [k] else putsF l s k x
def stopF (l : List Fr) (s : Nat) (x : List Nat × Nat) : List Nat × Nat := (putsF l s l.length (outsF l s l.length x).1, (outsF l s l.length x).2)
/-- The stack and the moves ahead of a stop. -/
def runF (l : List Fr) : Nat → List Nat × Nat
  | 0 => ([], 0)
  | s + 1 => stopF l s (runF l s)

/-- What lies on the coach ahead of a stop, with the first parcels to it taken out. -/
structure OutInv (l : List Fr) (s k : Nat) (st : List Nat) : Prop where
  nd : st.Nodup
  mem : ∀ i, i ∈ st ↔ i < l.length ∧ (l.getD i fr0).a < s ∧ (s < (l.getD i fr0).b ∨ ((l.getD i fr0).b = s ∧ k ≤ i))
structure PutInv (l : List Fr) (s k : Nat) (st : List Nat) : Prop where
  nd : st.Nodup
  mem : ∀ i, i ∈ st ↔ i < l.length ∧ s < (l.getD i fr0).b ∧ ((l.getD i fr0).a < s ∨ ((l.getD i fr0).a = s ∧ i < k))

theorem OutInv.has {n : Int} {l : List Fr} {s k : Nat} {st : List Nat} (h : OutInv l s k st) (ho : okFs n l l.length = true) (hk : k < l.length) (hb : (l.getD k fr0).b = s) : k ∈ st := by
  obtain ⟨⟨_, h1, _⟩, _⟩ := okF_iff.1 (okFs_at ho hk)
  exact (h.mem k).2 ⟨hk, by omega, .inr ⟨hb, Nat.le_refl _⟩⟩
theorem OutInv.out {l : List Fr} {s k : Nat} {st : List Nat} (h : OutInv l s k st) (hb : (l.getD k fr0).b = s) : OutInv l s (k + 1) (st.erase k) :=
  ⟨h.nd.erase _, fun i => by
    rw [h.nd.mem_erase_iff, h.mem i]
    constructor
    · rintro ⟨hn, h1, h2, h3⟩
      exact ⟨h1, h2, by omega⟩
    · rintro ⟨h1, h2, h3⟩
      refine ⟨?_, h1, h2, by omega⟩
      rintro rfl; omega⟩
theorem OutInv.skip {l : List Fr} {s k : Nat} {st : List Nat} (h : OutInv l s k st) (hb : ¬ (l.getD k fr0).b = s) : OutInv l s (k + 1) st :=
  ⟨h.nd, fun i => by
    rw [h.mem i]
    by_cases e : i = k
    · subst e; omega
    · omega⟩
theorem OutInv.done {n : Int} {l : List Fr} {s : Nat} {st : List Nat} (h : OutInv l s l.length st) (ho : okFs n l l.length = true) : PutInv l s 0 st :=
  ⟨h.nd, fun i => by
    rw [h.mem i]
    constructor <;> (rintro ⟨h1, h2, h3⟩; obtain ⟨⟨_, h4, _⟩, _⟩ := okF_iff.1 (okFs_at ho h1); omega)⟩
theorem PutInv.fresh {l : List Fr} {s k : Nat} {st : List Nat} (h : PutInv l s k st) (ha : (l.getD k fr0).a = s) : k ∉ st := fun hm => by
  have := (h.mem k).1 hm; omega
theorem PutInv.put {n : Int} {l : List Fr} {s k : Nat} {st : List Nat} (h : PutInv l s k st) (ho : okFs n l l.length = true) (hk : k < l.length) (ha : (l.getD k fr0).a = s) : PutInv l s (k + 1) (st ++ [k]) :=
  ⟨by
    rw [List.nodup_append]
    refine ⟨h.nd, by simp, fun a ha' b hb => ?_⟩
    simp only [List.mem_singleton] at hb
    subst hb
    rintro rfl
    exact h.fresh ha ha', fun i => by
    rw [List.mem_append, h.mem i, List.mem_singleton]
    by_cases e : i = k
    · subst e
      obtain ⟨⟨_, h1, _⟩, _⟩ := okF_iff.1 (okFs_at ho hk)
      constructor
      · intro _; exact ⟨hk, by omega, .inr ⟨ha, by omega⟩⟩
      · intro _; exact .inr rfl
    · constructor
      · rintro (⟨h1, h2, h3⟩ | h1)
        · exact ⟨h1, h2, by omega⟩
        · exact absurd h1 e
      · rintro ⟨h1, h2, h3⟩
        exact .inl ⟨h1, h2, by omega⟩⟩
theorem PutInv.skip {l : List Fr} {s k : Nat} {st : List Nat} (h : PutInv l s k st) (ha : ¬ (l.getD k fr0).a = s) : PutInv l s (k + 1) st :=
  ⟨h.nd, fun i => by
    rw [h.mem i]
    by_cases e : i = k
    · subst e; omega
    · omega⟩
theorem PutInv.done {l : List Fr} {s : Nat} {st : List Nat} (h : PutInv l s l.length st) : OutInv l (s + 1) 0 st :=
  ⟨h.nd, fun i => by
    rw [h.mem i]
    constructor <;> (rintro ⟨h1, h2, h3⟩; omega)⟩
theorem OutInv.start {n : Int} {l : List Fr} (ho : okFs n l l.length = true) : OutInv l 0 0 [] :=
  ⟨List.nodup_nil, fun i => by
    constructor
    · intro h; cases h
    · rintro ⟨h1, h2, h3⟩
      obtain ⟨⟨h4, _⟩, _⟩ := okF_iff.1 (okFs_at ho h1)
      omega⟩

theorem outs_inv {n : Int} {l : List Fr} {s : Nat} {x : List Nat × Nat} (ho : okFs n l l.length = true) (h : OutInv l s 0 x.1) : ∀ {k : Nat}, k ≤ l.length → OutInv l s k (outsF l s k x).1
  | 0, _ => h
  | k + 1, hk => by
    have ih := outs_inv (k := k) ho h (by omega)
    simp only [outsF]
    split
    · rename_i hb; exact ih.out hb
    · rename_i hb; exact ih.skip hb
theorem puts_inv {n : Int} {l : List Fr} {s : Nat} {st : List Nat} (ho : okFs n l l.length = true) (h : PutInv l s 0 st) : ∀ {k : Nat}, k ≤ l.length → PutInv l s k (putsF l s k st)
  | 0, _ => h
  | k + 1, hk => by
    have ih := puts_inv (k := k) ho h (by omega)
    simp only [putsF]
    split
    · rename_i ha; exact ih.put ho (by omega) ha
    · rename_i ha; exact ih.skip ha
theorem run_inv {n : Int} {l : List Fr} (ho : okFs n l l.length = true) : ∀ (s : Nat), OutInv l s 0 (runF l s).1
  | 0 => OutInv.start ho
  | s + 1 => by
    simp only [runF, stopF]
    exact (puts_inv ho ((outs_inv ho (run_inv ho s) (Nat.le_refl _)).done ho) (Nat.le_refl _)).done

theorem outs_len {l : List Fr} {s : Nat} {x : List Nat × Nat} : ∀ (k : Nat), (outsF l s k x).1.length ≤ x.1.length
  | 0 => Nat.le_refl _
  | k + 1 => by
    have ih := outs_len (l := l) (s := s) (x := x) k
    simp only [outsF]
    split
    · have := List.length_erase_le (l := (outsF l s k x).1) (a := k); simp only; omega
    · exact ih
theorem outs_mv {l : List Fr} {s : Nat} {x : List Nat × Nat} : ∀ (k : Nat), (outsF l s k x).2 ≤ x.2 + k * x.1.length
  | 0 => by simp [outsF]
  | k + 1 => by
    have ih := outs_mv (l := l) (s := s) (x := x) k
    have h1 := outs_len (l := l) (s := s) (x := x) k
    have e : (k + 1) * x.1.length = k * x.1.length + x.1.length := by rw [Nat.add_mul, Nat.one_mul]
    simp only [outsF]
    split
    · simp only; omega
    · omega
theorem puts_len {l : List Fr} {s : Nat} {st : List Nat} : ∀ (k : Nat), (putsF l s k st).length ≤ st.length + k
  | 0 => by simp [putsF]
  | k + 1 => by
    have ih := puts_len (l := l) (s := s) (st := st) k
    simp only [putsF]
    split
    · simp only [List.length_append, List.length_singleton]; omega
    · omega
theorem run_len {l : List Fr} (hl : l.length ≤ 12) : ∀ (s : Nat), (runF l s).1.length ≤ 12 * s
  | 0 => by simp [runF]
  | s + 1 => by
    have ih := run_len hl s
    simp only [runF, stopF]
    have h1 := puts_len (l := l) (s := s) (st := (outsF l s l.length (runF l s)).1) l.length
    have h2 := outs_len (l := l) (s := s) (x := runF l s) l.length
    omega
theorem mul_bd {a b c d : Nat} (h1 : a ≤ c) (h2 : b ≤ d) : a * b ≤ c * d := Nat.mul_le_mul h1 h2
theorem run_mv {l : List Fr} (hl : l.length ≤ 12) : ∀ (s : Nat), s ≤ 8 → (runF l s).2 ≤ 1200 * s
  | 0, _ => by simp [runF]
  | s + 1, hs => by
    have ih := run_mv hl s (by omega)
    have h0 := run_len hl s
    have h1 := outs_mv (l := l) (s := s) (x := runF l s) l.length
    have h2 : l.length * (runF l s).1.length ≤ 12 * 96 := mul_bd hl (by omega)
    simp only [runF, stopF]
    omega

/-- A stack with an index in it: what lies below, and above. -/
theorem split_at {st : List Nat} {k : Nat} (hn : st.Nodup) (hk : k ∈ st) : ∃ pre post, st = pre ++ k :: post ∧ k ∉ pre ∧ k ∉ post ∧ st.erase k = pre ++ post ∧ st.length - 1 - st.idxOf k = post.length ∧ st.idxOf k = pre.length := by
  obtain ⟨pre, post, rfl⟩ := List.append_of_mem hk
  have h := hn
  rw [List.nodup_append] at h
  obtain ⟨h1, h2, h3⟩ := h
  have hp : k ∉ pre := fun hm => h3 k hm k (by simp) rfl
  have hq : k ∉ post := (List.nodup_cons.1 h2).1
  have e : (pre ++ k :: post).idxOf k = pre.length := by
    rw [List.idxOf_append, if_neg hp]; simp
  refine ⟨pre, post, rfl, hp, hq, ?_, ?_, e⟩
  · rw [List.erase_append, if_neg hp]; simp
  · rw [e]; simp

end Go.Proofs.Ytmdcpigobfhckaa
