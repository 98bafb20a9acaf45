/- Pure facts on way-bills: the order of From, greatest To first; no program. -/
import Derived.Test.YtmdcpigobfhckaaFF
namespace Go.Proofs.Ytmdcpigobfhckaa

/-- The parcels between two stops, among the first ones. -/
def pickF (l : List Fr) (f t : Int) : Nat → List Nat
  | 0 => []
  | k + 1 => if (l.getD k fr0).a = f ∧ (l.getD k fr0).b = t then pickF l f t k ++ [k] else pickF l f t k
/-- Those from a stop, the farthest first. -/
def tosF (l : List Fr) (n : Nat) (f : Int) : Nat → List Nat
  | 0 => []
  | j + 1 => tosF l n f j ++ pickF l f ((n : Int) - j) l.length
/-- Those from the first stops. -/
def fromsF (l : List Fr) (n : Nat) : Nat → List Nat
  | 0 => []
  | f + 1 => fromsF l n f ++ tosF l n f (n - f)
def ordF (l : List Fr) (n : Nat) : List Nat := fromsF l n n

/-- Which parcel comes first. -/
def ltP (l : List Fr) (i j : Nat) : Prop := (l.getD i fr0).a < (l.getD j fr0).a ∨ ((l.getD i fr0).a = (l.getD j fr0).a ∧ ((l.getD j fr0).b < (l.getD i fr0).b ∨ ((l.getD j fr0).b = (l.getD i fr0).b ∧ i < j)))
theorem ltP_asymm {l : List Fr} {i j : Nat} (h : ltP l i j) (k : ltP l j i) : False := by unfold ltP at h k; omega

theorem pickF_mem {l : List Fr} {f t : Int} {i : Nat} : ∀ {k : Nat}, i ∈ pickF l f t k ↔ i < k ∧ (l.getD i fr0).a = f ∧ (l.getD i fr0).b = t
  | 0 => by simp [pickF]
  | k + 1 => by
    simp only [pickF]
    split
    · rename_i h
      rw [List.mem_append, pickF_mem (k := k), List.mem_singleton]
      constructor
      · rintro (⟨h1, h2⟩ | rfl)
        · exact ⟨by omega, h2⟩
        · exact ⟨by omega, h⟩
      · rintro ⟨h1, h2⟩
        by_cases e : i = k
        · exact .inr e
        · exact .inl ⟨by omega, h2⟩
    · rename_i h
      rw [pickF_mem (k := k)]
      constructor
      · rintro ⟨h1, h2⟩; exact ⟨by omega, h2⟩
      · rintro ⟨h1, h2⟩
        refine ⟨?_, h2⟩
        by_cases e : i = k
        · subst e; exact absurd h2 h
        · omega
theorem pickF_sorted {l : List Fr} {f t : Int} : ∀ {k : Nat}, (pickF l f t k).Pairwise (ltP l)
  | 0 => List.Pairwise.nil
  | k + 1 => by
    simp only [pickF]
    split
    · rename_i h
      rw [List.pairwise_append]
      refine ⟨pickF_sorted, by simp, fun a ha b hb => ?_⟩
      rw [List.mem_singleton] at hb
      subst hb
      have := pickF_mem.1 ha
      unfold ltP; omega
    · exact pickF_sorted
theorem tosF_mem {l : List Fr} {n : Nat} {f : Int} {i : Nat} : ∀ {j : Nat}, i ∈ tosF l n f j ↔ i < l.length ∧ (l.getD i fr0).a = f ∧ (l.getD i fr0).b ≤ n ∧ (n : Int) - j < (l.getD i fr0).b
  | 0 => by simp [tosF] <;> omega
  | j + 1 => by
    simp only [tosF]
    rw [List.mem_append, tosF_mem (j := j), pickF_mem]
    omega
theorem tosF_sorted {l : List Fr} {n : Nat} {f : Int} : ∀ {j : Nat}, (tosF l n f j).Pairwise (ltP l)
  | 0 => List.Pairwise.nil
  | j + 1 => by
    simp only [tosF]
    rw [List.pairwise_append]
    refine ⟨tosF_sorted, pickF_sorted, fun a ha b hb => ?_⟩
    have h1 := tosF_mem.1 ha
    have h2 := pickF_mem.1 hb
    unfold ltP; omega
theorem fromsF_mem {l : List Fr} {n : Nat} {i : Nat} : ∀ {f : Nat}, f ≤ n → (i ∈ fromsF l n f ↔ i < l.length ∧ 0 ≤ (l.getD i fr0).a ∧ (l.getD i fr0).a < f ∧ (l.getD i fr0).a < (l.getD i fr0).b ∧ (l.getD i fr0).b ≤ n)
  | 0, _ => by simp [fromsF] <;> omega
  | f + 1, hf => by
    simp only [fromsF]
    rw [List.mem_append, fromsF_mem (f := f) (by omega), tosF_mem]
    omega
theorem fromsF_sorted {l : List Fr} {n : Nat} : ∀ {f : Nat}, f ≤ n → (fromsF l n f).Pairwise (ltP l)
  | 0, _ => List.Pairwise.nil
  | f + 1, hf => by
    simp only [fromsF]
    rw [List.pairwise_append]
    refine ⟨fromsF_sorted (by omega), tosF_sorted, fun a ha b hb => ?_⟩
    have h1 := (fromsF_mem (f := f) (by omega)).1 ha
    have h2 := tosF_mem.1 hb
    unfold ltP; omega
theorem ordF_mem {n : Nat} {l : List Fr} (ho : okFs n l l.length = true) {i : Nat} : i ∈ ordF l n ↔ i < l.length := by
  unfold ordF
  rw [fromsF_mem (Nat.le_refl _)]
  constructor
  · rintro ⟨h, _⟩; exact h
  · intro h
    obtain ⟨⟨h1, h2, h3⟩, _⟩ := okF_iff.1 (okFs_at ho h)
    exact ⟨h, h1, by omega, h2, h3⟩
theorem ordF_sorted {n : Nat} {l : List Fr} : (ordF l n).Pairwise (ltP l) := fromsF_sorted (Nat.le_refl _)

/-- Two lists in one order with the same members are one. -/
theorem order_one {r : Nat → Nat → Prop} (ha : ∀ a b, r a b → r b a → False) : ∀ {xs ys : List Nat}, xs.Pairwise r → ys.Pairwise r → (∀ i, i ∈ xs ↔ i ∈ ys) → xs = ys
  | [], [], _, _, _ => rfl
  | [], y :: ys, _, _, h => by have := (h y).2 List.mem_cons_self; cases this
  | x :: xs, [], _, _, h => by have := (h x).1 List.mem_cons_self; cases this
  | x :: xs, y :: ys, hx, hy, h => by
    rw [List.pairwise_cons] at hx hy
    have e : x = y := by
      have h1 := (h x).1 List.mem_cons_self
      have h2 := (h y).2 List.mem_cons_self
      rw [List.mem_cons] at h1 h2
      rcases h1 with h1 | h1
      · exact h1
      · rcases h2 with h2 | h2
        · exact h2.symm
        · exact (ha _ _ (hy.1 x h1) (hx.1 y h2)).elim
    subst e
    have hn : ∀ {zs : List Nat}, (∀ b ∈ zs, r x b) → x ∉ zs := fun hz hm => ha _ _ (hz x hm) (hz x hm)
    congr 1
    refine order_one ha hx.2 hy.2 fun i => ?_
    constructor
    · intro hi
      have := (h i).1 (List.mem_cons_of_mem _ hi)
      rw [List.mem_cons] at this
      rcases this with rfl | this
      · exact (hn hx.1 hi).elim
      · exact this
    · intro hi
      have := (h i).2 (List.mem_cons_of_mem _ hi)
      rw [List.mem_cons] at this
      rcases this with rfl | this
      · exact (hn hy.1 hi).elim
      · exact this

def orderX (n : Int) (l : List Fr) : List Fr := if validF n l = true then (ordF l n.toNat).map fun i => l.getD i fr0 else []
theorem orderX_no {n : Int} {l : List Fr} (h : validF n l = false) : orderX n l = [] := by simp [orderX, h]
theorem orderX_yes {n : Int} {l : List Fr} (h : validF n l = true) : orderX n l = (ordF l n.toNat).map fun i => l.getD i fr0 := by simp [orderX, h]

theorem pickF_len {l : List Fr} {f t : Int} : ∀ (k : Nat), (pickF l f t k).length ≤ k
  | 0 => Nat.le_refl _
  | k + 1 => by
    have := pickF_len (l := l) (f := f) (t := t) k
    simp only [pickF]
    split
    · simp only [List.length_append, List.length_singleton]; omega
    · omega
theorem tosF_len {l : List Fr} {n : Nat} {f : Int} (hl : l.length ≤ 12) : ∀ (j : Nat), (tosF l n f j).length ≤ 12 * j
  | 0 => Nat.le_refl _
  | j + 1 => by
    have h1 := tosF_len (l := l) (n := n) (f := f) hl j
    have h2 := pickF_len (l := l) (f := f) (t := (n : Int) - j) l.length
    simp only [tosF, List.length_append]; omega
theorem fromsF_len {l : List Fr} {n : Nat} (hl : l.length ≤ 12) (hn : n ≤ 7) : ∀ (f : Nat), (fromsF l n f).length ≤ 84 * f
  | 0 => Nat.le_refl _
  | f + 1 => by
    have h1 := fromsF_len (l := l) (n := n) hl hn f
    have h2 := tosF_len (l := l) (n := n) (f := (f : Int)) hl (n - f)
    simp only [fromsF, List.length_append]; omega
theorem orderX_short (n : Int) (l : List Fr) : (orderX n l).length ≤ 1048576 := by
  unfold orderX
  split
  · rename_i h
    have h1 := headF_iff.1 (valid_head h)
    have := fromsF_len (l := l) (n := n.toNat) h1.2 (by omega) n.toNat
    rw [List.length_map]; unfold ordF; omega
  · simp

end Go.Proofs.Ytmdcpigobfhckaa
