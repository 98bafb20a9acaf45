/- Pure facts on way-bills: who lies in the stack, and in what order; no program. -/
import Derived.Test.YtmdcpigobfhckaaFY
import Derived.Test.YtmdcpigobfhckaaFX
namespace Go.Proofs.Ytmdcpigobfhckaa

def befS (l : List Fr) (i j : Nat) : Prop := (l.getD i fr0).a < (l.getD j fr0).a ∨ ((l.getD i fr0).a = (l.getD j fr0).a ∧ i < j)
theorem outs_sorted {l : List Fr} {s : Nat} {x : List Nat × Nat} (h : x.1.Pairwise (befS l)) : ∀ (k : Nat), (outsF l s k x).1.Pairwise (befS l)
  | 0 => h
  | k + 1 => by
    simp only [outsF]
    split
    · exact (outs_sorted h k).sublist List.erase_sublist
    · exact outs_sorted h k
theorem puts_sorted {n : Int} {l : List Fr} {s : Nat} {st : List Nat} (ho : okFs n l l.length = true) (hi : PutInv l s 0 st) (h : st.Pairwise (befS l)) : ∀ {k : Nat}, k ≤ l.length → (putsF l s k st).Pairwise (befS l)
  | 0, _ => h
  | k + 1, hk => by
    have ih := puts_sorted ho hi h (k := k) (by omega)
    have hm := puts_inv ho hi (k := k) (by omega)
    simp only [putsF]
    split
    · rename_i ha
      rw [List.pairwise_append]
      refine ⟨ih, by simp, fun i hi j hj => ?_⟩
      rw [List.mem_singleton] at hj
      subst hj
      have := (hm.mem i).1 hi
      unfold befS; omega
    · exact ih
theorem run_sorted {n : Int} {l : List Fr} (ho : okFs n l l.length = true) : ∀ (s : Nat), (runF l s).1.Pairwise (befS l)
  | 0 => List.Pairwise.nil
  | s + 1 => by
    simp only [runF, stopF]
    exact puts_sorted ho ((outs_inv ho (run_inv ho s) (Nat.le_refl _)).done ho) (outs_sorted (run_sorted ho s) _) (Nat.le_refl _)
theorem run_mem {n : Int} {l : List Fr} (ho : okFs n l l.length = true) {S i : Nat} : i ∈ (runF l (S + 1)).1 ↔ i < l.length ∧ (l.getD i fr0).a ≤ S ∧ (S : Int) < (l.getD i fr0).b := by
  rw [(run_inv ho (S + 1)).mem i]; omega
theorem castS_mem {st : List Nat} {i : Nat} : (i : Int) ∈ castS st ↔ i ∈ st := by
  unfold castS
  rw [List.mem_map]
  constructor
  · rintro ⟨j, hj, e⟩
    have : j = i := by omega
    rwa [this] at hj
  · intro h; exact ⟨i, h, rfl⟩
theorem castS_at {st : List Nat} {k : Nat} (h : k < st.length) : (castS st).getD k 0 = ((st.getD k 0 : Nat) : Int) := by simp [castS, List.getD, h]
theorem sorted_at {l : List Fr} {st : List Nat} (h : st.Pairwise (befS l)) {k : Nat} (hk : k + 1 < st.length) : befS l (st.getD k 0) (st.getD (k + 1) 0) := by
  have := List.pairwise_iff_getElem.1 h k (k + 1) (by omega) hk (by omega)
  simpa [List.getD, hk, show k < st.length by omega] using this
theorem getD_mem {st : List Nat} {k : Nat} (h : k < st.length) : st.getD k 0 ∈ st := by
  simp [List.getD, h]

end Go.Proofs.Ytmdcpigobfhckaa
