/- Pure facts on way-bills: in From's order they have one load, and stay. -/
import Derived.Test.YtmdcpigobfhckaaFOR
import Derived.Test.YtmdcpigobfhckaaFX
namespace Go.Proofs.Ytmdcpigobfhckaa

theorem ordF_nodup {l : List Fr} {N : Nat} : (ordF l N).Nodup := (ordF_sorted (l := l) (n := N)).imp fun h e => by subst e; exact ltP_asymm h h
theorem ordF_perm {l : List Fr} {N : Nat} (ho : okFs N l l.length = true) : (ordF l N).Perm (List.range l.length) :=
  (List.perm_ext_iff_of_nodup ordF_nodup List.nodup_range).2 fun i => by rw [ordF_mem ho, List.mem_range]
theorem rows_range (l : List Fr) : rowsF l (List.range l.length) = l := by
  apply List.ext_getElem
  · simp [rowsF]
  · intro i h1 h2; simp [rowsF, List.getD, h2]
theorem rows_perm {l : List Fr} {N : Nat} (ho : okFs N l l.length = true) : (rowsF l (ordF l N)).Perm l := by
  have h := (ordF_perm ho).map fun i => l.getD i fr0
  have e := rows_range l
  unfold rowsF at e ⊢
  rw [e] at h; exact h

theorem sum_perm {f : Fr → Int} {l l' : List Fr} (h : l.Perm l') : (l.map f).sum = (l'.map f).sum := by
  induction h with
  | nil => rfl
  | cons x _ ih => simp [ih]
  | swap x y l => simp only [List.map_cons, List.sum_cons]; omega
  | trans _ _ h1 h2 => rw [h1, h2]
theorem take_snocF {l : List Fr} {j : Nat} (h : j < l.length) : l.take (j + 1) = l.take j ++ [l.getD j fr0] := by
  rw [List.take_add_one]; simp [List.getD, h]
theorem load_sum (l : List Fr) (g : Int) : ∀ {j : Nat}, j ≤ l.length → load9 l g j = ((l.take j).map (onF g)).sum
  | 0, _ => by simp [load9]
  | j + 1, h => by
    rw [take_snocF (by omega), List.map_append, List.sum_append, ← load_sum l g (by omega)]
    simp [load9]
theorem loadF_sum (l : List Fr) (g : Int) : loadF l g = (l.map (onF g)).sum := by
  unfold loadF; rw [load_sum l g (Nat.le_refl _), List.take_length]
theorem pound_sum (l : List Fr) : ∀ {j : Nat}, j ≤ l.length → poundTo l j = ((l.take j).map fun r => r.m * (r.b - r.a)).sum
  | 0, _ => by simp [poundTo]
  | j + 1, h => by
    rw [take_snocF (by omega), List.map_append, List.sum_append, ← pound_sum l (by omega)]
    simp [poundTo]
theorem poundF_sum (l : List Fr) : poundF l = (l.map fun r => r.m * (r.b - r.a)).sum := by
  unfold poundF; rw [pound_sum l (Nat.le_refl _), List.take_length]
theorem loadF_perm {l l' : List Fr} (h : l.Perm l') (g : Int) : loadF l g = loadF l' g := by rw [loadF_sum, loadF_sum, sum_perm h]
theorem poundF_perm {l l' : List Fr} (h : l.Perm l') : poundF l = poundF l' := by rw [poundF_sum, poundF_sum, sum_perm h]
theorem getD_mem {l : List Fr} {j : Nat} (h : j < l.length) : l.getD j fr0 ∈ l := by
  rw [List.getD, List.getElem?_eq_getElem h]; exact List.getElem_mem h
theorem okFs_mem {n : Int} {l : List Fr} : okFs n l l.length = true ↔ ∀ r ∈ l, okF n r = true := by
  constructor
  · intro h r hr
    obtain ⟨i, hi, rfl⟩ := List.mem_iff_getElem.1 hr
    have := okFs_at h hi
    rwa [List.getD, List.getElem?_eq_getElem hi] at this
  · intro h
    exact okFs_mk fun j hj => h _ (getD_mem hj)
theorem valid_perm {n : Int} {l l' : List Fr} (h : l'.Perm l) (hv : validF n l = true) : validF n l' = true := by
  have h1 := valid_head hv
  have h2 := valid_ok hv
  have h3 := valid_cap hv
  have e := h.length_eq
  rw [headF_iff] at h1
  unfold validF
  rw [Bool.and_eq_true, Bool.and_eq_true]
  refine ⟨⟨headF_iff.2 ⟨h1.1, by omega⟩, ?_⟩, ?_⟩
  · rw [okFs_mem] at h2 ⊢
    exact fun r hr => h2 r (h.mem_iff.1 hr)
  · exact capTo_mk fun j hj => by rw [loadF_perm h]; exact capTo_at h3 hj
theorem loadsX_perm {n : Int} {l l' : List Fr} (h : l'.Perm l) (hv : validF n l = true) : loadsX n l' = loadsX n l := by
  rw [loadsX_yes hv, loadsX_yes (valid_perm h hv)]
  unfold loadsL
  refine List.map_congr_left fun g _ => ?_
  exact loadF_perm h g
theorem poundX_perm {n : Int} {l l' : List Fr} (h : l'.Perm l) (hv : validF n l = true) : poundX n l' = poundX n l := by
  unfold poundX; rw [if_pos hv, if_pos (valid_perm h hv), poundF_perm h]

theorem orderX_perm {n : Int} {l : List Fr} (hv : validF n l = true) : (orderX n l).Perm l := by
  obtain ⟨⟨h1, _⟩, _⟩ := headF_iff.1 (valid_head hv)
  obtain ⟨N, rfl⟩ : ∃ N : Nat, n = N := ⟨n.toNat, by omega⟩
  rw [orderX_yes hv]
  exact rows_perm (valid_ok hv)
theorem rows_at {l : List Fr} {is : List Nat} {i : Nat} (h : i < is.length) : (rowsF l is).getD i fr0 = l.getD is[i] fr0 := by
  simp [rowsF, List.getD, h]
/-- Ordered again it stays. -/
theorem orderX_again {n : Int} {l : List Fr} (hv : validF n l = true) : orderX n (orderX n l) = orderX n l := by
  have hp := orderX_perm hv
  have hv' := valid_perm hp hv
  obtain ⟨⟨h1, _⟩, _⟩ := headF_iff.1 (valid_head hv)
  obtain ⟨N, rfl⟩ : ∃ N : Nat, n = N := ⟨n.toNat, by omega⟩
  have e : orderX N l = rowsF l (ordF l N) := orderX_yes hv
  rw [orderX_yes hv', Int.toNat_natCast]
  have hr : ordF (orderX N l) N = List.range (orderX N l).length := by
    refine order_one (fun _ _ => ltP_asymm (l := orderX N l)) ordF_sorted ?_ fun i => by rw [ordF_mem (valid_ok hv'), List.mem_range]
    rw [List.pairwise_iff_getElem]
    intro i j hi hj hij
    simp only [List.length_range] at hi hj
    simp only [List.getElem_range]
    rw [e, rowsF_len] at hi hj
    have h := List.pairwise_iff_getElem.1 (ordF_sorted (l := l) (n := N)) i j hi hj hij
    unfold ltP at h ⊢
    rw [e, rows_at hi, rows_at hj]
    omega
  rw [hr]
  exact rows_range _

end Go.Proofs.Ytmdcpigobfhckaa
