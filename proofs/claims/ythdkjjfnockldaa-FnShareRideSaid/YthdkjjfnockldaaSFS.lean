/- Facts of shares; pure. -/
import Derived.Test.YthdkjjfnockldaaSUF
import Derived.Test.YthdkjjfnockldaaPF
namespace Go.Proofs.Ythdkjjfnockldaa

theorem getD_map0 (f : Int → Int) (h0 : f 0 = 0) (l : List Int) (i : Nat) : (l.map f).getD i 0 = f (l.getD i 0) := by
  simp only [List.getD_eq_getElem?_getD, List.getElem?_map]
  cases l[i]? <;> simp [h0]
theorem dueG (ms : List Int) (amt : Int) (i : Nat) : (dueL ms amt).getD i 0 = amt * ms.getD i 0 := getD_map0 _ (by simp) ms i
theorem quoG (ds : List Int) (N : Int) (i : Nat) : (quoL ds N).getD i 0 = ds.getD i 0 / N := getD_map0 _ (by simp) ds i
theorem rstG (ds : List Int) (N : Int) (i : Nat) : (rstL ds N).getD i 0 = ds.getD i 0 % N := getD_map0 _ (by simp) ds i

theorem giveP_at : ∀ (o : List Nat) (out : List Int), o.Nodup → (∀ k ∈ o, k < out.length) → ∀ i, (giveP o out).getD i 0 = out.getD i 0 + if i ∈ o then 1 else 0
  | [], out, _, _, i => by simp [giveP]
  | k :: o, out, hn, hk, i => by
    obtain ⟨h1, h2⟩ := List.nodup_cons.1 hn
    have ih := giveP_at o (out.set k (out.getD k 0 + 1)) h2 (fun j hj => by rw [List.length_set]; exact hk j (by simp [hj])) i
    have e : giveP (k :: o) out = giveP o (out.set k (out.getD k 0 + 1)) := rfl
    rw [e, ih]
    by_cases q : k = i
    · subst q
      rw [show (out.set k (out.getD k 0 + 1)).getD k 0 = out.getD k 0 + 1 by simp [List.getD, hk k (by simp)], if_neg h1, if_pos (by simp)]
      omega
    · rw [show (out.set k (out.getD k 0 + 1)).getD i 0 = out.getD i 0 by simp [List.getD, List.getElem?_set, q]]
      have : (i ∈ k :: o) ↔ i ∈ o := by simp [Ne.symm q]
      simp only [this]

def topL (ms : List Int) (amt : Int) : List Nat := (orderR (rstL (dueL ms amt) ms.sum)).take (leftL ms amt).toNat
theorem share_at (ms : List Int) (amt : Int) (i : Nat) : (shareL ms amt).getD i 0 = amt * ms.getD i 0 / ms.sum + if i ∈ topL ms amt then 1 else 0 := by
  have h := giveP_at (topL ms amt) (quoL (dueL ms amt) ms.sum) ((orderR_nodup _).sublist (List.take_sublist _ _)) (fun k hk => by
    have := orderR_mem.1 (List.mem_of_mem_take hk)
    rw [rstL_len] at this; rw [quoL_len]; exact this) i
  rw [quoG, dueG] at h
  exact h

theorem perm_sumI {a b : List Int} (h : a.Perm b) : a.sum = b.sum := by
  induction h with
  | nil => rfl
  | cons x _ ih => simp only [List.sum_cons, ih]
  | swap x y l => simp only [List.sum_cons]; omega
  | trans _ _ h1 h2 => exact h1.trans h2
theorem range_getD (r : List Int) : (List.range r.length).map (fun i => r.getD i 0) = r := by
  apply List.ext_getElem (by simp)
  intro i h1 h2
  simp [List.getD, h2]
theorem order_sum (r : List Int) : ((orderR r).map (fun i => r.getD i 0)).sum = r.sum := by
  have h := perm_sumI ((orderM_perm (r.map fun x => (⟨0, 0, -x⟩ : Rd))).map (fun i => r.getD i 0))
  rw [List.length_map, range_getD] at h
  exact h
theorem sum_zeroI {T : List Nat} {f : Nat → Int} (h : ∀ x ∈ T, f x = 0) : (T.map f).sum = 0 := by
  induction T with
  | nil => rfl
  | cons x T ih => simp only [List.map_cons, List.sum_cons, h x (by simp), ih (fun y hy => h y (by simp [hy]))]; rfl
theorem sum_leI {T : List Nat} {f : Nat → Int} {N : Int} (h : ∀ x ∈ T, f x ≤ N - 1) : (T.map f).sum ≤ (N - 1) * T.length := by
  induction T with
  | nil => simp
  | cons x T ih =>
    have h1 := ih (fun y hy => h y (by simp [hy]))
    have h2 := h x (by simp)
    simp only [List.map_cons, List.sum_cons, List.length_cons, Int.natCast_add, Int.mul_add]
    simp only [Int.natCast_one, Int.mul_one]
    omega
theorem sum_leZ {T : List Nat} {f : Nat → Int} {N : Int} {i : Nat} (h : ∀ x ∈ T, f x ≤ N - 1) (hi : i ∈ T) (h0 : f i = 0) : (T.map f).sum ≤ (N - 1) * (T.length - 1) := by
  induction T with
  | nil => cases hi
  | cons x T ih =>
    simp only [List.map_cons, List.sum_cons, List.length_cons]
    have e : ((T.length + 1 : Nat) : Int) - 1 = T.length := by omega
    rw [e]
    by_cases q : x = i
    · subst q
      have := sum_leI (T := T) (f := f) (N := N) (fun y hy => h y (by simp [hy]))
      omega
    · have h1 := ih (fun y hy => h y (by simp [hy])) (by rcases List.mem_cons.1 hi with rfl | hi; exact absurd rfl q; exact hi)
      have h2 := h x (by simp)
      rw [Int.mul_sub, Int.mul_one] at h1
      omega

theorem top_sorted {ms : List Int} {amt : Int} {i j : Nat} (hi : i ∈ topL ms amt) (hj : j < ms.length) (hn : j ∉ topL ms amt) : (rstL (dueL ms amt) ms.sum).getD j 0 < (rstL (dueL ms amt) ms.sum).getD i 0 ∨ ((rstL (dueL ms amt) ms.sum).getD i 0 = (rstL (dueL ms amt) ms.sum).getD j 0 ∧ i ≤ j) := by
  have h := orderR_sorted (rstL (dueL ms amt) ms.sum)
  rw [← List.take_append_drop (leftL ms amt).toNat (orderR (rstL (dueL ms amt) ms.sum))] at h
  have hm : j ∈ orderR (rstL (dueL ms amt) ms.sum) := orderR_mem.2 (by rw [rstL_len, dueL_len]; exact hj)
  rw [← List.take_append_drop (leftL ms amt).toNat (orderR (rstL (dueL ms amt) ms.sum)), List.mem_append] at hm
  rcases hm with hm | hm
  · exact absurd hm hn
  · exact (List.pairwise_append.1 h).2.2 i hi j hm
theorem rst_sum {ms : List Int} (amt : Int) : (rstL (dueL ms amt) ms.sum).sum = ms.sum * leftL ms amt := by
  have h1 := quo_rst (dueL ms amt) ms.sum
  rw [dueL_sum] at h1
  unfold leftL
  rw [Int.mul_sub, Int.mul_comm ms.sum amt]
  omega
theorem top_len {ms : List Int} {amt : Int} (h : 0 < ms.sum) : ((topL ms amt).length : Int) = leftL ms amt := by
  have hl := leftL_bd amt h
  unfold topL
  rw [List.length_take, orderR_length, rstL_len, dueL_len]
  omega
/-- Who gets one more has a rest. -/
theorem top_rest {ms : List Int} {amt : Int} (h : 0 < ms.sum) {i : Nat} (hi : i ∈ topL ms amt) : 0 < (rstL (dueL ms amt) ms.sum).getD i 0 := by
  have hb : ∀ j, 0 ≤ (rstL (dueL ms amt) ms.sum).getD j 0 ∧ (rstL (dueL ms amt) ms.sum).getD j 0 ≤ ms.sum - 1 := fun j => by
    rw [rstG]
    have h1 := Int.emod_nonneg ((dueL ms amt).getD j 0) (show ms.sum ≠ 0 by omega)
    have h2 := Int.emod_lt_of_pos ((dueL ms amt).getD j 0) h
    omega
  rcases Int.lt_or_le 0 ((rstL (dueL ms amt) ms.sum).getD i 0) with hp | hp
  · exact hp
  exfalso
  have h0 : (rstL (dueL ms amt) ms.sum).getD i 0 = 0 := by have := (hb i).1; omega
  have hs := order_sum (rstL (dueL ms amt) ms.sum)
  have hq := orderR_sorted (rstL (dueL ms amt) ms.sum)
  rw [← List.take_append_drop (leftL ms amt).toNat (orderR (rstL (dueL ms amt) ms.sum))] at hs hq
  rw [List.map_append, List.sum_append] at hs
  have hz := sum_zeroI (T := (orderR (rstL (dueL ms amt) ms.sum)).drop (leftL ms amt).toNat) (f := fun i => (rstL (dueL ms amt) ms.sum).getD i 0) (fun x hx => by
    have := (List.pairwise_append.1 hq).2.2 i hi x hx
    have := (hb x).1
    show (rstL (dueL ms amt) ms.sum).getD x 0 = 0
    omega)
  have hl := sum_leZ (T := topL ms amt) (f := fun i => (rstL (dueL ms amt) ms.sum).getD i 0) (N := ms.sum) (fun x _ => (hb x).2) hi h0
  rw [top_len h] at hl
  rw [hz, rst_sum] at hs
  have e : (topL ms amt).map (fun i => (rstL (dueL ms amt) ms.sum).getD i 0) = ((orderR (rstL (dueL ms amt) ms.sum)).take (leftL ms amt).toNat).map (fun i => (rstL (dueL ms amt) ms.sum).getD i 0) := rfl
  rw [e] at hl
  have h1 : (1 : Int) ≤ leftL ms amt := by
    have := top_len (ms := ms) (amt := amt) h
    have := List.length_pos_of_mem hi
    omega
  generalize ((List.take (leftL ms amt).toNat (orderR (rstL (dueL ms amt) ms.sum))).map (fun i => (rstL (dueL ms amt) ms.sum).getD i 0)).sum = s at *
  generalize leftL ms amt = L at *
  have e2 : (ms.sum - 1) * (L - 1) = ms.sum * L - ms.sum - L + 1 := by
    rw [Int.sub_mul, Int.mul_sub, Int.mul_one, Int.one_mul]; omega
  omega

theorem share_near {ms : List Int} {amt : Int} (h : 0 < ms.sum) (i : Nat) : -ms.sum < (shareL ms amt).getD i 0 * ms.sum - amt * ms.getD i 0 ∧ (shareL ms amt).getD i 0 * ms.sum - amt * ms.getD i 0 < ms.sum := by
  have hd := Int.mul_ediv_add_emod (amt * ms.getD i 0) ms.sum
  have h1 := Int.emod_nonneg (amt * ms.getD i 0) (show ms.sum ≠ 0 by omega)
  have h2 := Int.emod_lt_of_pos (amt * ms.getD i 0) h
  rw [share_at]
  by_cases ht : i ∈ topL ms amt
  · have hr := top_rest h ht
    rw [rstG, dueG] at hr
    rw [if_pos ht, Int.add_mul, Int.mul_comm (amt * ms.getD i 0 / ms.sum) ms.sum]
    omega
  · rw [if_neg ht, Int.add_zero, Int.mul_comm (amt * ms.getD i 0 / ms.sum) ms.sum]
    omega
theorem share_zero {ms : List Int} {amt : Int} (h : 0 < ms.sum) {i : Nat} (hi : ms.getD i 0 = 0) : (shareL ms amt).getD i 0 = 0 := by
  rw [share_at, hi, Int.mul_zero, Int.zero_ediv]
  by_cases ht : i ∈ topL ms amt
  · have hr := top_rest h ht
    rw [rstG, dueG, hi, Int.mul_zero, Int.zero_emod] at hr
    omega
  · rw [if_neg ht]; rfl
theorem share_more {ms : List Int} {amt : Int} (h : 0 < ms.sum) (ha : 0 ≤ amt) {i k : Nat} (hi : i < ms.length) (hm : ms.getD k 0 < ms.getD i 0) : (shareL ms amt).getD k 0 ≤ (shareL ms amt).getD i 0 := by
  have hd : amt * ms.getD k 0 ≤ amt * ms.getD i 0 := Int.mul_le_mul_of_nonneg_left (by omega) ha
  have hq := Int.ediv_le_ediv h hd
  rw [share_at, share_at]
  by_cases hk : k ∈ topL ms amt
  · by_cases hi' : i ∈ topL ms amt
    · rw [if_pos hk, if_pos hi']; omega
    · rw [if_pos hk, if_neg hi']
      have hs := top_sorted hk hi hi'
      have hr := top_rest h hk
      rw [rstG, dueG] at hr
      rw [rstG, dueG, rstG, dueG] at hs
      have d1 := Int.mul_ediv_add_emod (amt * ms.getD i 0) ms.sum
      have d2 := Int.mul_ediv_add_emod (amt * ms.getD k 0) ms.sum
      have hne : amt ≠ 0 := by rintro rfl; simp at hr
      have hlt : amt * ms.getD k 0 < amt * ms.getD i 0 := Int.mul_lt_mul_of_pos_left hm (by omega)
      by_cases e : amt * ms.getD i 0 / ms.sum = amt * ms.getD k 0 / ms.sum
      · rw [e] at d1; omega
      · omega
  · rw [if_neg hk]; split <;> omega
theorem share_same {ms : List Int} {amt : Int} {i k : Nat} (hi : i < ms.length) (hik : i < k) (hm : ms.getD i 0 = ms.getD k 0) : (shareL ms amt).getD k 0 ≤ (shareL ms amt).getD i 0 ∧ (shareL ms amt).getD i 0 ≤ (shareL ms amt).getD k 0 + 1 := by
  rw [share_at, share_at, hm]
  by_cases hk : k ∈ topL ms amt
  · by_cases hi' : i ∈ topL ms amt
    · rw [if_pos hk, if_pos hi']; omega
    · have hs := top_sorted hk hi hi'
      rw [rstG, dueG, rstG, dueG, hm] at hs
      omega
  · rw [if_neg hk]; split <;> omega
theorem share_whole {ms : List Int} {amt : Int} (h : 0 < ms.sum) (hw : ∀ i, i < ms.length → amt * ms.getD i 0 % ms.sum = 0) (i : Nat) : (shareL ms amt).getD i 0 * ms.sum = amt * ms.getD i 0 := by
  have hd := Int.mul_ediv_add_emod (amt * ms.getD i 0) ms.sum
  have h0 : amt * ms.getD i 0 % ms.sum = 0 := by
    by_cases hi : i < ms.length
    · exact hw i hi
    · have : ms.getD i 0 = 0 := by simp [List.getD, List.getElem?_eq_none (show ms.length ≤ i by omega)]
      rw [this]; simp
  rw [share_at]
  by_cases ht : i ∈ topL ms amt
  · have hr := top_rest h ht
    rw [rstG, dueG] at hr
    omega
  · rw [if_neg ht, Int.add_zero, Int.mul_comm]
    omega

end Go.Proofs.Ythdkjjfnockldaa
