/- Shares, pure: quotients, rests, who gets what is left. -/
import Derived.Test.YthdkjjfnockldaaQA
import Derived.Test.YthdkjjfnockldaaNO
namespace Go.Proofs.Ythdkjjfnockldaa

def dueL (ms : List Int) (amt : Int) : List Int := ms.map fun m => amt * m
def quoL (ds : List Int) (all : Int) : List Int := ds.map fun d => d / all
def rstL (ds : List Int) (all : Int) : List Int := ds.map fun d => d % all
theorem dueL_len (ms : List Int) (amt : Int) : (dueL ms amt).length = ms.length := by simp [dueL]
theorem quoL_len (ds : List Int) (all : Int) : (quoL ds all).length = ds.length := by simp [quoL]
theorem rstL_len (ds : List Int) (all : Int) : (rstL ds all).length = ds.length := by simp [rstL]
theorem dueL_sum (ms : List Int) (amt : Int) : (dueL ms amt).sum = amt * ms.sum := by
  induction ms with
  | nil => simp [dueL]
  | cons m ms ih => simp only [dueL, List.map_cons, List.sum_cons] at ih ⊢; rw [ih, Int.mul_add]
theorem quo_rst (ds : List Int) (all : Int) : ds.sum = all * (quoL ds all).sum + (rstL ds all).sum := by
  induction ds with
  | nil => simp [quoL, rstL]
  | cons d ds ih =>
    simp only [quoL, rstL, List.map_cons, List.sum_cons] at ih ⊢
    have := Int.mul_ediv_add_emod d all
    rw [Int.mul_add, ih]
    omega
theorem rst_bd {ds : List Int} {all : Int} (h : 0 < all) : 0 ≤ (rstL ds all).sum ∧ (rstL ds all).sum ≤ ds.length * (all - 1) := by
  induction ds with
  | nil => simp [rstL]
  | cons d ds ih =>
    simp only [rstL, List.map_cons, List.sum_cons, List.length_cons, Int.natCast_add, Int.add_mul] at ih ⊢
    have h1 := Int.emod_nonneg d (show all ≠ 0 by omega)
    have h2 := Int.emod_lt_of_pos d h
    simp only [Int.natCast_one, Int.one_mul]
    omega
theorem rstL_mem {ds : List Int} {all : Int} (h : 0 < all) : ∀ r ∈ rstL ds all, 0 ≤ r ∧ r < all := by
  intro r hr
  simp only [rstL, List.mem_map] at hr
  obtain ⟨d, _, rfl⟩ := hr
  exact ⟨Int.emod_nonneg d (by omega), Int.emod_lt_of_pos d h⟩

def leftL (ms : List Int) (amt : Int) : Int := amt - (quoL (dueL ms amt) ms.sum).sum
theorem leftL_bd {ms : List Int} (amt : Int) (h : 0 < ms.sum) : 0 ≤ leftL ms amt ∧ leftL ms amt < ms.length := by
  have h1 := quo_rst (dueL ms amt) ms.sum
  have h2 := rst_bd (ds := dueL ms amt) h
  rw [dueL_sum] at h1
  rw [dueL_len] at h2
  unfold leftL
  generalize (quoL (dueL ms amt) ms.sum).sum = q at *
  generalize (rstL (dueL ms amt) ms.sum).sum = r at *
  have h3 : ms.sum * (amt - q) = r := by rw [Int.mul_sub, Int.mul_comm ms.sum amt]; omega
  have hlen : 0 < (ms.length : Int) := by
    cases ms with
    | nil => simp at h
    | cons m ms => simp only [List.length_cons]; omega
  constructor
  · rcases Int.lt_or_le (amt - q) 0 with hn | hn
    · have := Int.mul_neg_of_pos_of_neg h hn; omega
    · exact hn
  · rcases Int.lt_or_le (amt - q) ms.length with hn | hn
    · exact hn
    · have h4 := Int.mul_le_mul_of_nonneg_left hn (Int.le_of_lt h)
      rw [h3, Int.mul_comm] at h4
      have h5 : (ms.length : Int) * (ms.sum - 1) = ms.length * ms.sum - ms.length := by rw [Int.mul_sub, Int.mul_one]
      omega

/-- The indexes by their rests, the greatest first, equals ascending. -/
def orderR (rs : List Int) : List Nat := orderM (rs.map fun r => (⟨0, 0, -r⟩ : Rd))
theorem orderR_length (rs : List Int) : (orderR rs).length = rs.length := by unfold orderR; rw [orderM_length, List.length_map]
theorem orderR_mem {rs : List Int} {i : Nat} : i ∈ orderR rs ↔ i < rs.length := by unfold orderR; rw [orderM_mem, List.length_map]
theorem orderR_nodup (rs : List Int) : (orderR rs).Nodup := orderM_nodup _
theorem negR_at (rs : List Int) (i : Nat) : ((rs.map fun r => (⟨0, 0, -r⟩ : Rd)).getD i rd0).m = -(rs.getD i 0) := by
  simp only [List.getD_eq_getElem?_getD, List.getElem?_map]
  cases rs[i]? <;> rfl
theorem orderR_sorted (rs : List Int) : (orderR rs).Pairwise fun i j => rs.getD j 0 < rs.getD i 0 ∨ (rs.getD i 0 = rs.getD j 0 ∧ i ≤ j) :=
  (orderM_sorted _).imp fun {i j} h => by
    have := leM_iff.1 h
    rw [negR_at, negR_at] at this
    omega

/-- One more for each of these. -/
def giveP (o : List Nat) (out : List Int) : List Int := o.foldl (fun out k => out.set k (out.getD k 0 + 1)) out
theorem giveP_snoc (o : List Nat) (k : Nat) (out : List Int) : giveP (o ++ [k]) out = (giveP o out).set k ((giveP o out).getD k 0 + 1) := by simp [giveP]
theorem giveP_len (o : List Nat) (out : List Int) : (giveP o out).length = out.length := by
  induction o generalizing out with
  | nil => rfl
  | cons k o ih => simp only [giveP, List.foldl_cons] at ih ⊢; rw [ih]; simp
theorem giveP_bd (o : List Nat) (out : List Int) (M : Int) (h : ∀ i, 0 ≤ out.getD i 0 ∧ out.getD i 0 ≤ M) : ∀ i, 0 ≤ (giveP o out).getD i 0 ∧ (giveP o out).getD i 0 ≤ M + o.length := by
  induction o generalizing out M with
  | nil => intro i; have := h i; simp only [giveP, List.foldl_nil, List.length_nil]; omega
  | cons k o ih =>
    intro i
    have := ih (out.set k (out.getD k 0 + 1)) (M + 1) (fun j => by
      have h1 := h j
      have h2 := h k
      by_cases e : k = j
      · subst e
        by_cases hk : k < out.length
        · rw [show (out.set k (out.getD k 0 + 1)).getD k 0 = out.getD k 0 + 1 by simp [List.getD, hk]]; omega
        · rw [List.set_eq_of_length_le (by omega)]; omega
      · rw [show (out.set k (out.getD k 0 + 1)).getD j 0 = out.getD j 0 by simp [List.getD, List.getElem?_set, e]]; omega) i
    simp only [giveP, List.foldl_cons, List.length_cons] at this ⊢
    omega
/-- What each gets. -/
def shareL (ms : List Int) (amt : Int) : List Int := giveP ((orderR (rstL (dueL ms amt) ms.sum)).take (leftL ms amt).toNat) (quoL (dueL ms amt) ms.sum)
theorem shareL_len (ms : List Int) (amt : Int) : (shareL ms amt).length = ms.length := by unfold shareL; rw [giveP_len, quoL_len, dueL_len]

/-! The model gives them one by one. -/
def bestTo (rs : List Int) : Nat → Nat
  | 0 => 0
  | k + 1 => if rs.getD (bestTo rs k) 0 < rs.getD k 0 then k else bestTo rs k
theorem bestTo_spec (rs : List Int) : ∀ k, (bestTo rs k < k ∨ (k = 0 ∧ bestTo rs k = 0)) ∧ (∀ i, i < k → rs.getD i 0 ≤ rs.getD (bestTo rs k) 0) ∧ (∀ i, i < bestTo rs k → rs.getD i 0 < rs.getD (bestTo rs k) 0)
  | 0 => ⟨.inr ⟨rfl, rfl⟩, fun i hi => by omega, fun i hi => by simp [bestTo] at hi⟩
  | k + 1 => by
    obtain ⟨h1, h2, h3⟩ := bestTo_spec rs k
    unfold bestTo
    split
    · rename_i h
      refine ⟨.inl (by omega), fun i hi => ?_, fun i hi => ?_⟩
      · by_cases e : i = k
        · subst e; exact Int.le_refl _
        · have := h2 i (by omega); omega
      · have := h2 i hi; omega
    · rename_i h
      refine ⟨.inl (by omega), fun i hi => ?_, h3⟩
      by_cases e : i = k
      · subst e; omega
      · exact h2 i (by omega)
theorem bestTo_lt {rs : List Int} {k : Nat} (h : 0 < k) : bestTo rs k < k := by
  rcases (bestTo_spec rs k).1 with h1 | ⟨h1, _⟩ <;> omega
theorem bestTo_only {rs : List Int} {o : Nat} (ho : o < rs.length) (h1 : ∀ i, i < rs.length → rs.getD i 0 ≤ rs.getD o 0) (h2 : ∀ i, i < o → rs.getD i 0 < rs.getD o 0) : bestTo rs rs.length = o := by
  have hb := bestTo_lt (rs := rs) (k := rs.length) (by omega)
  obtain ⟨_, g1, g2⟩ := bestTo_spec rs rs.length
  rcases Nat.lt_trichotomy (bestTo rs rs.length) o with h | h | h
  · have := h2 _ h; have := g1 o ho; omega
  · exact h
  · have := g2 _ h; have := h1 _ hb; omega

def giveM : Nat → List Int → List Int → List Int
  | 0, out, _ => out
  | t + 1, out, rs => giveM t (out.set (bestTo rs rs.length) (out.getD (bestTo rs rs.length) 0 + 1)) (rs.set (bestTo rs rs.length) (-1))
def maskR (rs : List Int) (o : List Nat) : List Int := o.foldl (fun l k => l.set k (-1)) rs
theorem maskR_len (rs : List Int) (o : List Nat) : (maskR rs o).length = rs.length := by
  induction o generalizing rs with
  | nil => rfl
  | cons k o ih => simp only [maskR, List.foldl_cons] at ih ⊢; rw [ih]; simp
theorem maskR_snoc (rs : List Int) (o : List Nat) (k : Nat) : maskR rs (o ++ [k]) = (maskR rs o).set k (-1) := by simp [maskR]
theorem maskR_at (rs : List Int) : ∀ (o : List Nat) (i : Nat), i < rs.length → (maskR rs o).getD i 0 = if i ∈ o then -1 else rs.getD i 0 := by
  intro o
  refine snocRec (motive := fun o => ∀ i, i < rs.length → (maskR rs o).getD i 0 = if i ∈ o then -1 else rs.getD i 0) (fun i _ => by simp [maskR]) (fun o k ih i hi => ?_) o
  rw [maskR_snoc]
  by_cases e : k = i
  · subst e
    rw [if_pos (by simp)]
    simp [List.getD, maskR_len, hi]
  · rw [show ((maskR rs o).set k (-1)).getD i 0 = (maskR rs o).getD i 0 by simp [List.getD, List.getElem?_set, e], ih i hi]
    simp [Ne.symm e]
theorem give_same {rs : List Int} (h0 : ∀ r ∈ rs, 0 ≤ r) : ∀ (t s : Nat) (out : List Int), s + t ≤ rs.length → giveM t out (maskR rs ((orderR rs).take s)) = giveP (((orderR rs).drop s).take t) out
  | 0, s, out, _ => by simp [giveM, giveP]
  | t + 1, s, out, h => by
    have hs : s < (orderR rs).length := by rw [orderR_length]; omega
    obtain ⟨o, ho⟩ : ∃ o, (orderR rs)[s] = o := ⟨_, rfl⟩
    have hol : o < rs.length := orderR_mem.1 (ho ▸ List.getElem_mem hs)
    have hr0 : ∀ i, i < rs.length → 0 ≤ rs.getD i 0 := fun i hi => by
      rw [List.getD_eq_getElem?_getD, List.getElem?_eq_getElem hi]; exact h0 _ (List.getElem_mem hi)
    have hno : o ∉ (orderR rs).take s := fun hm => by
      obtain ⟨j, hj, e⟩ := List.mem_iff_getElem.1 hm
      rw [List.length_take] at hj
      rw [List.getElem_take] at e
      have := (List.getElem_inj (orderR_nodup rs)).1 (e.trans ho.symm)
      omega
    have hmo : (maskR rs ((orderR rs).take s)).getD o 0 = rs.getD o 0 := by rw [maskR_at rs _ o hol, if_neg hno]
    have hrest : ∀ i, i < rs.length → i ∉ (orderR rs).take s → i ≠ o → rs.getD i 0 < rs.getD o 0 ∨ (rs.getD o 0 = rs.getD i 0 ∧ o ≤ i) := fun i hi hn hne => by
      obtain ⟨j, hj, e⟩ := List.mem_iff_getElem.1 (orderR_mem.2 hi)
      have hjs : s < j := by
        rcases Nat.lt_trichotomy j s with q | q | q
        · exact absurd (List.mem_iff_getElem.2 ⟨j, by rw [List.length_take]; omega, by rw [List.getElem_take]; exact e⟩) hn
        · subst q; exact absurd (e.symm.trans ho) hne
        · exact q
      have := List.pairwise_iff_getElem.1 (orderR_sorted rs) s j hs hj hjs
      rwa [ho, e] at this
    have hb : bestTo (maskR rs ((orderR rs).take s)) (maskR rs ((orderR rs).take s)).length = o := by
      refine bestTo_only (by rw [maskR_len]; exact hol) (fun i hi => ?_) (fun i hi => ?_)
      · rw [maskR_len] at hi
        rw [hmo, maskR_at rs _ i hi]
        have := hr0 o hol
        split
        · omega
        · rename_i hn
          by_cases e : i = o
          · subst e; exact Int.le_refl _
          · have := hrest i hi hn e; omega
      · rw [hmo, maskR_at rs _ i (by omega)]
        have := hr0 o hol
        split
        · omega
        · rename_i hn
          have := hrest i (by omega) hn (by omega); omega
    rw [giveM, hb, ← maskR_snoc, show (orderR rs).take s ++ [o] = (orderR rs).take (s + 1) by rw [List.take_succ_eq_append_getElem hs, ho], give_same h0 t (s + 1) _ (by omega)]
    rw [List.drop_eq_getElem_cons hs, List.take_succ_cons, ho]
    simp [giveP]
theorem shareM (ms : List Int) (amt : Int) (h : 0 < ms.sum) : giveM (leftL ms amt).toNat (quoL (dueL ms amt) ms.sum) (rstL (dueL ms amt) ms.sum) = shareL ms amt := by
  have hb := leftL_bd amt h
  have := give_same (rs := rstL (dueL ms amt) ms.sum) (fun r hr => (rstL_mem h r hr).1) (leftL ms amt).toNat 0 (quoL (dueL ms amt) ms.sum) (by rw [rstL_len, dueL_len]; omega)
  rw [List.take_zero, List.drop_zero] at this
  exact this

end Go.Proofs.Ythdkjjfnockldaa
