/- Pure facts on way-bills: loads, which lists are way-bills, room; no program. -/
import Derived.Test.YtmdcpigobfhckaaFA
namespace Go.Proofs.Ytmdcpigobfhckaa

/-- What a parcel adds to the load of a leg. -/
def onF (g : Int) (r : Fr) : Int := if r.a ≤ g ∧ g < r.b then r.m else 0
/-- The load of a leg, of the first parcels. -/
def load9 (l : List Fr) (g : Int) : Nat → Int
  | 0 => 0
  | j + 1 => load9 l g j + onF g (l.getD j fr0)
def loadF (l : List Fr) (g : Int) : Int := load9 l g l.length
def fitF (n a b : Int) : Bool := decide (0 ≤ a) && decide (a < b) && decide (b ≤ n)
def okF (n : Int) (r : Fr) : Bool := fitF n r.a r.b && (decide (1 ≤ r.m) && decide (r.m ≤ 99))
def okFs (n : Int) (l : List Fr) : Nat → Bool
  | 0 => true
  | j + 1 => okFs n l j && okF n (l.getD j fr0)
def capTo (l : List Fr) : Nat → Bool
  | 0 => true
  | g + 1 => capTo l g && decide (loadF l g ≤ 300)
def legF (n : Int) : Bool := decide (1 ≤ n) && decide (n ≤ 7)
def headF (n : Int) (l : List Fr) : Bool := legF n && decide (l.length ≤ 12)
def validF (n : Int) (l : List Fr) : Bool := headF n l && okFs n l l.length && capTo l n.toNat

/-- The greatest load of legs from a on. -/
def mxF (l : List Fr) (j : Nat) (a : Int) : Nat → Int
  | 0 => 0
  | k + 1 => max (mxF l j a k) (load9 l (a + k) j)
def roomF (l : List Fr) (j : Nat) (a b : Int) : Int := 300 - mxF l j a (b - a).toNat
def stepF (n : Int) (l : List Fr) (j : Nat) : Bool := okF n (l.getD j fr0) && decide ((l.getD j fr0).m ≤ roomF l j (l.getD j fr0).a (l.getD j fr0).b)
def goodTo (n : Int) (l : List Fr) : Nat → Bool
  | 0 => true
  | j + 1 => goodTo n l j && stepF n l j

theorem fitF_iff {n a b : Int} : fitF n a b = true ↔ 0 ≤ a ∧ a < b ∧ b ≤ n := by simp [fitF, Bool.and_eq_true, and_assoc]
theorem okF_iff {n : Int} {r : Fr} : okF n r = true ↔ (0 ≤ r.a ∧ r.a < r.b ∧ r.b ≤ n) ∧ 1 ≤ r.m ∧ r.m ≤ 99 := by simp [okF, fitF_iff, Bool.and_eq_true]
theorem legF_iff {n : Int} : legF n = true ↔ 1 ≤ n ∧ n ≤ 7 := by simp [legF]
theorem headF_iff {n : Int} {l : List Fr} : headF n l = true ↔ (1 ≤ n ∧ n ≤ 7) ∧ l.length ≤ 12 := by simp [headF, legF_iff]
theorem okFs_at {n : Int} {l : List Fr} : ∀ {k j : Nat}, okFs n l k = true → j < k → okF n (l.getD j fr0) = true
  | k + 1, j, h, hj => by
    simp only [okFs, Bool.and_eq_true] at h
    by_cases e : j = k
    · subst e; exact h.2
    · exact okFs_at h.1 (by omega)
theorem okFs_mk {n : Int} {l : List Fr} : ∀ {k : Nat}, (∀ j, j < k → okF n (l.getD j fr0) = true) → okFs n l k = true
  | 0, _ => rfl
  | k + 1, h => by simp only [okFs, Bool.and_eq_true]; exact ⟨okFs_mk fun j hj => h j (by omega), h k (by omega)⟩
theorem okFs_no {n : Int} {l : List Fr} {k j : Nat} (hj : j < k) (h : okF n (l.getD j fr0) = false) : okFs n l k = false := by
  rw [Bool.eq_false_iff]; intro h'; rw [okFs_at h' hj] at h; cases h
theorem capTo_at {l : List Fr} : ∀ {k j : Nat}, capTo l k = true → j < k → loadF l j ≤ 300
  | k + 1, j, h, hj => by
    simp only [capTo, Bool.and_eq_true, decide_eq_true_eq] at h
    by_cases e : j = k
    · subst e; exact h.2
    · exact capTo_at h.1 (by omega)
theorem capTo_mk {l : List Fr} : ∀ {k : Nat}, (∀ j : Nat, j < k → loadF l j ≤ 300) → capTo l k = true
  | 0, _ => rfl
  | k + 1, h => by simp only [capTo, Bool.and_eq_true, decide_eq_true_eq]; exact ⟨capTo_mk fun j hj => h j (by omega), h k (by omega)⟩
theorem capTo_no {l : List Fr} {k j : Nat} (hj : j < k) (h : ¬ loadF l j ≤ 300) : capTo l k = false := by
  rw [Bool.eq_false_iff]; intro h'; exact h (capTo_at h' hj)
theorem goodTo_no {n : Int} {l : List Fr} : ∀ {k j : Nat}, j < k → stepF n l j = false → goodTo n l k = false
  | k + 1, j, hj, h => by
    simp only [goodTo]
    by_cases e : j = k
    · subst e; rw [h, Bool.and_false]
    · rw [goodTo_no (by omega) h, Bool.false_and]
theorem goodTo_ok {n : Int} {l : List Fr} : ∀ {k : Nat}, goodTo n l k = true → okFs n l k = true
  | 0, _ => rfl
  | k + 1, h => by
    simp only [goodTo, stepF, Bool.and_eq_true] at h
    simp only [okFs, Bool.and_eq_true]
    exact ⟨goodTo_ok h.1, h.2.1⟩
theorem goodTo_at {n : Int} {l : List Fr} : ∀ {k j : Nat}, goodTo n l k = true → j ≤ k → goodTo n l j = true
  | 0, j, h, hj => by have : j = 0 := by omega
                      subst this; rfl
  | k + 1, j, h, hj => by
    by_cases e : j = k + 1
    · subst e; exact h
    · simp only [goodTo, Bool.and_eq_true] at h
      exact goodTo_at h.1 (by omega)

theorem onF_nn {n g : Int} {r : Fr} (h : okF n r = true) : 0 ≤ onF g r ∧ onF g r ≤ 99 := by
  obtain ⟨_, h1, h2⟩ := okF_iff.1 h
  unfold onF; split <;> omega
theorem load9_nn {n : Int} {l : List Fr} {g : Int} : ∀ {j : Nat}, okFs n l j = true → 0 ≤ load9 l g j ∧ load9 l g j ≤ 99 * j
  | 0, _ => by simp [load9]
  | j + 1, h => by
    simp only [okFs, Bool.and_eq_true] at h
    have h1 := load9_nn (g := g) h.1
    have h2 := onF_nn (g := g) h.2
    simp only [load9]; omega
theorem load9_mono {n : Int} {l : List Fr} {g : Int} {j : Nat} : ∀ {k : Nat}, okFs n l k = true → j ≤ k → load9 l g j ≤ load9 l g k
  | 0, _, hj => by have : j = 0 := by omega
                   subst this; exact Int.le_refl _
  | k + 1, h, hj => by
    by_cases e : j = k + 1
    · subst e; exact Int.le_refl _
    · simp only [okFs, Bool.and_eq_true] at h
      have h1 := load9_mono (g := g) h.1 (show j ≤ k by omega)
      have h2 := onF_nn (g := g) h.2
      simp only [load9]; omega

theorem mxF_le {l : List Fr} {j : Nat} {a c : Int} : ∀ {k : Nat}, mxF l j a k ≤ c ↔ 0 ≤ c ∧ ∀ i : Nat, i < k → load9 l (a + i) j ≤ c
  | 0 => by simp [mxF]
  | k + 1 => by
    simp only [mxF, Int.max_le, mxF_le (k := k)]
    constructor
    · rintro ⟨⟨h0, h1⟩, h2⟩
      refine ⟨h0, fun i hi => ?_⟩
      by_cases e : i = k
      · subst e; exact h2
      · exact h1 i (by omega)
    · rintro ⟨h0, h1⟩
      exact ⟨⟨h0, fun i hi => h1 i (by omega)⟩, h1 k (by omega)⟩
theorem mxF_nn {l : List Fr} {j : Nat} {a : Int} : ∀ {k : Nat}, 0 ≤ mxF l j a k
  | 0 => Int.le_refl _
  | k + 1 => by have := mxF_nn (l := l) (j := j) (a := a) (k := k); simp only [mxF]; omega
theorem mxF_bd {n : Int} {l : List Fr} {j : Nat} {a : Int} {k : Nat} (h : okFs n l j = true) : mxF l j a k ≤ 99 * j :=
  mxF_le.2 ⟨by omega, fun i _ => (load9_nn h).2⟩

theorem valid_good {n : Int} {l : List Fr} (h : validF n l = true) : ∀ {j : Nat}, j ≤ l.length → goodTo n l j = true
  | 0, _ => rfl
  | j + 1, hj => by
    have ih := valid_good h (show j ≤ l.length by omega)
    simp only [validF, Bool.and_eq_true] at h
    obtain ⟨⟨h0, h1⟩, h2⟩ := h
    have hr := okFs_at h1 (show j < l.length by omega)
    simp only [goodTo, stepF, Bool.and_eq_true, decide_eq_true_eq]
    refine ⟨ih, hr, ?_⟩
    obtain ⟨⟨ha, hab, hb⟩, hm1, hm2⟩ := okF_iff.1 hr
    have : mxF l j (l.getD j fr0).a ((l.getD j fr0).b - (l.getD j fr0).a).toNat ≤ 300 - (l.getD j fr0).m := by
      refine mxF_le.2 ⟨by omega, fun i hi => ?_⟩
      have e : onF ((l.getD j fr0).a + i) (l.getD j fr0) = (l.getD j fr0).m := by unfold onF; rw [if_pos (by omega)]
      have h3 := load9_mono (g := (l.getD j fr0).a + i) h1 hj
      have h4 := capTo_at (j := ((l.getD j fr0).a + i).toNat) h2 (by omega)
      rw [Int.toNat_of_nonneg (by omega)] at h4
      unfold loadF at h4
      simp only [load9, e] at h3
      omega
    unfold roomF; omega
theorem good_load {n : Int} {l : List Fr} {g : Int} : ∀ {j : Nat}, goodTo n l j = true → load9 l g j ≤ 300
  | 0, _ => by simp [load9]
  | j + 1, h => by
    simp only [goodTo, stepF, Bool.and_eq_true, decide_eq_true_eq] at h
    obtain ⟨h1, h2, h3⟩ := h
    have ih := good_load (g := g) h1
    obtain ⟨⟨ha, hab, hb⟩, hm1, hm2⟩ := okF_iff.1 h2
    simp only [load9]
    by_cases e : (l.getD j fr0).a ≤ g ∧ g < (l.getD j fr0).b
    · have h4 : mxF l j (l.getD j fr0).a ((l.getD j fr0).b - (l.getD j fr0).a).toNat ≤ 300 - (l.getD j fr0).m := by unfold roomF at h3; omega
      have h5 := (mxF_le.1 h4).2 (g - (l.getD j fr0).a).toNat (by omega)
      rw [Int.toNat_of_nonneg (by omega), show (l.getD j fr0).a + (g - (l.getD j fr0).a) = g by omega] at h5
      unfold onF; rw [if_pos e]; omega
    · unfold onF; rw [if_neg e]; omega
theorem valid_eq {n : Int} {l : List Fr} (hh : headF n l = true) : validF n l = goodTo n l l.length := by
  rw [Bool.eq_iff_iff]
  constructor
  · intro h; exact valid_good h (Nat.le_refl _)
  · intro h
    simp only [validF, Bool.and_eq_true]
    exact ⟨⟨hh, goodTo_ok h⟩, capTo_mk fun g hg => good_load h⟩
theorem valid_head {n : Int} {l : List Fr} (h : validF n l = true) : headF n l = true := by
  simp only [validF, Bool.and_eq_true] at h; exact h.1.1
theorem valid_ok {n : Int} {l : List Fr} (h : validF n l = true) : okFs n l l.length = true := by
  simp only [validF, Bool.and_eq_true] at h; exact h.1.2
theorem valid_cap {n : Int} {l : List Fr} (h : validF n l = true) : capTo l n.toNat = true := by
  simp only [validF, Bool.and_eq_true] at h; exact h.2

/-- The loads of the legs, of the first parcels. -/
def loadsL (l : List Fr) (n j : Nat) : List Int := (List.range n).map fun (g : Nat) => load9 l (g : Int) j
theorem loadsL_len (l : List Fr) (n j : Nat) : (loadsL l n j).length = n := by simp [loadsL]
theorem loadsL_at {l : List Fr} {n j g : Nat} (h : g < n) : (loadsL l n j).getD g 0 = load9 l g j := by simp [loadsL, List.getD, h]
theorem loadsL_zero (l : List Fr) (n : Nat) : loadsL l n 0 = List.replicate n 0 := by
  refine List.ext_getElem (by simp [loadsL]) fun i h1 h2 => ?_
  simp [loadsL, load9]

/-! ### prefixes, and lists behind one another -/
theorem load9_pre {l l' : List Fr} {g : Int} : ∀ {j : Nat}, (∀ i, i < j → l.getD i fr0 = l'.getD i fr0) → load9 l g j = load9 l' g j
  | 0, _ => rfl
  | j + 1, h => by simp only [load9]; rw [load9_pre (fun i hi => h i (by omega)), h j (by omega)]
theorem mxF_pre {l l' : List Fr} {j : Nat} {a : Int} (h : ∀ i, i < j → l.getD i fr0 = l'.getD i fr0) : ∀ {k : Nat}, mxF l j a k = mxF l' j a k
  | 0 => rfl
  | k + 1 => by simp only [mxF]; rw [mxF_pre h, load9_pre h]
theorem goodTo_pre {n : Int} {l l' : List Fr} : ∀ {j : Nat}, (∀ i, i < j → l.getD i fr0 = l'.getD i fr0) → goodTo n l j = goodTo n l' j
  | 0, _ => rfl
  | j + 1, h => by
    have e : ∀ a b, roomF l j a b = roomF l' j a b := fun a b => by unfold roomF; rw [mxF_pre (fun i hi => h i (by omega))]
    simp only [goodTo, stepF]
    rw [goodTo_pre (fun i hi => h i (by omega)), h j (by omega), e]
theorem getD_app1 {a b : List Fr} {i : Nat} (h : i < a.length) : (a ++ b).getD i fr0 = a.getD i fr0 := by simp [List.getD, List.getElem?_append, h]
theorem getD_app2 {a b : List Fr} (i : Nat) : (a ++ b).getD (a.length + i) fr0 = b.getD i fr0 := by simp [List.getD, List.getElem?_append, show ¬ (a.length + i < a.length) by omega]
theorem valid_app1 {n : Int} {a b : List Fr} (h : validF n (a ++ b) = true) : validF n a = true := by
  have hh := headF_iff.1 (valid_head h)
  simp only [List.length_append] at hh
  rw [valid_eq (headF_iff.2 ⟨hh.1, by omega⟩)]
  have h1 := valid_good h (show a.length ≤ (a ++ b).length by simp)
  rw [goodTo_pre (l' := a) (fun i hi => getD_app1 hi)] at h1
  exact h1
theorem load9_app {a b : List Fr} {g : Int} : ∀ (j : Nat), load9 (a ++ b) g (a.length + j) = load9 a g a.length + load9 b g j
  | 0 => by simp only [load9, Nat.add_zero, Int.add_zero]; exact load9_pre (fun i hi => getD_app1 hi)
  | j + 1 => by
    rw [← Nat.add_assoc]; simp only [load9]
    rw [load9_app j, getD_app2]; omega
theorem loadF_app {a b : List Fr} {g : Int} : loadF (a ++ b) g = loadF a g + loadF b g := by
  unfold loadF; rw [List.length_append, load9_app]
theorem valid_app2 {n : Int} {a b : List Fr} (h : validF n (a ++ b) = true) : validF n b = true := by
  have hh := headF_iff.1 (valid_head h)
  simp only [List.length_append] at hh
  have ho := valid_ok h
  have hc := valid_cap h
  have hob : okFs n b b.length = true := okFs_mk fun j hj => by
    have := okFs_at ho (show a.length + j < (a ++ b).length by simp; exact hj)
    rwa [getD_app2] at this
  have hoa : okFs n a a.length = true := okFs_mk fun j hj => by
    have := okFs_at ho (show j < (a ++ b).length by simp; omega)
    rwa [getD_app1 hj] at this
  simp only [validF, Bool.and_eq_true]
  refine ⟨⟨headF_iff.2 ⟨hh.1, by omega⟩, hob⟩, capTo_mk fun g hg => ?_⟩
  have h1 := capTo_at hc hg
  rw [loadF_app] at h1
  have h2 := (load9_nn (g := g) hoa).1
  unfold loadF at h1 ⊢; omega

end Go.Proofs.Ytmdcpigobfhckaa
