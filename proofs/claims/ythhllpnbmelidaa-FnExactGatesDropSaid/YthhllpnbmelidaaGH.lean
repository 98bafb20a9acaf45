/- Coaches that pay, payments, sums for each trust; no program. -/
import Derived.Test.YthhllpnbmelidaaGF
namespace Go.Proofs.Ythhllpnbmelidaa
set_option linter.unusedVariables false
set_option linter.unusedSimpArgs false

/-! ### coaches that pay -/
/-- A coach that goes on: k is paid if P says so, else it must be freed. -/
def simT (l : List Gt) (free : Int) (P : Int → Bool → Bool) : List Int → (Int → Int) → List Int → Option (List Int)
  | [], _, acc => some acc
  | k :: s, R, acc =>
    if P k (decide ((gAt l k).a ≤ R (gAt l k).b)) = true then simT l free P s (upT8 R (gAt l k).b ((gAt l k).a + free)) (acc ++ [k])
    else if (gAt l k).a ≤ R (gAt l k).b then simT l free P s R acc else none
/-- It pays where it must. -/
def mustT (l : List Gt) (free : Int) : List Int → List Int → List Int
  | [], out => out
  | k :: s, out => if freedG l free out k = true then mustT l free s out else mustT l free s (out ++ [k])
theorem sim_must {l : List Gt} {free : Int} : ∀ {s acc : List Int} {R : Int → Int}, Pas l s → FU l free acc s R → simT l free (fun _ fr => !fr) s R acc = some (mustT l free s acc)
  | [], _, _, _, _ => rfl
  | k :: s, acc, R, hp, hf => by
    have h3 := hf.eq k List.mem_cons_self
    unfold simT mustT
    by_cases q : (gAt l k).a ≤ R (gAt l k).b
    · rw [decide_eq_true q] at h3
      rw [decide_eq_true q, if_neg (by simp), if_pos q, if_pos h3, sim_must hp.tail hf.skip]
    · rw [decide_eq_false q] at h3
      rw [decide_eq_false q, if_pos (by simp), if_neg (by rw [h3]; simp), sim_must hp.tail (hf.pay hp)]
theorem mustT_len {l : List Gt} {free : Int} : ∀ {s out : List Int}, (mustT l free s out).length ≤ out.length + s.length
  | [], _ => by simp [mustT]
  | k :: s, out => by
    unfold mustT
    split
    · have := mustT_len (l := l) (free := free) (s := s) (out := out); simp only [List.length_cons]; omega
    · have := mustT_len (l := l) (free := free) (s := s) (out := out ++ [k]); simp only [List.length_cons, List.length_append, List.length_nil] at this ⊢; omega
theorem freedG_append {l : List Gt} {free : Int} {acc z : List Int} {k : Int} (h : ∀ x ∈ z, k ≤ x) : freedG l free (acc ++ z) k = freedG l free acc k := by
  rw [Bool.eq_iff_iff, freedG_iff, freedG_iff]
  constructor
  · rintro ⟨p, hp, h1, h2⟩
    rw [List.mem_append] at hp
    rcases hp with hp | hp
    · exact ⟨p, hp, h1, h2⟩
    · have := h p hp; omega
  · rintro ⟨p, hp, h1⟩
    exact ⟨p, List.mem_append_left _ hp, h1⟩
def coverB (l : List Gt) (free : Int) (paid s r : List Int) : Bool := s.all (fun k => hasL paid k || freedG l free r k)
theorem sim_has {l : List Gt} {free : Int} {paid : List Int} : ∀ {s acc : List Int} {R : Int → Int}, Pas l s → FU l free acc s R →
    simT l free (fun k _ => hasL paid k) s R acc = if coverB l free paid s (acc ++ s.filter (hasL paid)) = true then some (acc ++ s.filter (hasL paid)) else none
  | [], acc, _, _, _ => by simp [simT, coverB]
  | k :: s, acc, R, hp, hf => by
    have h3 := hf.eq k List.mem_cons_self
    unfold simT
    by_cases c : hasL paid k = true
    · rw [if_pos c, sim_has hp.tail (hf.pay hp)]
      have e : (k :: s).filter (hasL paid) = k :: s.filter (hasL paid) := by rw [List.filter_cons_of_pos c]
      have e2 : acc ++ (k :: s).filter (hasL paid) = acc ++ [k] ++ s.filter (hasL paid) := by rw [e]; simp
      have e3 : coverB l free paid (k :: s) (acc ++ [k] ++ s.filter (hasL paid)) = coverB l free paid s (acc ++ [k] ++ s.filter (hasL paid)) := by
        unfold coverB; rw [List.all_cons, c]; simp
      rw [e2, e3]
    · rw [if_neg c]
      have e : (k :: s).filter (hasL paid) = s.filter (hasL paid) := by rw [List.filter_cons_of_neg c]
      have hfr : freedG l free (acc ++ s.filter (hasL paid)) k = freedG l free acc k := freedG_append (fun x hx => by
        have := hp.asc.cons_lt (List.mem_filter.1 hx).1; omega)
      have c' := Bool.eq_false_iff.2 c
      have e3 : coverB l free paid (k :: s) (acc ++ s.filter (hasL paid)) = (freedG l free acc k && coverB l free paid s (acc ++ s.filter (hasL paid))) := by
        unfold coverB; rw [List.all_cons, c', hfr]; simp
      rw [e, e3, h3]
      by_cases q : (gAt l k).a ≤ R (gAt l k).b
      · rw [if_pos q, decide_eq_true q, Bool.true_and, sim_has hp.tail hf.skip]
      · rw [if_neg q, decide_eq_false q]; simp

/-! ### payments -/
theorem passL_pas {l : List Gt} (h : validG l = true) (f t : Int) : Pas l (passL l f t) := whereG_pas h _
theorem passL_len (l : List Gt) (f t : Int) : (passL l f t).length ≤ l.length := whereG_len _ _
def okPay (ps paid : List Int) (j : Nat) : Bool := hasL ps (paid.getD j 0) && (decide (j = 0) || decide (paid.getD (j - 1) 0 < paid.getD j 0))
def okToPay (ps paid : List Int) (k : Nat) : Bool := (List.range k).all (okPay ps paid)
theorem okToPay_succ (ps paid : List Int) (k : Nat) : okToPay ps paid (k + 1) = (okToPay ps paid k && okPay ps paid k) := by
  simp [okToPay, List.range_succ]
theorem okToPay_at {ps paid : List Int} {k j : Nat} (h : okToPay ps paid k = true) (hj : j < k) : okPay ps paid j = true := by
  simp only [okToPay, List.all_eq_true, List.mem_range] at h
  exact h j hj
theorem getD_lt_of_steps {s : List Int} {n : Nat} (h : ∀ j, j < n → 0 < j → s.getD (j - 1) 0 < s.getD j 0) : ∀ {i j : Nat}, i < j → j < n → s.getD i 0 < s.getD j 0 := by
  intro i j hij hj
  induction j with
  | zero => omega
  | succ m ih =>
    have h1 := h (m + 1) hj (by omega)
    rw [Nat.add_sub_cancel] at h1
    by_cases e : i = m
    · rw [e]; exact h1
    · have := ih (by omega) (by omega); omega
theorem asc_of_steps {s : List Int} (h : ∀ j, j < s.length → 0 < j → s.getD (j - 1) 0 < s.getD j 0) : Asc s := by
  unfold Asc
  rw [List.pairwise_iff_getElem]
  intro i j hi hj hij
  have := getD_lt_of_steps h hij hj
  rw [List.getD_eq_getElem?_getD, List.getD_eq_getElem?_getD, List.getElem?_eq_getElem hi, List.getElem?_eq_getElem hj] at this
  exact this
theorem steps_of_asc {s : List Int} (h : Asc s) {j : Nat} (hj : j < s.length) (h0 : 0 < j) : s.getD (j - 1) 0 < s.getD j 0 := by
  unfold Asc at h
  rw [List.pairwise_iff_getElem] at h
  have := h (j - 1) j (by omega) hj (by omega)
  rw [List.getD_eq_getElem?_getD, List.getD_eq_getElem?_getD, List.getElem?_eq_getElem (by omega), List.getElem?_eq_getElem hj]
  exact this
theorem mem_getD8 {s : List Int} {x : Int} : x ∈ s ↔ ∃ k, k < s.length ∧ s.getD k 0 = x := by
  constructor
  · intro h
    obtain ⟨i, hi, rfl⟩ := List.mem_iff_getElem.1 h
    exact ⟨i, hi, by rw [List.getD_eq_getElem?_getD, List.getElem?_eq_getElem hi]; rfl⟩
  · rintro ⟨i, hi, rfl⟩
    rw [List.getD_eq_getElem?_getD, List.getElem?_eq_getElem hi]
    exact List.getElem_mem hi
/-- The model's check of a list is that it is what of the passed gates it has. -/
theorem okToPay_iff {ps paid : List Int} (hps : Asc ps) : okToPay ps paid paid.length = true ↔ ps.filter (hasL paid) = paid := by
  constructor
  · intro h
    have ha : Asc paid := asc_of_steps (fun j hj h0 => by
      have := okToPay_at h hj
      unfold okPay at this
      simp only [Bool.and_eq_true, Bool.or_eq_true, decide_eq_true_eq] at this
      omega)
    refine Asc.ext (hps.filter _) ha (fun x => ?_)
    rw [List.mem_filter, hasL_iff]
    refine ⟨fun h => h.2, fun hx => ⟨?_, hx⟩⟩
    obtain ⟨k, hk, rfl⟩ := mem_getD8.1 hx
    have := okToPay_at h hk
    unfold okPay at this
    simp only [Bool.and_eq_true] at this
    exact hasL_iff.1 this.1
  · intro h
    have ha : Asc paid := by rw [← h]; exact hps.filter _
    simp only [okToPay, List.all_eq_true, List.mem_range]
    intro j hj
    unfold okPay
    simp only [Bool.and_eq_true, Bool.or_eq_true, decide_eq_true_eq]
    constructor
    · rw [hasL_iff]
      have sub : ∀ x ∈ paid, x ∈ ps := fun x hx => by
        have h3 : x ∈ ps.filter (hasL paid) := by rw [h]; exact hx
        exact (List.mem_filter.1 h3).1
      exact sub _ (mem_getD8.2 ⟨j, hj, rfl⟩)
    · by_cases e : j = 0
      · exact .inl e
      · exact .inr (steps_of_asc ha hj (by omega))
def validT (l : List Gt) (free f t : Int) (paid : List Int) : Bool :=
  okT l free f t && (decide ((passL l f t).filter (hasL paid) = paid) && coverB l free paid (passL l f t) paid)
theorem okT_valid {l : List Gt} {free f t : Int} (h : okT l free f t = true) : validG l = true := by
  unfold okT at h
  simp only [Bool.and_eq_true] at h
  exact h.1.1.1
theorem validT_ok {l : List Gt} {free f t : Int} {paid : List Int} (h : validT l free f t paid = true) : okT l free f t = true := by
  unfold validT at h
  simp only [Bool.and_eq_true] at h
  exact h.1
/-- What the program's coach says of a list. -/
theorem sim_valid {l : List Gt} {free f t : Int} {paid : List Int} (h : okT l free f t = true) :
    (∀ r, simT l free (fun k _ => hasL paid k) (passL l f t) noTic [] = some r → validT l free f t paid = decide (r = paid)) ∧
    (simT l free (fun k _ => hasL paid k) (passL l f t) noTic [] = none → validT l free f t paid = false) := by
  have hp := passL_pas (okT_valid h) f t
  rw [sim_has hp (FU.none hp), List.nil_append]
  unfold validT
  rw [h, Bool.true_and]
  by_cases e : (passL l f t).filter (hasL paid) = paid
  · rw [decide_eq_true e, Bool.true_and, e]
    by_cases c : coverB l free paid (passL l f t) paid = true
    · rw [if_pos c]
      refine ⟨fun r hr => ?_, fun h => by simp at h⟩
      simp only [Option.some.injEq] at hr
      subst hr
      rw [c]; simp
    · rw [if_neg c]
      refine ⟨fun r h => by simp at h, fun _ => Bool.eq_false_iff.2 c⟩
  · rw [decide_eq_false e, Bool.false_and]
    refine ⟨fun r hr => ?_, fun _ => rfl⟩
    split at hr
    · simp only [Option.some.injEq] at hr
      subst hr
      exact (decide_eq_false e).symm
    · simp at hr
theorem validT_len {l : List Gt} {free f t : Int} {paid : List Int} (h : validT l free f t paid = true) : paid.length ≤ 10 := by
  have h1 := (validG_iff.1 (okT_valid (validT_ok h))).1
  unfold validT at h
  simp only [Bool.and_eq_true, decide_eq_true_eq] at h
  have h2 := List.length_filter_le (hasL paid) (passL l f t)
  have h3 := passL_len l f t
  rw [h.2.1] at h2
  omega
theorem validT_in {l : List Gt} {free f t : Int} {paid : List Int} (h : validT l free f t paid = true) {k : Int} (hk : k ∈ paid) : 0 ≤ k ∧ k < l.length ∧ k ∈ passL l f t := by
  have hp := passL_pas (okT_valid (validT_ok h)) f t
  unfold validT at h
  simp only [Bool.and_eq_true, decide_eq_true_eq] at h
  rw [← h.2.1, List.mem_filter] at hk
  have := hp.i k hk.1
  exact ⟨this.1, this.2, hk.1⟩
/-- The sum of the tolls of the first k payments. -/
def sumTo (l : List Gt) (paid : List Int) : Nat → Int
  | 0 => 0
  | k + 1 => sumTo l paid k + (gAt l (paid.getD k 0)).m
def sumX (l : List Gt) (free f t : Int) (paid : List Int) : Int := if validT l free f t paid = true then sumTo l paid paid.length else -1
theorem sumTo_bd {l : List Gt} {paid : List Int} (hv : validG l = true) (h : ∀ k ∈ paid, 0 ≤ k ∧ k < l.length) : ∀ {n : Nat}, n ≤ paid.length → 0 ≤ sumTo l paid n ∧ sumTo l paid n ≤ 99 * n
  | 0, _ => ⟨Int.le_refl _, Int.le_refl _⟩
  | n + 1, hn => by
    have h1 := sumTo_bd hv h (n := n) (by omega)
    have h2 := gAt_ok hv (h (paid.getD n 0) (mem_getD8.2 ⟨n, by omega, rfl⟩))
    unfold sumTo
    omega

/-! ### sums for each trust -/
theorem whereTo_map (p : Gt → Bool) (l : List Gt) {k : Nat} (hk : k ≤ l.length) : (whereTo p l k).map (gAt l) = (l.take k).filter p := by
  induction k with
  | zero => rfl
  | succ k ih =>
    have e : l.take (k + 1) = l.take k ++ [l.getD k gt0] := by
      rw [List.take_succ_eq_append_getElem (by omega)]; simp [List.getD, show k < l.length by omega]
    rw [whereTo_succ, e, List.filter_append, ← ih (by omega)]
    by_cases h : p (l.getD k gt0) = true
    · rw [if_pos h, List.map_append, List.filter_cons_of_pos h]; simp [gAt]
    · rw [if_neg h, List.filter_cons_of_neg h]; simp
theorem whereG_map (p : Gt → Bool) (l : List Gt) : (whereG p l).map (gAt l) = l.filter p := by
  unfold whereG
  rw [whereTo_map p l (Nat.le_refl _), List.take_length]
theorem validG_pw {l : List Gt} : validG l = true ↔ l.length ≤ 10 ∧ (∀ g ∈ l, fitsG g = true) ∧ l.Pairwise (fun x y => x.a < y.a) := by
  constructor
  · intro h
    refine ⟨(validG_iff.1 h).1, fun g hg => ?_, ?_⟩
    · obtain ⟨i, hi, rfl⟩ := List.mem_iff_getElem.1 hg
      have := ((okG_iff _ _).1 ((validG_iff.1 h).2 i hi)).1
      rwa [List.getD_eq_getElem?_getD, List.getElem?_eq_getElem hi] at this
    · rw [List.pairwise_iff_getElem]
      intro i j hi hj hij
      have := validG_lt h hij hj
      rwa [List.getD_eq_getElem?_getD, List.getD_eq_getElem?_getD, List.getElem?_eq_getElem hi, List.getElem?_eq_getElem hj] at this
  · rintro ⟨h1, h2, h3⟩
    refine validG_iff.2 ⟨h1, fun i hi => (okG_iff _ _).2 ?_⟩
    have e : l.getD i gt0 = l[i] := by rw [List.getD_eq_getElem?_getD, List.getElem?_eq_getElem hi]; rfl
    have hf := h2 l[i] (List.getElem_mem hi)
    rw [e]
    refine ⟨hf, ?_⟩
    cases i with
    | zero => have := (fitsG_iff _).1 hf; show (-1 : Int) < _; omega
    | succ j =>
      have e2 : l.getD j gt0 = l[j] := by rw [List.getD_eq_getElem?_getD, List.getElem?_eq_getElem (by omega)]; rfl
      show (l.getD j gt0).a < _
      rw [e2]
      exact (List.pairwise_iff_getElem.1 h3) j (j + 1) (by omega) hi (by omega)
theorem validG_sub {l l' : List Gt} (h : validG l = true) (hs : l'.Sublist l) : validG l' = true := by
  obtain ⟨h1, h2, h3⟩ := validG_pw.1 h
  exact validG_pw.2 ⟨Nat.le_trans hs.length_le h1, fun g hg => h2 g (hs.subset hg), h3.sublist hs⟩
/-- The least sum of a trust's gates. -/
def eachT (l : List Gt) (free f t : Int) (b : Int) : Int := gI l free (trI l b (passL l f t)) (-1)
def leastV (l : List Gt) (free f t : Int) : Int := lF free ((passL l f t).map (gAt l)) noTic
def leastX (l : List Gt) (free f t : Int) : Int := if okT l free f t = true then leastV l free f t else -1
def eachX (l : List Gt) (free f t : Int) : List Int := if okT l free f t = true then [eachT l free f t 0, eachT l free f t 1, eachT l free f t 2, eachT l free f t 3] else []
theorem leastV_sum {l : List Gt} (hv : validG l = true) (free f t : Int) : leastV l free f t = eachT l free f t 0 + eachT l free f t 1 + eachT l free f t 2 + eachT l free f t 3 := by
  unfold leastV eachT gI
  rw [lF_sum (passL_pas hv f t).bs]
  simp only [trI_map]; rfl
theorem onlyT_idem (b : Int) (s : List Gt) : onlyT b (onlyT b s) = onlyT b s := by unfold onlyT; rw [List.filter_filter]; simp
theorem onlyT_none {b c : Int} (h : b ≠ c) (s : List Gt) : onlyT c (onlyT b s) = [] := by
  unfold onlyT
  rw [List.filter_filter, List.filter_eq_nil_iff]
  intro g _
  simp only [Bool.and_eq_true, decide_eq_true_eq]
  omega
/-- A trust's gates alone: their least sum is the trust's. -/
theorem leastV_own {l : List Gt} (hv : validG l = true) (free f t : Int) {b : Int} (hb : 0 ≤ b ∧ b ≤ 3) : leastV (onlyT b l) free f t = eachT l free f t b := by
  have hv' : validG (onlyT b l) = true := validG_sub hv List.filter_sublist
  have e : (passL (onlyT b l) f t).map (gAt (onlyT b l)) = onlyT b ((passL l f t).map (gAt l)) := by
    unfold passL
    rw [whereG_map, whereG_map]
    unfold onlyT
    rw [List.filter_filter, List.filter_filter]
    congr 1; funext g; rw [Bool.and_comm]
  unfold leastV eachT gI
  rw [trI_map, e, lF_sum (fun g hg => by
    have := (passL_pas hv f t).bs g (List.mem_filter.1 hg).1
    exact this)]
  have h4 : b = 0 ∨ b = 1 ∨ b = 2 ∨ b = 3 := by omega
  rcases h4 with rfl | rfl | rfl | rfl
  · rw [onlyT_idem, onlyT_none (by decide), onlyT_none (by decide), onlyT_none (by decide)]; simp [lG, noTic]
  · rw [onlyT_idem, onlyT_none (by decide), onlyT_none (by decide), onlyT_none (by decide)]; simp [lG, noTic]
  · rw [onlyT_idem, onlyT_none (by decide), onlyT_none (by decide), onlyT_none (by decide)]; simp [lG, noTic]
  · rw [onlyT_idem, onlyT_none (by decide), onlyT_none (by decide), onlyT_none (by decide)]; simp [lG, noTic]
theorem okT_own {l : List Gt} {free f t : Int} (h : okT l free f t = true) (b : Int) : okT (onlyT b l) free f t = true := by
  have hv := validG_sub (okT_valid h) (List.filter_sublist (p := fun g => decide (g.b = b)))
  unfold okT at h ⊢
  simp only [Bool.and_eq_true] at h ⊢
  exact ⟨⟨⟨hv, h.1.1.2⟩, h.1.2⟩, h.2⟩
theorem eachT_bd {l : List Gt} (hv : validG l = true) (free f t b : Int) : 0 ≤ eachT l free f t b ∧ eachT l free f t b ≤ 990 := by
  have hp := (passL_pas hv f t).filter (fun k => decide ((gAt l k).b = b))
  have h1 := gI_nonneg (free := free) (r := -1) hp
  have h2 := gI_le (free := free) (r := -1) hp
  have h3 := List.length_filter_le (fun k => decide ((gAt l k).b = b)) (passL l f t)
  have h4 := passL_len l f t
  have h5 := (validG_iff.1 hv).1
  unfold eachT trI
  omega
/-- The best payments: what the model finds, and what the program sorts. -/
def bestX (l : List Gt) (free f t : Int) : List Int := if okT l free f t = true then mI l free (passL l f t) noTic else []
theorem best_trust {l : List Gt} (hv : validG l = true) (free f t b : Int) : trI l b (mI l free (passL l f t) noTic) = chI l free (trI l b (passL l f t)) := by
  have hp := passL_pas hv f t
  rw [mI_only hp]
  exact (first_pays (hp.filter _)).2

end Go.Proofs.Ythhllpnbmelidaa
