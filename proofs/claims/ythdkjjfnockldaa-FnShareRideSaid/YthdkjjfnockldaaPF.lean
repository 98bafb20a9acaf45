/- Facts of roads in parts: turned, plain; pure. -/
import Derived.Test.YthdkjjfnockldaaQV
namespace Go.Proofs.Ythdkjjfnockldaa

theorem ownP_rev (l : List Pt) : ownP l.reverse = (ownP l).reverse := by
  induction l with
  | nil => rfl
  | cons r l ih =>
    rw [List.reverse_cons, ownP_snoc, ih]
    have e : ownP (r :: l) = List.replicate r.b.toNat r.a ++ ownP l := by simp [ownP]
    rw [e, List.reverse_append, List.reverse_replicate]
theorem cnt6_rev (os : List Int) : cnt6 os.reverse = cnt6 os := by
  unfold cnt6
  simp only [List.count_reverse]
theorem validP_rev (l : List Pt) : validP l.reverse = validP l := by
  rw [Bool.eq_iff_iff, validP_iff, validP_iff]
  simp only [List.length_reverse, List.mem_reverse]
theorem turnX_yes {l : List Pt} (h : validP l = true) : turnX l = l.reverse := by unfold turnX; rw [if_yes h]
theorem turn_facts {l : List Pt} (h : validP l = true) : turnX l = l.reverse ∧ validP l.reverse = true ∧ turnX l.reverse = l ∧ milesX l.reverse = milesX l ∧ (∀ a, makeX l.reverse a = makeX l a ∧ makeOk l.reverse a = makeOk l a) ∧ lenX l.reverse = lenX l := by
  have hv : validP l.reverse = true := by rw [validP_rev]; exact h
  refine ⟨turnX_yes h, hv, by rw [turnX_yes hv, List.reverse_reverse], ?_, fun a => ⟨?_, ?_⟩, ?_⟩
  · unfold milesX; rw [validP_rev, ownP_rev, cnt6_rev]
  · unfold makeX makeOk; rw [validP_rev, ownP_rev, cnt6_rev]
  · unfold makeOk; rw [validP_rev]
  · unfold lenX; rw [validP_rev, ownP_rev, List.length_reverse]

theorem ownP_split2 (l : List Pt) (h : 0 < l.length) : ∃ l', l = l' ++ [l.getD (l.length - 1) pt0] ∧ ∀ r, l.set (l.length - 1) r = l' ++ [r] := by
  have hl : l ≠ [] := by rintro rfl; simp at h
  have e := List.dropLast_concat_getLast hl
  have eg : l.getLast hl = l.getD (l.length - 1) pt0 := by
    rw [List.getLast_eq_getElem, List.getD_eq_getElem?_getD, List.getElem?_eq_getElem (by omega)]; rfl
  refine ⟨l.dropLast, by rw [← eg]; exact e.symm, fun r => ?_⟩
  apply List.ext_getElem (by simp; omega)
  intro i h1 h2
  rw [List.getElem_set]
  by_cases hi : i = l.length - 1
  · subst hi
    simp
  · rw [if_neg (fun e => hi e.symm)]
    rw [List.getElem_append_left (by simp; rw [List.length_set] at h1; omega)]
    simp
theorem ownP_plain (os : List Int) : ownP (plainL os) = os := by
  refine snocRec (motive := fun os => ownP (plainL os) = os) rfl (fun os o ih => ?_) os
  by_cases h : 0 < (plainL os).length ∧ ((plainL os).getD ((plainL os).length - 1) pt0).a = o
  · rw [plainL_hit h.1 h.2]
    obtain ⟨l', e1, e2⟩ := ownP_split2 (plainL os) h.1
    have hb := (plainL_bd os).2 _ (List.getElem_mem (l := plainL os) (n := (plainL os).length - 1) (by omega))
    rw [← Pt.getD_eq _ (by omega)] at hb
    rw [e2, ownP_snoc]
    have ih' := ih
    rw [e1, ownP_snoc, h.2] at ih'
    conv => rhs; rw [← ih']
    rw [List.append_assoc]
    congr 1
    have e3 : ((plainL os).getD ((plainL os).length - 1) pt0).b + 1 = ((((plainL os).getD ((plainL os).length - 1) pt0).b.toNat + 1 : Nat) : Int) := by omega
    show List.replicate (((plainL os).getD ((plainL os).length - 1) pt0).b + 1).toNat o = _
    rw [e3, Int.toNat_natCast, List.replicate_succ']
  · rw [plainL_miss h, ownP_snoc, ih]; rfl

theorem lenX_yes {l : List Pt} (h : validP l = true) : lenX l = (ownP l).length := by unfold lenX; rw [if_yes h]
theorem plain_facts {l : List Pt} (h : plainOk l = true) : plainX l = plainL (ownP l) ∧ validP l = true ∧ validP (plainL (ownP l)) = true ∧ lenX (plainX l) = lenX l ∧ milesX (plainX l) = milesX l ∧ plainX (plainX l) = plainX l ∧ plainOk (plainX l) = true ∧ (∀ m, mileX (plainX l) m = mileX l m ∧ mileOk (plainX l) m = mileOk l m) := by
  have hx : plainX l = plainL (ownP l) := by unfold plainX; rw [if_yes h]
  have h' := h
  unfold plainOk at h'
  simp only [Bool.and_eq_true] at h'
  obtain ⟨hv, hp⟩ := h'
  have hk : plainOk (plainL (ownP l)) = true := by unfold plainOk; rw [ownP_plain, hp]; rfl
  have ha : ownAt (plainL (ownP l)) = ownAt l := by funext k; unfold ownAt; rw [ownP_plain]
  have hm : ∀ m, mileOk (plainL (ownP l)) m = mileOk l m := fun m => by unfold mileOk; rw [hp, hv, ownP_plain]
  rw [hx]
  refine ⟨rfl, hv, hp, ?_, ?_, ?_, hk, fun m => ⟨?_, hm m⟩⟩
  · rw [lenX_yes hp, lenX_yes hv, ownP_plain]
  · unfold milesX; rw [hp, hv, ownP_plain]
  · unfold plainX; rw [if_yes hk, ownP_plain]
  · unfold mileX; rw [hm, ha]
theorem len_parts {l : List Pt} (h : validP l = true) : (l.length : Int) ≤ lenX l ∧ lenX l ≤ 1188 := by
  have hl := ownP_len h
  rw [lenX_yes h]
  refine ⟨?_, by omega⟩
  have : ∀ l : List Pt, (∀ r ∈ l, okPt r = true) → l.length ≤ (ownP l).length := fun l => by
    induction l with
    | nil => intro _; simp
    | cons r l ih =>
      intro h
      have h1 := ih (fun x hx => h x (by simp [hx]))
      have h2 := okPt_iff.1 (h r (by simp))
      have e : ownP (r :: l) = List.replicate r.b.toNat r.a ++ ownP l := by simp [ownP]
      rw [e, List.length_append, List.length_replicate, List.length_cons]
      omega
  have := this l (validP_iff.1 h).2.2
  omega

end Go.Proofs.Ythdkjjfnockldaa
