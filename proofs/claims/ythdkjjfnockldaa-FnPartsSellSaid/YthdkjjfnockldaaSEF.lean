/- Facts of sold miles; pure. -/
import Derived.Test.YthdkjjfnockldaaPF
namespace Go.Proofs.Ythdkjjfnockldaa

structure SellFacts (l ys : List Pt) (f t o : Int) : Prop where
  vl : validP l = true
  vy : validP ys = true
  f0 : 0 ≤ f
  ft : f < t
  len : lenX ys = lenX l
  bd : 1 ≤ lenX l ∧ lenX l ≤ 1188
  plain : plainX ys = ys
  plok : plainOk ys = true
  own : ∀ k : Nat, (k : Int) < lenX l → mileOk l k = true ∧ mileOk ys k = true ∧ mileX ys k = if f ≤ k ∧ (k : Int) < t then o else mileX l k
theorem sell_facts {l : List Pt} {f t o : Int} (h : sellOk l f t o = true) : SellFacts l (sellX l f t o) f t o := by
  have h' := h
  unfold sellOk at h'
  simp only [Bool.and_eq_true] at h'
  obtain ⟨hs, ho, hp⟩ := h'
  obtain ⟨hv, f0, ft, tn⟩ := strOk_iff.1 hs
  have hy : sellX l f t o = plainL (soldL l f t o) := by unfold sellX; rw [if_yes h]
  rw [hy]
  have hl : (soldL l f t o).length = (ownP l).length := by unfold soldL; rw [List.length_map, List.length_range]
  have hN := ownP_len hv
  have hN0 := ownP_pos hv
  have hpo : plainOk (plainL (soldL l f t o)) = true := by unfold plainOk; rw [ownP_plain, hp]; rfl
  refine ⟨hv, hp, f0, ft, by rw [lenX_yes hp, lenX_yes hv, ownP_plain, hl], by rw [lenX_yes hv]; omega, by unfold plainX; rw [if_yes hpo, ownP_plain], hpo, fun k hk => ?_⟩
  rw [lenX_yes hv] at hk
  have o1 : mileOk l k = true := mileOk_iff.2 ⟨hv, by omega, hk⟩
  have o2 : mileOk (plainL (soldL l f t o)) k = true := mileOk_iff.2 ⟨hp, by omega, by rw [ownP_plain, hl]; exact hk⟩
  refine ⟨o1, o2, ?_⟩
  unfold mileX
  rw [if_yes o1, if_yes o2, Int.toNat_natCast]
  have e : ownAt (plainL (soldL l f t o)) k = soldAt (ownAt l) f t o k := by
    rw [ownAt, ownP_plain]
    unfold soldL
    rw [List.getD_eq_getElem?_getD, List.getElem?_map, List.getElem?_range (by omega)]
    rfl
  rw [e]
  unfold soldAt
  by_cases q : f ≤ k ∧ (k : Int) < t
  · rw [if_pos q, if_pos (inS_iff.2 q)]
  · rw [if_neg q, if_neg (fun h => q (inS_iff.1 h))]

end Go.Proofs.Ythdkjjfnockldaa
