/- Facts of a mile's owner: turned roads, a mile sold to its owner; pure. -/
import Derived.Test.YthdkjjfnockldaaPF
namespace Go.Proofs.Ythdkjjfnockldaa

theorem soldL_same {l : List Pt} {a b o : Int} (h : ∀ k : Nat, k < (ownP l).length → inS a b k = true → ownAt l k = o) : soldL l a b o = ownP l := by
  refine Eq.trans (List.map_congr_left (fun k hk => ?_)) (ownP_all l)
  unfold soldAt
  split
  · rename_i h1; exact (h k (List.mem_range.1 hk) h1).symm
  · rfl
theorem owner_facts {l : List Pt} {m : Int} (h : mileOk l m = true) : validP l = true ∧ validP l.reverse = true ∧ turnX l = l.reverse ∧ mileOk l.reverse (lenX l - 1 - m) = true ∧ mileX l.reverse (lenX l - 1 - m) = mileX l m ∧ sellX l m (m + 1) (mileX l m) = plainX l ∧ sellOk l m (m + 1) (mileX l m) = plainOk l ∧ 0 ≤ m ∧ m < lenX l ∧ lenX l ≤ 1188 := by
  obtain ⟨hv, h0, h1⟩ := mileOk_iff.1 h
  obtain ⟨e1, e2, _, _, _, e6⟩ := turn_facts hv
  have hl := lenX_yes hv
  have hN := ownP_len hv
  have ho : mileOk l.reverse (lenX l - 1 - m) = true := mileOk_iff.2 ⟨e2, by rw [hl]; omega, by rw [hl, ownP_rev, List.length_reverse]; omega⟩
  have hmx : mileX l m = ownAt l m.toNat := by unfold mileX; rw [if_yes h]
  have hs : soldL l m (m + 1) (mileX l m) = ownP l := soldL_same (fun k hk hin => by
    have := inS_iff.1 hin
    rw [hmx, show m.toNat = k by omega])
  have hsell : sellOk l m (m + 1) (mileX l m) = plainOk l := by
    unfold sellOk plainOk
    rw [hs, hv, strOk_iff.2 ⟨hv, h0, by omega, by omega⟩, okOw_iff.2 (by rw [hmx]; exact ownAt_ok hv _)]
    rfl
  refine ⟨hv, e2, e1, ho, ?_, ?_, hsell, h0, by rw [hl]; exact h1, by rw [hl]; omega⟩
  · rw [hmx]
    unfold mileX
    rw [if_yes ho, hl]
    unfold ownAt
    rw [ownP_rev, List.getD_eq_getElem?_getD, List.getD_eq_getElem?_getD, List.getElem?_reverse (by omega)]
    congr 2
    omega
  · unfold sellX plainX; rw [hsell, hs]

end Go.Proofs.Ythdkjjfnockldaa
