/- Facts of joined roads; pure. -/
import Derived.Test.YthdkjjfnockldaaPF
namespace Go.Proofs.Ythdkjjfnockldaa

theorem cnt6_app (a b : List Int) (i : Nat) : (cnt6 a).getD i 0 + (cnt6 b).getD i 0 = (cnt6 (a ++ b)).getD i 0 := by
  by_cases hi : i < 6
  · rw [cnt6_at _ hi, cnt6_at _ hi, cnt6_at _ hi, List.count_append]; omega
  · have h : ∀ os, (cnt6 os).getD i 0 = 0 := fun os => by simp [List.getD, List.getElem?_eq_none (show (cnt6 os).length ≤ i by rw [cnt6_len]; omega)]
    rw [h, h, h]; rfl
theorem ownP_app (a b : List Pt) : ownP (a ++ b) = ownP a ++ ownP b := by simp [ownP]
structure JoinFacts (a b c : List Pt) : Prop where
  va : validP a = true
  vb : validP b = true
  vc : validP c = true
  len : lenX c = lenX a + lenX b
  miles : ∀ i, (milesX a).getD i 0 + (milesX b).getD i 0 = (milesX c).getD i 0
  owner : ∀ m, 0 ≤ m → m < lenX b → mileOk b m = true ∧ mileOk c (lenX a + m) = true ∧ mileX c (lenX a + m) = mileX b m
  la : 1 ≤ lenX a ∧ lenX a ≤ 1188
  lb : 1 ≤ lenX b ∧ lenX b ≤ 1188
  ma : (milesX a).length = 6
  mb : (milesX b).length = 6
  mc : (milesX c).length = 6
  bd : ∀ i, 0 ≤ (milesX a).getD i 0 ∧ (milesX a).getD i 0 ≤ 1188 ∧ 0 ≤ (milesX b).getD i 0 ∧ (milesX b).getD i 0 ≤ 1188
theorem join_facts {a b : List Pt} (h : joinOk a b = true) : joinX a b = a ++ b ∧ JoinFacts a b (a ++ b) := by
  have h' := h
  unfold joinOk at h'
  simp only [Bool.and_eq_true] at h'
  obtain ⟨va, vb, vc⟩ := h'
  have pa := ownP_pos va; have pb := ownP_pos vb
  have la := ownP_len va; have lb := ownP_len vb
  have mm : ∀ {l}, validP l = true → milesX l = cnt6 (ownP l) := fun h => by unfold milesX; rw [if_yes h]
  refine ⟨by unfold joinX; rw [if_yes h], ⟨va, vb, vc, ?_, fun i => ?_, fun m m0 m1 => ?_, ?_, ?_, by rw [mm va, cnt6_len], by rw [mm vb, cnt6_len], by rw [mm vc, cnt6_len], fun i => ?_⟩⟩
  · rw [lenX_yes va, lenX_yes vb, lenX_yes vc, ownP_app, List.length_append]; omega
  · rw [mm va, mm vb, mm vc, ownP_app]; exact cnt6_app _ _ i
  · rw [lenX_yes vb] at m1
    have o1 : mileOk b m = true := mileOk_iff.2 ⟨vb, m0, m1⟩
    have o2 : mileOk (a ++ b) (lenX a + m) = true := mileOk_iff.2 ⟨vc, by rw [lenX_yes va]; omega, by rw [lenX_yes va, ownP_app, List.length_append]; omega⟩
    refine ⟨o1, o2, ?_⟩
    unfold mileX
    rw [if_yes o1, if_yes o2, lenX_yes va]
    unfold ownAt
    rw [ownP_app, show (((ownP a).length : Int) + m).toNat = (ownP a).length + m.toNat by omega, List.getD_eq_getElem?_getD, List.getElem?_append_right (by omega), Nat.add_sub_cancel_left, List.getD_eq_getElem?_getD]
  · rw [lenX_yes va]; omega
  · rw [lenX_yes vb]; omega
  · rw [mm va, mm vb]
    have := cnt6_le _ la i; have := cnt6_le _ lb i; omega

end Go.Proofs.Ythdkjjfnockldaa
