/- Facts of rides; pure. -/
import Derived.Test.YthdkjjfnockldaaSFS
import Derived.Test.YthdkjjfnockldaaQ7
namespace Go.Proofs.Ythdkjjfnockldaa

theorem cnt6_one (o : Int) (i : Nat) : (cnt6 [o]).getD i 0 = if i < 6 ∧ (i : Int) = o then 1 else 0 := by
  by_cases hi : i < 6
  · rw [cnt6_at _ hi]
    by_cases e : (i : Int) = o
    · rw [if_pos ⟨hi, e⟩, e]; simp
    · rw [if_neg (fun h => e h.2)]
      rw [List.count_cons, List.count_nil]
      simp [Ne.symm e]
  · rw [if_neg (fun h => hi h.1)]
    simp [List.getD, List.getElem?_eq_none (show (cnt6 [o]).length ≤ i by rw [cnt6_len]; omega)]
structure RideFacts (l : List Pt) (f t a : Int) : Prop where
  vl : validP l = true
  a0 : 0 ≤ a ∧ a ≤ 1000000
  n : 1 ≤ lenX l ∧ lenX l ≤ 1188
  ok0 : rideOk l 0 (lenX l) a = true
  all : riddX l 0 (lenX l) a = makeX l a
  mok : makeOk l a = true
  ok1 : rideOk l f (f + 1) a = true
  f0 : 0 ≤ f ∧ f ≤ 1188
  own : mileOk l f = true
  one : ∀ i, i < 6 → (riddX l f (f + 1) a).getD i 0 = if (i : Int) = mileX l f then a else 0
  l1 : (riddX l f (f + 1) a).length = 6
  lx : (riddX l f t a).length = 6
  sum : (riddX l f t a).sum = a
  bd : ∀ i, -2000000000 ≤ (riddX l f t a).getD i 0 ∧ (riddX l f t a).getD i 0 ≤ 2000000000
theorem ride_facts {l : List Pt} {f t a : Int} (h : rideOk l f t a = true) : RideFacts l f t a := by
  have h' := h
  unfold rideOk at h'
  simp only [Bool.and_eq_true] at h'
  obtain ⟨hs, ha⟩ := h'
  obtain ⟨hv, f0, ft, tn⟩ := strOk_iff.1 hs
  obtain ⟨a0, a1⟩ := okAm_iff.1 ha
  have hl := lenX_yes hv
  have hN := ownP_len hv
  have hN0 := ownP_pos hv
  have s0 : strOk l 0 (lenX l) = true := strOk_iff.2 ⟨hv, by omega, by rw [hl]; omega, by rw [hl]; omega⟩
  have ok0 : rideOk l 0 (lenX l) a = true := by unfold rideOk; rw [s0, ha]; rfl
  have mok : makeOk l a = true := by unfold makeOk; rw [hv, ha]; rfl
  have s1 : strOk l f (f + 1) = true := strOk_iff.2 ⟨hv, f0, by omega, by omega⟩
  have ok1 : rideOk l f (f + 1) a = true := by unfold rideOk; rw [s1, ha]; rfl
  have hall : rideL l 0 (lenX l) = ownP l := by
    unfold rideL
    rw [List.filter_eq_self.2 (fun k hk => inS_iff.2 (by have := List.mem_range.1 hk; rw [hl]; omega)), ownP_all]
  have ho : mileOk l f = true := mileOk_iff.2 ⟨hv, f0, by omega⟩
  have hmx : mileX l f = ownAt l f.toNat := by unfold mileX; rw [if_yes ho]
  have hone : rideL l f (f + 1) = [mileX l f] := by
    obtain ⟨k, rfl⟩ : ∃ k : Nat, f = (k : Int) := ⟨f.toNat, by omega⟩
    rw [ride_up l (k : Int) k f0 (Int.le_refl _) (by omega), ride_none, hmx, Int.toNat_natCast]; rfl
  have hpos := rideL_pos hs
  have x1 : riddX l f (f + 1) a = shareL (cnt6 [mileX l f]) a := by unfold riddX; rw [if_yes ok1, hone]
  have xt : riddX l f t a = shareL (cnt6 (rideL l f t)) a := by unfold riddX; rw [if_yes h]
  have ob : 0 ≤ mileX l f ∧ mileX l f ≤ 5 := by rw [hmx]; exact ownAt_ok hv _
  have c1 : (cnt6 [mileX l f]).sum = 1 := cnt6_sum [mileX l f] (fun x hx => by simp only [List.mem_singleton] at hx; subst hx; exact ob)
  refine ⟨hv, ⟨a0, a1⟩, by rw [hl]; omega, ok0, ?_, mok, ok1, by omega, ho, fun i hi => ?_, by rw [x1, shareL_len, cnt6_len], by rw [xt, shareL_len, cnt6_len], by rw [xt]; exact shareL_sum a hpos.1, fun i => ?_⟩
  · unfold riddX makeX; rw [if_yes ok0, if_yes mok, hall]
  · rw [x1]
    have hw := share_whole (ms := cnt6 [mileX l f]) (amt := a) (by rw [c1]; omega) (fun i _ => by rw [c1]; omega) i
    rw [c1, Int.mul_one, cnt6_one] at hw
    rw [hw]
    by_cases e : (i : Int) = mileX l f
    · rw [if_pos ⟨hi, e⟩, if_pos e, Int.mul_one]
    · rw [if_neg (fun h => e h.2), if_neg e, Int.mul_zero]
  · rw [xt]
    have := shareL_bd (ms := cnt6 (rideL l f t)) (amt := a) (by rw [cnt6_len]; omega) (cnt6_le _ (rideL_len hv)) ⟨a0, a1⟩ hpos.1 i
    omega

end Go.Proofs.Ythdkjjfnockldaa
