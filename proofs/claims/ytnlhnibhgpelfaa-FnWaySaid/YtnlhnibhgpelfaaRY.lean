/- Pure facts for FnWay: ways back, parts of ways. -/
import Derived.Test.YtnlhnibhgpelfaaRW
namespace Go.Proofs.Ytnlhnibhgpelfaa

def sumF (f : Nat → Int) : Nat → Int
  | 0 => 0
  | k + 1 => sumF f k + f k
theorem sumE_F (l : List Rd) (way : List Int) : ∀ k, sumE l way k = sumF (fun i => (segE l way i).getD 0) k
  | 0 => rfl
  | k + 1 => by show sumE l way k + _ = sumF _ k + _; rw [sumE_F l way k]
theorem sumF_congr {f g : Nat → Int} : ∀ {k : Nat}, (∀ i, i < k → f i = g i) → sumF f k = sumF g k
  | 0, _ => rfl
  | k + 1, h => by show sumF f k + f k = sumF g k + g k; rw [sumF_congr (fun i hi => h i (by omega)), h k (by omega)]
theorem sumF_add (f : Nat → Int) (a : Nat) : ∀ b, sumF f (a + b) = sumF f a + sumF (fun i => f (a + i)) b
  | 0 => by simp [sumF]
  | b + 1 => by
    show sumF f (a + b) + f (a + b) = sumF f a + (sumF (fun i => f (a + i)) b + f (a + b))
    rw [sumF_add f a b]; omega
theorem sumF_rev (f : Nat → Int) : ∀ k, sumF (fun i => f (k - 1 - i)) k = sumF f k
  | 0 => rfl
  | k + 1 => by
    have h := sumF_add (fun i => f (k + 1 - 1 - i)) 1 k
    rw [Nat.add_comm 1 k] at h
    rw [h]
    have h1 : sumF (fun i => f (k + 1 - 1 - i)) 1 = f k := by simp [sumF]
    have h2 : sumF (fun i => f (k + 1 - 1 - (1 + i))) k = sumF f k := by
      rw [← sumF_rev f k]
      exact sumF_congr fun i hi => by congr 1; omega
    rw [h1, h2]
    show f k + sumF f k = sumF f k + f k
    omega

theorem getD_rev {way : List Int} {k i : Nat} (hl : way.length = k + 1) (hi : i ≤ k) : way.reverse.getD i 0 = way.getD (k - i) 0 := by
  rw [List.getD_eq_getElem?_getD, List.getD_eq_getElem?_getD, List.getElem?_reverse (by omega)]
  congr 2; omega
theorem seg_rev {l : List Rd} {way : List Int} {k i : Nat} (hl : way.length = k + 1) (hi : i < k) : segE l way.reverse i = segE l way (k - 1 - i) := by
  unfold segE
  rw [getD_rev hl (by omega), getD_rev hl (by omega), edge_symm]
  congr 2 <;> omega
theorem rev_way {n : Int} {l : List Rd} {way : List Int} {k : Nat} (hl : way.length = k + 1) (h : isWay n l way k) : isWay n l way.reverse k ∧ sumE l way.reverse k = sumE l way k := by
  refine ⟨⟨fun i hi => ?_, fun i hi => ?_⟩, ?_⟩
  · rw [getD_rev hl hi]; exact h.1 _ (by omega)
  · rw [seg_rev hl hi]; exact h.2 _ (by omega)
  · rw [sumE_F, sumE_F, ← sumF_rev (fun i => (segE l way i).getD 0) k]
    exact sumF_congr fun i hi => by rw [seg_rev hl hi]

theorem seg_take {l : List Rd} {way : List Int} {j i : Nat} (hi : i < j) : segE l (way.take (j + 1)) i = segE l way i := by
  simp [segE, List.getD, show i < j + 1 by omega, show i + 1 < j + 1 by omega]
theorem seg_drop {l : List Rd} {way : List Int} {j i : Nat} : segE l (way.drop j) i = segE l way (j + i) := by
  simp [segE, List.getD, Nat.add_assoc]
theorem split_way {n : Int} {l : List Rd} {way : List Int} {k j : Nat} (h : isWay n l way k) (hj : j ≤ k) :
    isWay n l (way.take (j + 1)) j ∧ isWay n l (way.drop j) (k - j) ∧ sumE l (way.take (j + 1)) j + sumE l (way.drop j) (k - j) = sumE l way k := by
  refine ⟨⟨fun i hi => ?_, fun i hi => ?_⟩, ⟨fun i hi => ?_, fun i hi => ?_⟩, ?_⟩
  · have e : (way.take (j + 1)).getD i 0 = way.getD i 0 := by simp [List.getD, show i < j + 1 by omega]
    rw [e]; exact h.1 i (by omega)
  · rw [seg_take hi]; exact h.2 i (by omega)
  · have e : (way.drop j).getD i 0 = way.getD (j + i) 0 := by simp [List.getD]
    rw [e]; exact h.1 _ (by omega)
  · rw [seg_drop]; exact h.2 _ (by omega)
  · rw [sumE_F, sumE_F, sumE_F]
    have e := sumF_add (fun i => (segE l way i).getD 0) j (k - j)
    rw [show j + (k - j) = k by omega] at e
    rw [e]
    congr 1
    · exact sumF_congr fun i hi => by rw [seg_take hi]
    · exact sumF_congr fun i hi => by rw [seg_drop]

theorem way_path {n : Int} {l : List Rd} {way : List Int} {k : Nat} (h : isWay n l way k) : ∀ j, j ≤ k → Way (edge l) (way.getD 0 0) (way.getD j 0) (sumE l way j)
  | 0, _ => .nil _
  | j + 1, hj => by
    have ih := way_path h j (by omega)
    obtain ⟨m, hm⟩ := Option.isSome_iff_exists.1 (h.2 j (by omega))
    have h1 : Way (edge l) (way.getD j 0) (way.getD (j + 1) 0) (m + 0) := Way.cons hm (.nil _)
    have h2 := ih.trans h1
    have e : sumE l way (j + 1) = sumE l way j + (m + 0) := by
      show sumE l way j + (segE l way j).getD 0 = _
      rw [hm]; simp
    rw [e]; exact h2

/-- What FnWay asks. -/
theorem wlen_law {n : Int} {l : List Rd} {way : List Int} (h : 0 ≤ wayLenOf n l way) {j : Nat} (hj : j < way.length) : ∃ k, way.length = k + 1 ∧
    0 ≤ farOf n l (way.getD 0 0) (way.getD k 0) ∧ farOf n l (way.getD 0 0) (way.getD k 0) ≤ wayLenOf n l way ∧ wayLenOf n l way.reverse = wayLenOf n l way ∧
    wayLenOf n l (way.take (j + 1)) + wayLenOf n l (way.drop j) = wayLenOf n l way := by
  obtain ⟨hz, k, hk, hw, hs⟩ := of_wlen h
  have hp := way_path hw k (Nat.le_refl _)
  obtain ⟨d, hd⟩ := dist_exists (edges_ok hz).pos ⟨_, hp⟩
  have h0 := hw.1 0 (by omega)
  unfold inT at h0
  have hf := far_of_dist hz (by omega) hd
  obtain ⟨r1, r2⟩ := rev_way hk hw
  obtain ⟨s1, s2, s3⟩ := split_way hw (show j ≤ k by omega)
  refine ⟨k, hk, ?_, ?_, ?_, ?_⟩
  · rw [hf]; exact hd.nonneg (edges_ok hz).pos
  · rw [hf, hs]; exact hd.2 _ hp
  · rw [wlen_of hz (by simp [hk]) r1, r2, hs]
  · rw [wlen_of hz (by simp; omega) s1, wlen_of hz (show (way.drop j).length = (k - j) + 1 by simp; omega) s2, s3, hs]
theorem wlen_bd {n : Int} {l : List Rd} {way : List Int} : -1 ≤ wayLenOf n l way ∧ wayLenOf n l way ≤ 99 * (way.length : Int) := by
  by_cases h : 0 ≤ wayLenOf n l way
  · obtain ⟨hz, k, hk, hw, hs⟩ := of_wlen h
    have := wayTo_bd hz ((wayTo_iff n l way k _).2 ⟨hw, rfl⟩)
    omega
  · unfold wayLenOf at h ⊢
    split
    · rename_i hc
      rw [if_pos hc] at h
      cases hw : wayTo n l way way.length with
      | none => simp; omega
      | some s => rw [hw] at h; have := wayTo_bd hc.1 hw; simp at h ⊢; omega
    · omega

end Go.Proofs.Ytnlhnibhgpelfaa
