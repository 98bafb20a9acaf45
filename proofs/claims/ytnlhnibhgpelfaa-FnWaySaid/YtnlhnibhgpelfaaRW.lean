/- Pure facts on ways: their lengths, the shortest way. -/
import Derived.Test.YtnlhnibhgpelfaaAC
import Derived.Test.YtnlhnibhgpelfaaW7
import Derived.Test.YtnlhnibhgpelfaaRF
namespace Go.Proofs.Ytnlhnibhgpelfaa

def inT (n x : Int) : Prop := 0 ≤ x ∧ x ≤ n - 1
def segE (l : List Rd) (way : List Int) (i : Nat) : Option Int := edge l (way.getD i 0) (way.getD (i + 1) 0)
def sumE (l : List Rd) (way : List Int) : Nat → Int
  | 0 => 0
  | k + 1 => sumE l way k + (segE l way k).getD 0
/-- The first k + 1 towns are a way. -/
def isWay (n : Int) (l : List Rd) (way : List Int) (k : Nat) : Prop := (∀ i, i ≤ k → inT n (way.getD i 0)) ∧ ∀ i, i < k → (segE l way i).isSome = true

theorem wayTo_iff (n : Int) (l : List Rd) (way : List Int) : ∀ (k : Nat) (s : Int), wayTo n l way (k + 1) = some s ↔ isWay n l way k ∧ s = sumE l way k
  | 0, s => by
    simp only [wayTo, isWay, sumE, inT, ite_true]
    constructor
    · intro h
      split at h
      · rename_i hc
        injection h with h
        exact ⟨⟨fun i hi => by (obtain rfl : i = 0 := by omega); exact hc, fun i hi => by omega⟩, h.symm⟩
      · cases h
    · rintro ⟨⟨h1, _⟩, rfl⟩
      rw [if_pos (h1 0 (Nat.le_refl _))]
  | k + 1, s => by
    have ih := wayTo_iff n l way k
    have e : wayTo n l way (k + 1 + 1) = (match wayTo n l way (k + 1) with
      | none => none
      | some s => if 0 ≤ way.getD (k + 1) 0 ∧ way.getD (k + 1) 0 ≤ n - 1 then (if k + 1 = 0 then some s else (edge l (way.getD (k + 1 - 1) 0) (way.getD (k + 1) 0)).map (s + ·)) else none) := rfl
    rw [e]
    constructor
    · intro h
      cases hk : wayTo n l way (k + 1) with
      | none => rw [hk] at h; cases h
      | some s0 =>
        rw [hk] at h
        simp only at h
        obtain ⟨⟨h1, h2⟩, rfl⟩ := (ih s0).1 hk
        split at h
        · rename_i hc
          rw [if_neg (by omega)] at h
          rw [Option.map_eq_some_iff] at h
          obtain ⟨m, hm, rfl⟩ := h
          have hm' : segE l way k = some m := hm
          refine ⟨⟨fun i hi => ?_, fun i hi => ?_⟩, ?_⟩
          · by_cases ei : i = k + 1
            · subst ei; exact hc
            · exact h1 i (by omega)
          · by_cases ei : i = k
            · subst ei; rw [hm']; rfl
            · exact h2 i (by omega)
          · show sumE l way k + m = sumE l way k + (segE l way k).getD 0
            rw [hm']; rfl
        · cases h
    · rintro ⟨⟨h1, h2⟩, rfl⟩
      rw [(ih (sumE l way k)).2 ⟨⟨fun i hi => h1 i (by omega), fun i hi => h2 i (by omega)⟩, rfl⟩]
      simp only
      rw [if_pos (show 0 ≤ way.getD (k + 1) 0 ∧ way.getD (k + 1) 0 ≤ n - 1 from h1 (k + 1) (Nat.le_refl _)), if_neg (by omega)]
      obtain ⟨m, hm⟩ := Option.isSome_iff_exists.1 (h2 k (by omega))
      have hm' : edge l (way.getD (k + 1 - 1) 0) (way.getD (k + 1) 0) = some m := hm
      rw [hm']
      show some (sumE l way k + m) = some (sumE l way k + (segE l way k).getD 0)
      rw [hm]; rfl

theorem wlen_of {n : Int} {l : List Rd} {way : List Int} {k : Nat} (hz : validR n l = true) (hl : way.length = k + 1) (h : isWay n l way k) : wayLenOf n l way = sumE l way k := by
  unfold wayLenOf
  rw [if_pos ⟨hz, by rintro rfl; simp at hl⟩, hl, (wayTo_iff n l way k _).2 ⟨h, rfl⟩]
  rfl
theorem of_wlen {n : Int} {l : List Rd} {way : List Int} (h : 0 ≤ wayLenOf n l way) : validR n l = true ∧ ∃ k, way.length = k + 1 ∧ isWay n l way k ∧ wayLenOf n l way = sumE l way k := by
  unfold wayLenOf at h ⊢
  split at h
  · rename_i hc
    obtain ⟨hz, hne⟩ := hc
    obtain ⟨k, hk⟩ : ∃ k, way.length = k + 1 := ⟨way.length - 1, by have := List.length_pos_iff.2 hne; omega⟩
    rw [if_pos ⟨hz, hne⟩]
    refine ⟨hz, k, hk, ?_⟩
    rw [hk] at h ⊢
    cases hw : wayTo n l way (k + 1) with
    | none => rw [hw] at h; exact absurd h (by decide)
    | some s =>
      obtain ⟨h1, h2⟩ := (wayTo_iff n l way k s).1 hw
      exact ⟨h1, by rw [← h2]; rfl⟩
  · omega

theorem seg_cons (l : List Rd) (t : Int) (r : List Int) (i : Nat) : segE l (t :: r) (i + 1) = segE l r i := by simp [segE]
theorem sum_cons (l : List Rd) (t : Int) (r : List Int) : ∀ k, sumE l (t :: r) (k + 1) = (edge l t (r.getD 0 0)).getD 0 + sumE l r k
  | 0 => by simp [sumE, segE]
  | k + 1 => by
    have ih := sum_cons l t r k
    show sumE l (t :: r) (k + 1) + (segE l (t :: r) (k + 1)).getD 0 = _ + (sumE l r k + (segE l r k).getD 0)
    rw [ih, seg_cons]; omega
theorem isWay_cons {n : Int} {l : List Rd} {t : Int} {r : List Int} {k : Nat} (ht : inT n t) (he : (edge l t (r.getD 0 0)).isSome = true) (h : isWay n l r k) : isWay n l (t :: r) (k + 1) := by
  refine ⟨fun i hi => ?_, fun i hi => ?_⟩
  · cases i with
    | zero => simpa using ht
    | succ i => simpa using h.1 i (by omega)
  · cases i with
    | zero => simpa [segE] using he
    | succ i => rw [seg_cons]; exact h.2 i (by omega)

/-- The shortest way from t on. -/
theorem wayL_facts {n : Int} {l : List Rd} (hz : validR n l = true) {b : Int} (hb : 0 ≤ b ∧ b < n) : ∀ (k : Nat) (t d : Int), (0 ≤ t ∧ t < n) → Dist (edge l) b t d → d ≤ (k : Int) →
    ∃ r : List Int, wayL n l b k t = t :: r ∧ isWay n l (t :: r) r.length ∧ sumE l (t :: r) r.length = d ∧ (t :: r).getLastD 0 = b ∧ (t :: r).Nodup ∧ (∀ x ∈ r, ∃ d', Dist (edge l) b x d' ∧ d' < d) ∧ (t = b → r = [])
  | 0, t, d, ht, hd, hk => by
    have h0 := hd.nonneg (edges_ok hz).pos
    have hd0 : d = 0 := by omega
    have hbt := (hd.zero_iff (edges_ok hz).pos).1 hd0
    exact ⟨[], rfl, ⟨fun i hi => by (obtain rfl : i = 0 := by simpa using hi); simp [inT]; omega, fun i hi => by simp at hi⟩, by simp [sumE, hd0], by simpa using hbt.symm, by simp, (fun x hx => by cases hx), fun _ => rfl⟩
  | k + 1, t, d, ht, hd, hk => by
    by_cases hne : t = b
    · subst hne
      have hd0 := (hd.zero_iff (edges_ok hz).pos).2 rfl
      exact ⟨[], wayL_end n l t (k + 1), ⟨fun i hi => by (obtain rfl : i = 0 := by simpa using hi); simp [inT]; omega, fun i hi => by simp at hi⟩, by simp [sumE, hd0], by simp, by simp, (fun x hx => by cases hx), fun _ => rfl⟩
    · obtain ⟨h1, h2⟩ := mem_nearL.1 (next_mem hz hb hd hne)
      obtain ⟨m, hm, he⟩ := nearP_iff.1 h2
      obtain ⟨d', hd'⟩ := near_dist hz hd hm
      rw [distN_of hb hd, distN_of hb hd'] at he
      simp only [Option.getD_some] at he
      have hmm := edge_miles hz hm
      have hd0 := hd'.nonneg (edges_ok hz).pos
      obtain ⟨r, e1, e2, e3, e4, e5, e6, _⟩ := wayL_facts hz hb k (nextT n l b t) d' h1 hd' (by omega)
      have hnx : ((nextT n l b t :: r).getD 0 0) = nextT n l b t := by simp
      refine ⟨nextT n l b t :: r, by rw [wayL_cons k hne, e1], ?_, ?_, ?_, ?_, ?_, fun e => absurd e hne⟩
      · exact isWay_cons ⟨ht.1, by omega⟩ (by rw [hnx, hm]; rfl) e2
      · rw [List.length_cons, sum_cons, hnx, hm, e3]; simp; omega
      · rw [List.getLastD_cons]
        cases r with
        | nil => simpa using e4
        | cons y ys => rw [List.getLastD_cons] at e4 ⊢; rw [List.getLastD_cons] at e4 ⊢; exact e4
      · rw [List.nodup_cons]
        refine ⟨fun hx => ?_, e5⟩
        rw [List.mem_cons] at hx
        rcases hx with hx | hx
        · exact hmm.2.2.2.2.2.2 hx
        · obtain ⟨d2, h3, h4⟩ := e6 t hx
          have := hd.uniq h3; omega
      · intro x hx
        rw [List.mem_cons] at hx
        rcases hx with rfl | hx
        · exact ⟨d', hd', by omega⟩
        · obtain ⟨d2, h3, h4⟩ := e6 x hx
          exact ⟨d2, h3, by omega⟩

theorem wayL_fuel {n : Int} {l : List Rd} (hz : validR n l = true) {b : Int} (hb : 0 ≤ b ∧ b < n) : ∀ (k j : Nat) (t d : Int), (0 ≤ t ∧ t < n) → Dist (edge l) b t d → d ≤ (k : Int) → k ≤ j → wayL n l b k t = wayL n l b j t
  | 0, j, t, d, ht, hd, hk, _ => by
    have h0 := hd.nonneg (edges_ok hz).pos
    have hbt := (hd.zero_iff (edges_ok hz).pos).1 (by omega)
    subst hbt
    rw [wayL_end, wayL_end]
  | k + 1, j, t, d, ht, hd, hk, hj => by
    by_cases hne : t = b
    · subst hne; rw [wayL_end, wayL_end]
    · obtain ⟨j', rfl⟩ : ∃ j', j = j' + 1 := ⟨j - 1, by omega⟩
      obtain ⟨h1, d', hd', hlt, h0⟩ := next_dist hz hb hd hne
      rw [wayL_cons k hne, wayL_cons j' hne, wayL_fuel hz hb k j' _ d' h1 hd' (by omega) (by omega)]

/-- What FnRoadsWay asks. -/
theorem way_law {n : Int} {l : List Rd} {a b : Int} (h : wayOk n l a b = true) : ∃ r : List Int, wayOf n l a b = a :: r ∧ (a :: r).Nodup ∧ wayLenOf n l (a :: r) = farOf n l a b ∧ (a :: r).getLastD 0 = b ∧ (a = b → r = []) ∧
    (∀ x s, r = x :: s → wayOk n l x b = true ∧ wayOf n l x b = r) ∧ (r = [] → a = b) ∧ (∀ x ∈ a :: r, 0 ≤ x ∧ x < n) ∧ (0 ≤ b ∧ b < n) := by
  have hzr : validR n l = true ∧ reachB n (edge l) a b = true := by simpa [wayOk] using h
  obtain ⟨hz, hr⟩ := hzr
  obtain ⟨ha, hb, d, hd⟩ := reach_in hz hr
  have hd8 := (edges_ok hz).dist hd
  obtain ⟨r, e1, e2, e3, e4, e5, e6, e7⟩ := wayL_facts hz hb 800 a d ha hd (by omega)
  refine ⟨r, by unfold wayOf; rw [if_pos h]; exact e1, e5, ?_, e4, e7, fun x s hrx => ?_, fun e => ?_, fun x hx => ?_, hb⟩
  · rw [wlen_of hz (by simp) e2, e3, far_of_dist hz ha (hd.symm (edge_sym l))]
  · by_cases hab : a = b
    · rw [e7 hab] at hrx; cases hrx
    · obtain ⟨h1, d', hd', hlt, h0⟩ := next_dist hz hb hd hab
      have hx : x = nextT n l b a := by
        rw [show (800 : Nat) = 799 + 1 from rfl, wayL_cons 799 hab] at e1
        injection e1 with _ e1
        obtain ⟨r', e8, _⟩ := wayL_facts hz hb 799 (nextT n l b a) d' h1 hd' (by omega)
        rw [e8, hrx] at e1
        injection e1 with e1 _
        exact e1.symm
      have hok : wayOk n l x b = true := by
        unfold wayOk
        rw [hz, Bool.true_and]
        unfold reachB
        rw [distN_of (hx ▸ h1) (hx ▸ hd'.symm (edge_sym l))]
        rfl
      refine ⟨hok, ?_⟩
      unfold wayOf
      rw [if_pos hok, hx, ← wayL_fuel hz hb 799 800 _ d' h1 hd' (by omega) (by omega)]
      rw [show (800 : Nat) = 799 + 1 from rfl, wayL_cons 799 hab] at e1
      injection e1 with _ e1
  · subst e; simpa using e4
  · obtain ⟨i, hi, rfl⟩ := List.getElem_of_mem hx
    have := e2.1 i (by simp at hi; omega)
    unfold inT at this
    rw [List.getD_eq_getElem?_getD, List.getElem?_eq_getElem hi] at this
    simp only [Option.getD_some] at this
    omega

end Go.Proofs.Ytnlhnibhgpelfaa
