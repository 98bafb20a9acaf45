/- Nets, pure: the table that spreading gives is that of the earliest times; tables by rides. -/
import Derived.Test.YtmkcnoaphoiiaaaJ2
namespace Go.Proofs.Ytmkcnoaphoiiaaa

theorem atS_one {n : Int} {l : List Rd} (hz : validS n l = true) {i : Nat} (hi : i < l.length) : atS l (l.getD i rd0).a = some i := by
  unfold atS
  rw [List.findIdx?_eq_some_iff_getElem]
  refine ⟨hi, by simp [List.getD, hi], fun j hj => ?_⟩
  have := validS_ne hz hj hi
  simp [List.getD, hi, show j < l.length by omega] at this
  simpa [List.getD, hi] using this

theorem atS_in {l : List Rd} {u : Int} {i : Nat} (h : atS l u = some i) : i < l.length ∧ (l.getD i rd0).a = u := by
  unfold atS at h
  rw [List.findIdx?_eq_some_iff_getElem] at h
  obtain ⟨hi, h, _⟩ := h
  refine ⟨hi, ?_⟩
  simpa [List.getD, hi] using h

theorem mem_subC {l : List Rd} {r : Int} {i : Nat} {y : Ltr} : y ∈ subC l r i ↔ ∃ j, i < j ∧ j < l.length ∧ y = ⟨(l.getD j rd0).a, (l.getD j rd0).b, r + 1⟩ := by
  unfold subC
  rw [List.mem_map]
  constructor
  · rintro ⟨j, hj, rfl⟩
    rw [List.mem_drop_iff_getElem] at hj
    obtain ⟨k, hk, rfl⟩ := hj
    simp at hk ⊢
    exact ⟨i + 1 + k, by omega, by omega, rfl, rfl⟩
  · rintro ⟨j, h1, h2, rfl⟩
    refine ⟨j, ?_, rfl⟩
    rw [List.mem_drop_iff_getElem]
    exact ⟨j - (i + 1), by simp; omega, by simp; omega⟩

/-- The letters that a coach brings to the stops behind the i-th, up to the j-th. -/
def subJ (l : List Rd) (r : Int) (i j : Nat) : List Ltr := ((List.range j).drop (i + 1)).map fun j => ⟨(l.getD j rd0).a, (l.getD j rd0).b, r + 1⟩
theorem subJ_all (l : List Rd) (r : Int) (i : Nat) : subJ l r i l.length = subC l r i := rfl
theorem subJ_nil (l : List Rd) (r : Int) (i : Nat) : subJ l r i (i + 1) = [] := by simp [subJ]
theorem subJ_succ (l : List Rd) (r : Int) {i j : Nat} (h : i < j) : subJ l r i (j + 1) = subJ l r i j ++ [⟨(l.getD j rd0).a, (l.getD j rd0).b, r + 1⟩] := by
  unfold subJ
  rw [List.range_succ, List.drop_append_of_le_length (by simp; omega)]
  simp
theorem subsC_none {ch : Int} {x : Ltr} {l : List Rd} (h : atS l x.u = none) : subsC ch x l = [] := by unfold subsC; rw [h]
theorem subsC_no {ch : Int} {x : Ltr} {l : List Rd} {i : Nat} (h : atS l x.u = some i) (hc : catL ch x (l.getD i rd0).m = false) : subsC ch x l = [] := by unfold subsC; rw [h]; simp only; rw [hc]; rfl
theorem subsC_yes {ch : Int} {x : Ltr} {l : List Rd} {i : Nat} (h : atS l x.u = some i) (hc : catL ch x (l.getD i rd0).m = true) : subsC ch x l = subC l x.r i := by unfold subsC; rw [h]; simp only; rw [hc]; rfl
theorem take_flat {α β : Type} (g : List α → List β) (net : List (List α)) {k : Nat} (h : k < net.length) : (net.take (k + 1)).flatMap g = (net.take k).flatMap g ++ g (net.getD k []) := by
  rw [List.take_succ_eq_append_getElem h, List.flatMap_append]
  simp [List.getD, h]
theorem spr_no {κ : Kp} {net : List (List Rd)} {ch : Int} {d : Nat} {T : Tbl} {x : Ltr} (h : (impr κ T x).2 = false) : spr κ net ch (d + 1) T x = (impr κ T x).1 := by
  unfold spr
  rw [if_neg (by rw [h]; simp)]
  unfold impr at h ⊢
  split
  · rename_i hh; rw [if_pos hh] at h; cases h
  · rfl
theorem spr_yes {κ : Kp} {net : List (List Rd)} {ch : Int} {d : Nat} {T : Tbl} {x : Ltr} (h : (impr κ T x).2 = true) : spr κ net ch (d + 1) T x = sprL κ net ch d (impr κ T x).1 (net.flatMap (subsC ch x)) := by
  unfold spr
  rw [if_pos h]
  rfl

section
variable {n : Int} {net : List (List Rd)} {ch f t0 : Int}

theorem mem_subs (ok : okNet n net = true) {x y : Ltr} : y ∈ subs net ch x ↔ ∃ s v a, Hop net x.u s v a ∧ catL ch x s = true ∧ y = ⟨v, a, x.r + 1⟩ := by
  unfold subs
  rw [List.mem_flatMap]
  constructor
  · rintro ⟨l, hl, hy⟩
    obtain ⟨c, hc, rfl⟩ := List.getElem_of_mem hl
    unfold subsC at hy
    split at hy
    · cases hy
    · rename_i i hi
      split at hy
      · rename_i hcat
        obtain ⟨j, h1, h2, rfl⟩ := mem_subC.1 hy
        have := atS_in hi
        exact ⟨_, _, _, ⟨c, i, j, hc, h1, by rw [coach_eq hc]; exact h2, by unfold stp; rw [coach_eq hc]; exact this.2, rfl, rfl, rfl⟩, by unfold stp; rw [coach_eq hc]; exact hcat, by unfold stp; rw [coach_eq hc]⟩
      · cases hy
  · rintro ⟨s, v, a, ⟨c, i, j, hc, hij, hj, h1, h2, h3, h4⟩, hcat, rfl⟩
    refine ⟨coach net c, by rw [coach_eq hc]; exact List.getElem_mem hc, ?_⟩
    unfold subsC
    have hz := (okNet_iff.1 ok).2 c hc
    have e := atS_one hz (show i < (coach net c).length by omega)
    unfold stp at h1 h2 h3 h4
    rw [h1] at e
    rw [e]
    simp only
    rw [h2, if_pos hcat]
    exact mem_subC.2 ⟨j, hij, hj, by rw [h3, h4]⟩

theorem subsUp (ok : okNet n net = true) (hc : 0 ≤ ch) : SubsUp net ch := by
  intro x hr y hy
  obtain ⟨s, v, a, hh, hcat, rfl⟩ := (mem_subs ok).1 hy
  have h := hh.fwd ok
  unfold catL at hcat
  simp only
  split at hcat <;> simp only [decide_eq_true_eq] at hcat <;> exact ⟨by omega, by omega, by trivial⟩

/-- What holds of each letter on its way. -/
def Lok (net : List (List Rd)) (ch f t0 : Int) (x : Ltr) : Prop := 0 ≤ x.r ∧ (x.r = 0 → x.u = f ∧ x.t = t0) ∧ Rn net ch f t0 x.r.toNat x.u x.t

theorem lok_base : Lok net ch f t0 ⟨f, t0, 0⟩ := ⟨Int.le_refl _, fun _ => ⟨rfl, rfl⟩, .base⟩

theorem lok_sub (ok : okNet n net = true) (hc : 0 ≤ ch) (x : Ltr) (hx : Lok net ch f t0 x) (y : Ltr) (hy : y ∈ subs net ch x) : Lok net ch f t0 y := by
  obtain ⟨s, v, a, hh, hcat, rfl⟩ := (mem_subs ok).1 hy
  obtain ⟨h0, h1, h2⟩ := hx
  refine ⟨by show 0 ≤ x.r + 1; omega, fun h => by simp only at h; omega, ?_⟩
  have e : (x.r + 1).toNat = x.r.toNat + 1 := by omega
  show Rn net ch f t0 (x.r + 1).toNat v a
  rw [e]
  refine .ride h2 hh ?_
  unfold catL at hcat
  split at hcat
  · rename_i hr
    simp only [decide_eq_true_eq] at hcat
    have := (h1 hr).1
    unfold dl
    rw [if_pos this]
    omega
  · simp only [decide_eq_true_eq] at hcat
    have := dl_le (f := f) hc x.u
    omega

def κ1 : Kp := ⟨fun _ => true, fun _ => 0⟩
def κ2 (n : Int) : Kp := ⟨fun x => decide (x.r < n), fun x => x.r⟩
def noT : Tbl := fun _ _ => none
/-- The table of a letter. -/
def tab1 (net : List (List Rd)) (ch f t0 : Int) : Tbl := spr κ1 net ch 10001 noT ⟨f, t0, 0⟩
def tab2 (n : Int) (net : List (List Rd)) (ch f t0 : Int) : Tbl := spr (κ2 n) net ch 10001 noT ⟨f, t0, 0⟩
def timeT (T : Tbl) (u : Int) : Int := match T 0 u with | none => -1 | some y => y.t

theorem tab1_lok (ok : okNet n net = true) (hc : 0 ≤ ch) {k u : Int} {y : Ltr} (h : tab1 net ch f t0 k u = some y) : Lok net ch f t0 y ∧ y.u = u ∧ (0 : Int) = k := by
  obtain ⟨h1, h2, h3, _⟩ := spr_inv (P := Lok net ch f t0) (lok_sub ok hc) 10001 noT _ lok_base (fun _ _ _ e => by cases e) k u y h
  exact ⟨h1, h2, h3⟩

theorem tab1_done (ok : okNet n net = true) (hc : 0 ≤ ch) (ht : 0 ≤ t0 ∧ t0 ≤ 10000) : (∃ y, tab1 net ch f t0 0 f = some y ∧ y.t ≤ t0) ∧
    ∀ u x, tab1 net ch f t0 0 u = some x → ∀ y ∈ subs net ch x, ∃ z, tab1 net ch f t0 0 y.u = some z ∧ z.t ≤ y.t := by
  obtain ⟨h1, h2⟩ := spr_done (κ := κ1) (subsUp ok hc) 10001 noT ⟨f, t0, 0⟩ (by simp only; omega) ht.2 (Int.le_refl _)
  refine ⟨h1 rfl, fun u x e y hy => ?_⟩
  rcases h2 0 u x e with e' | e'
  · cases e'
  · exact e' y hy rfl

/-- In the first town the letter is behind no ride, elsewhere behind some. -/
theorem tab1_r (ok : okNet n net = true) (hc : 0 ≤ ch) (ht : 0 ≤ t0 ∧ t0 ≤ 10000) {u : Int} {y : Ltr} (h : tab1 net ch f t0 0 u = some y) : (y.r = 0 ↔ u = f) ∧ (u = f → y.t = t0) := by
  obtain ⟨⟨h0, h1, h2⟩, h3, _⟩ := tab1_lok ok hc h
  obtain ⟨⟨z, hz, hzt⟩, _⟩ := tab1_done (f := f) ok hc ht
  have key : u = f → y.r = 0 := fun e => by
    subst e
    rw [h] at hz
    injection hz with hz
    subst hz
    apply Decidable.byContradiction
    intro hr
    have := h2.gt ok hc (by omega)
    omega
  exact ⟨⟨fun e => by have := (h1 e).1; omega, key⟩, fun e => (h1 (key e)).2⟩

theorem tab1_all (ok : okNet n net = true) (hc : 0 ≤ ch) (ht : 0 ≤ t0 ∧ t0 ≤ 10000) {k : Nat} {u t : Int} (h : Rn net ch f t0 k u t) : ∃ y, tab1 net ch f t0 0 u = some y ∧ y.t ≤ t := by
  induction h with
  | base => exact (tab1_done ok hc ht).1
  | ride h hh hs ih =>
    rename_i k u t s v a
    obtain ⟨y, hy, hyt⟩ := ih
    have hr := tab1_r ok hc ht hy
    obtain ⟨_, hu, _⟩ := tab1_lok ok hc hy
    have hcat : catL ch y s = true := by
      unfold catL
      have := dl_nn (f := f) hc u
      unfold dl at this hs
      split
      · simp only [decide_eq_true_eq]; omega
      · rename_i hn
        have hne : u ≠ f := fun e => hn (hr.1.2 e)
        rw [if_neg hne] at hs
        simp only [decide_eq_true_eq]; omega
    obtain ⟨z, hz, hzt⟩ := (tab1_done ok hc ht).2 u y hy ⟨v, a, y.r + 1⟩ ((mem_subs ok).2 ⟨s, v, a, by rw [hu]; exact hh, hcat, rfl⟩)
    exact ⟨z, hz, hzt⟩

theorem tab1_isTab (ok : okNet n net = true) (hc : 0 ≤ ch) (ht : 0 ≤ t0 ∧ t0 ≤ 10000) : IsTab net ch f t0 n (timeT (tab1 net ch f t0)) := by
  refine ⟨fun u t ⟨k, h⟩ => ?_, fun u _ _ => ?_⟩
  · obtain ⟨y, hy, hyt⟩ := tab1_all ok hc ht h
    obtain ⟨⟨_, _, h2⟩, _⟩ := tab1_lok ok hc hy
    unfold timeT
    rw [hy]
    have := h2.ge ok hc
    exact ⟨by simp only; omega, hyt⟩
  · unfold timeT
    cases e : tab1 net ch f t0 0 u with
    | none => exact .inl rfl
    | some y =>
      obtain ⟨⟨_, _, h2⟩, h3, _⟩ := tab1_lok ok hc e
      rw [h3] at h2
      exact .inr ⟨_, h2⟩

theorem tab2_lok (ok : okNet n net = true) (hc : 0 ≤ ch) {k u : Int} {y : Ltr} (h : tab2 n net ch f t0 k u = some y) : Lok net ch f t0 y ∧ y.u = u ∧ y.r = k ∧ k < n := by
  obtain ⟨h1, h2, h3, h4⟩ := spr_inv (P := Lok net ch f t0) (κ := κ2 n) (lok_sub ok hc) 10001 noT _ lok_base (fun _ _ _ e => by cases e) k u y h
  have h5 : y.r = k := h3
  have h6 : y.r < n := of_decide_eq_true h4
  exact ⟨h1, h2, h5, by omega⟩

theorem tab2_rn (ok : okNet n net = true) (hc : 0 ≤ ch) {k : Nat} {u : Int} {y : Ltr} (h : tab2 n net ch f t0 k u = some y) : Rn net ch f t0 k u y.t := by
  obtain ⟨⟨_, _, h1⟩, h2, h3, _⟩ := tab2_lok ok hc h
  rw [h2, h3] at h1
  exact h1

theorem tab2_done (hn : 1 ≤ n) (ok : okNet n net = true) (hc : 0 ≤ ch) (ht : 0 ≤ t0 ∧ t0 ≤ 10000) : (∃ y, tab2 n net ch f t0 0 f = some y ∧ y.t ≤ t0) ∧
    ∀ k u x, tab2 n net ch f t0 k u = some x → ∀ y ∈ subs net ch x, y.r < n → ∃ z, tab2 n net ch f t0 y.r y.u = some z ∧ z.t ≤ y.t := by
  obtain ⟨h1, h2⟩ := spr_done (κ := κ2 n) (subsUp ok hc) 10001 noT ⟨f, t0, 0⟩ (by simp only; omega) ht.2 (Int.le_refl _)
  refine ⟨h1 (decide_eq_true (by show (0 : Int) < n; omega)), fun k u x e y hy hlt => ?_⟩
  rcases h2 k u x e with e' | e'
  · cases e'
  · exact e' y hy (decide_eq_true hlt)

/-- With no more rides, a letter is there as early. -/
theorem tab2_all (hf : 0 ≤ f ∧ f < n) (ok : okNet n net = true) (hc : 0 ≤ ch) (ht : 0 ≤ t0 ∧ t0 ≤ 10000) {k : Nat} {u t : Int} (h : Rn net ch f t0 k u t) : (k : Int) < n → ∃ k' y, k' ≤ k ∧ tab2 n net ch f t0 (k' : Nat) u = some y ∧ y.t ≤ t := by
  induction h with
  | base => intro _; obtain ⟨y, h1, h2⟩ := (tab2_done (f := f) (by omega) ok hc ht).1; exact ⟨0, y, Nat.le_refl _, h1, h2⟩
  | ride h hh hs ih =>
    rename_i k u t s v a
    intro hk
    have hge := h.ge ok hc
    have hdl := dl_nn (f := f) hc u
    have go : ∀ (k' : Nat) (y : Ltr), k' ≤ k → tab2 n net ch f t0 k' u = some y → catL ch y s = true → ∃ k' y, k' ≤ k + 1 ∧ tab2 n net ch f t0 (k' : Nat) v = some y ∧ y.t ≤ a := fun k' y hle hy hcat => by
      obtain ⟨_, hu, hr, _⟩ := tab2_lok ok hc hy
      obtain ⟨z, hz, hzt⟩ := (tab2_done (by omega) ok hc ht).2 k' u y hy ⟨v, a, y.r + 1⟩ ((mem_subs ok).2 ⟨s, v, a, by rw [hu]; exact hh, hcat, rfl⟩) (by simp only; omega)
      simp only at hz hzt
      rw [hr] at hz
      exact ⟨k' + 1, z, by omega, hz, hzt⟩
    by_cases huf : u = f
    · subst huf
      obtain ⟨y, hy, hyt⟩ := (tab2_done (n := n) (f := u) (by omega) ok hc ht).1
      obtain ⟨_, _, hr, _⟩ := tab2_lok ok hc hy
      refine go 0 y (Nat.zero_le _) hy ?_
      unfold catL
      rw [if_pos hr]
      simp only [decide_eq_true_eq]; omega
    · obtain ⟨k', y, hle, hy, hyt⟩ := ih (by omega)
      refine go k' y hle hy ?_
      obtain ⟨⟨_, h1, _⟩, hu, _, _⟩ := tab2_lok ok hc hy
      unfold dl at hs
      rw [if_neg huf] at hs
      unfold catL
      split
      · rename_i hr; have := (h1 hr).1; omega
      · simp only [decide_eq_true_eq]; omega

/-- The least number of rides. -/
def FewIs (net : List (List Rd)) (ch f t0 u : Int) (k : Nat) : Prop := (∃ t, Rn net ch f t0 k u t) ∧ ∀ k' t, k' < k → ¬ Rn net ch f t0 k' u t

theorem few_exists {u t : Int} (h : Rch net ch f t0 u t) : ∃ k, FewIs net ch f t0 u k := by
  obtain ⟨k, h⟩ := h
  have key : ∀ (m : Nat) (k : Nat) (t : Int), k ≤ m → Rn net ch f t0 k u t → ∃ k, FewIs net ch f t0 u k := by
    intro m
    induction m with
    | zero => intro k t hk h; obtain rfl : k = 0 := Nat.le_zero.1 hk; exact ⟨0, ⟨t, h⟩, fun k' _ hk' => by omega⟩
    | succ m ih =>
      intro k t hk h
      by_cases hx : ∃ k' t, k' < k ∧ Rn net ch f t0 k' u t
      · obtain ⟨k', t', hlt, h'⟩ := hx
        exact ih k' t' (by omega) h'
      · exact ⟨k, ⟨t, h⟩, fun k' t' hlt h' => hx ⟨k', t', hlt, h'⟩⟩
  exact key k k t (Nat.le_refl _) h

theorem few_lt (ok : okNet n net = true) (hc : 0 ≤ ch) (hf : 0 ≤ f ∧ f < n) {u : Int} {k : Nat} (h : FewIs net ch f t0 u k) : (k : Int) < n := by
  obtain ⟨⟨t, h1⟩, h2⟩ := h
  obtain ⟨k', t', h3, _, h4⟩ := Rch.few ok hc hf ⟨k, h1⟩
  apply Decidable.byContradiction
  intro hn
  exact h2 k' t' (by omega) h3

/-- Where the tables by rides have a town first. -/
theorem few_tab2 (ok : okNet n net = true) (hc : 0 ≤ ch) (hf : 0 ≤ f ∧ f < n) (ht : 0 ≤ t0 ∧ t0 ≤ 10000) {u : Int} {k : Nat} (h : FewIs net ch f t0 u k) :
    (tab2 n net ch f t0 k u).isSome = true ∧ ∀ k' : Nat, k' < k → tab2 n net ch f t0 k' u = none := by
  have hk := few_lt ok hc hf h
  obtain ⟨⟨t, h1⟩, h2⟩ := h
  have hno : ∀ k' : Nat, k' < k → tab2 n net ch f t0 k' u = none := fun k' hlt => by
    cases e : tab2 n net ch f t0 k' u with
    | none => rfl
    | some y => exact absurd (tab2_rn ok hc e) (h2 k' _ hlt)
  refine ⟨?_, hno⟩
  obtain ⟨k', y, hle, hy, _⟩ := tab2_all hf ok hc ht h1 hk
  by_cases e : k' = k
  · rw [← e, hy]; rfl
  · rw [hno k' (by omega)] at hy; cases hy

theorem few_none (ok : okNet n net = true) (hc : 0 ≤ ch) {u : Int} (h : ∀ t, ¬ Rch net ch f t0 u t) (k : Nat) : tab2 n net ch f t0 k u = none := by
  cases e : tab2 n net ch f t0 k u with
  | none => rfl
  | some y => exact absurd ⟨k, tab2_rn ok hc e⟩ (h _)

end

end Go.Proofs.Ytmkcnoaphoiiaaa
