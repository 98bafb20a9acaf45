/- Nets, pure: journeys go back; the latest leaving is the earliest coming in the net that goes back. -/
import Derived.Test.YtmkcnoaphoiiaaaJM
import Derived.Test.YtmkcnoaphoiiaaaJR
namespace Go.Proofs.Ytmkcnoaphoiiaaa

/-- A journey that leaves u at s and ends in v at a. -/
inductive Jy (net : List (List Rd)) (ch : Int) : Int → Int → Int → Int → Prop where
  | one {u s v a : Int} : Hop net u s v a → Jy net ch u s v a
  | more {u s v a s' x b : Int} : Jy net ch u s v a → Hop net v s' x b → a + ch ≤ s' → Jy net ch u s x b

section
variable {n : Int} {net : List (List Rd)} {ch f t0 : Int}

theorem Jy.front {u s v a : Int} (h : Hop net u s v a) {s' x b : Int} (h' : Jy net ch v s' x b) (hs : a + ch ≤ s') : Jy net ch u s x b := by
  induction h' with
  | one h2 => exact .more (.one h) h2 hs
  | more _ h3 h4 ih => exact .more ih h3 h4

theorem Jy.first {u s v a : Int} (h : Jy net ch u s v a) : ∃ v' a', Hop net u s v' a' := by
  induction h with
  | one h => exact ⟨_, _, h⟩
  | more _ _ _ ih => exact ih

theorem Jy.rch (hc : 0 ≤ ch) {s v a : Int} (h : Jy net ch f s v a) (hs : t0 ≤ s) : Rch net ch f t0 v a := by
  induction h with
  | one h2 => exact Rch.base.ride h2 (by unfold dl; rw [if_pos rfl]; omega)
  | more h1 h3 h4 ih =>
    refine Rch.ride ih h3 ?_
    rename_i v a s' x b
    have := dl_le (f := f) hc v
    omega

theorem Rn.jy (ok : okNet n net = true) (hc : 0 ≤ ch) {k : Nat} {v t : Int} (h : Rn net ch f t0 k v t) : (v = f ∧ t0 ≤ t) ∨ ∃ s a, t0 ≤ s ∧ Jy net ch f s v a ∧ a ≤ t := by
  induction h with
  | base => exact .inl ⟨rfl, Int.le_refl _⟩
  | ride h hh hs ih =>
    rename_i k u t s v a
    have hge := h.ge ok hc
    by_cases huf : u = f
    · subst huf
      refine .inr ⟨s, a, ?_, .one hh, Int.le_refl _⟩
      have := dl_nn (f := u) hc u
      omega
    · rcases ih with ⟨e, _⟩ | ⟨s1, a1, h1, h2, h3⟩
      · exact absurd e huf
      · refine .inr ⟨s1, a, h1, .more h2 hh ?_, Int.le_refl _⟩
        unfold dl at hs
        rw [if_neg huf] at hs
        omega

theorem Jy.rev {net' : List (List Rd)} {K : Int} (H : ∀ u s v a, Hop net u s v a → Hop net' v (K - a) u (K - s)) {u s v a : Int} (h : Jy net ch u s v a) : Jy net' ch v (K - a) u (K - s) := by
  induction h with
  | one h => exact .one (H _ _ _ _ h)
  | more _ h3 h4 ih => exact Jy.front (H _ _ _ _ h3) ih (by omega)

/-- The coach that goes back, stop by stop. -/
theorem back_at {l : List Rd} (hz : validS n l = true) {i : Nat} (hi : i < l.length) : (backTo l 10000 0).getD i rd0 = ⟨(l.getD (l.length - 1 - i) rd0).a, 10000 - (l.getD (l.length - 1 - i) rd0).m, 10000 - (l.getD (l.length - 1 - i) rd0).b⟩ := by
  have hj : l.length - 1 - i < l.length := by omega
  have hv := validS_at hz hj
  have e : (backTo l 10000 0).getD i rd0 = bacR 10000 (l.getD (l.length - 1 - i) rd0) := by
    rw [getD_eq _ (by rw [backTo_len]; omega), getD_eq l hj]
    unfold backTo
    simp
  rw [e]
  unfold bacR
  rw [IntWalk.i64_in _ (by omega), IntWalk.i64_in _ (by omega)]

theorem back_valid {l : List Rd} (hz : validS n l = true) : validS n (backTo l 10000 0) = true := by
  obtain ⟨⟨h1, h2, h3, h4⟩, h5⟩ := validS_iff.1 hz
  have hlen := backTo_len l 10000 0
  refine validS_iff.2 ⟨⟨h1, h2, by omega, by omega⟩, fun i hi => ?_⟩
  have hi' : i < l.length := by omega
  have hj : l.length - 1 - i < l.length := by omega
  obtain ⟨g1, g2, g3⟩ := (okS_iff _ _ _).1 (h5 _ hj)
  have g4 := (fitsS_iff _ _).1 g1
  have hva := validS_at hz hj
  refine (okS_iff _ _ _).2 ⟨?_, ?_, ?_⟩
  · rw [back_at hz hi']
    exact (fitsS_iff _ _).2 ⟨g4.1, g4.2.1, by simp only; omega, by simp only; omega, by simp only; omega⟩
  · cases i with
    | zero => unfold lastS; rw [back_at hz hi']; simp only; omega
    | succ j =>
      have e : lastS (backTo l 10000 0) (j + 1) = ((backTo l 10000 0).getD j rd0).m := rfl
      rw [e, back_at hz hi', back_at hz (show j < l.length by omega)]
      have := validS_lt hz (show l.length - 1 - (j + 1) < l.length - 1 - j by omega) (by omega)
      simp only
      omega
  · refine (newS_iff _ _ _).2 fun j hj2 => ?_
    rw [back_at hz hi', back_at hz (show j < l.length by omega)]
    have := validS_ne hz (show l.length - 1 - i < l.length - 1 - j by omega) (by omega)
    simp only
    intro e
    exact this e.symm

theorem backOk_yes {l : List Rd} (hz : validS n l = true) : backOk n l 10000 = true := by
  unfold backOk; rw [hz, back_valid hz]; rfl

theorem bk_ok (ok : okNet n net = true) : bkOk n net 10000 = true := by
  obtain ⟨_, h2⟩ := okNet_iff.1 ok
  unfold bkOk
  rw [ok, Bool.true_and, List.all_eq_true]
  intro l hl
  obtain ⟨c, hc, rfl⟩ := List.getElem_of_mem hl
  rw [← coach_eq hc]
  exact backOk_yes (h2 c hc)

/-- The net that goes back. -/
def bkN (net : List (List Rd)) : List (List Rd) := bkM 10000 net net.length
theorem bkN_len : (bkN net).length = net.length := bkM_len (Nat.le_refl _)
theorem bkN_at {c : Nat} (h : c < net.length) : coach (bkN net) c = backTo (coach net c) 10000 0 := bkM_at h (Nat.le_refl _)
theorem bkN_ok (ok : okNet n net = true) : okNet n (bkN net) = true := by
  obtain ⟨⟨h1, h2, h3⟩, h4⟩ := okNet_iff.1 ok
  refine okNet_iff.2 ⟨⟨h1, h2, by rw [bkN_len]; exact h3⟩, fun c hc => ?_⟩
  rw [bkN_len] at hc
  rw [bkN_at hc]
  exact back_valid (h4 c hc)
theorem bkX_is (ok : okNet n net = true) : bkX n net 10000 = bkN net := bkX_yes (bk_ok ok)

theorem hop_back (ok : okNet n net = true) {u s v a : Int} (h : Hop net u s v a) : Hop (bkN net) v (10000 - a) u (10000 - s) := by
  obtain ⟨c, i, j, hc, hij, hj, rfl, rfl, rfl, rfl⟩ := h
  have hz := (okNet_iff.1 ok).2 c hc
  have hl := backTo_len (coach net c) 10000 0
  refine ⟨c, (coach net c).length - 1 - j, (coach net c).length - 1 - i, by rw [bkN_len]; exact hc, by omega, by rw [bkN_at hc]; omega, ?_, ?_, ?_, ?_⟩ <;>
    unfold stp <;> rw [bkN_at hc, back_at hz (by omega)]
  · rw [show (coach net c).length - 1 - ((coach net c).length - 1 - j) = j by omega]
  · rw [show (coach net c).length - 1 - ((coach net c).length - 1 - j) = j by omega]
  · rw [show (coach net c).length - 1 - ((coach net c).length - 1 - i) = i by omega]
  · rw [show (coach net c).length - 1 - ((coach net c).length - 1 - i) = i by omega]

theorem hop_forth (ok : okNet n net = true) {u s v a : Int} (h : Hop (bkN net) u s v a) : Hop net v (10000 - a) u (10000 - s) := by
  obtain ⟨c, i, j, hc, hij, hj, rfl, rfl, rfl, rfl⟩ := h
  rw [bkN_len] at hc
  have hz := (okNet_iff.1 ok).2 c hc
  have hl := backTo_len (coach net c) 10000 0
  rw [bkN_at hc] at hj
  refine ⟨c, (coach net c).length - 1 - j, (coach net c).length - 1 - i, hc, by omega, by omega, ?_, ?_, ?_, ?_⟩ <;>
    unfold stp <;> rw [bkN_at hc, back_at hz (by omega)] <;> simp only <;> omega

/-- The latest leaving. -/
def IsLast (net : List (List Rd)) (ch f to t b : Int) : Prop := (∀ s a, Jy net ch f s to a → a ≤ t → s ≤ b) ∧ (b = -1 ∨ ∃ a, Jy net ch f b to a ∧ a ≤ t)

theorem IsLast.uniq (ok : okNet n net = true) {to t b b' : Int} (h : IsLast net ch f to t b) (h' : IsLast net ch f to t b') : b = b' := by
  have hp : ∀ s a, Jy net ch f s to a → 0 ≤ s := fun s a hj => by
    obtain ⟨v', a', hh⟩ := hj.first
    exact (hh.fwd ok).2.1
  rcases h.2 with e | ⟨a, e1, e2⟩ <;> rcases h'.2 with e' | ⟨a', e1', e2'⟩
  · omega
  · have := h.1 _ _ e1' e2'; have := hp _ _ e1'; omega
  · have := h'.1 _ _ e1 e2; have := hp _ _ e1; omega
  · have := h.1 _ _ e1' e2'; have := h'.1 _ _ e1 e2; omega

/-- By the table of the net that goes back. -/
theorem last_back (ok : okNet n net = true) (hc : 0 ≤ ch) {to t : Int} (hne : f ≠ to) (hf : 0 ≤ f ∧ f < n) {T : Int → Int} (hT : IsTab (bkN net) ch to (10000 - t) n T) :
    IsLast net ch f to t (if 0 ≤ T f then 10000 - T f else -1) := by
  have okb := bkN_ok ok
  have up : ∀ s a, Jy net ch f s to a → a ≤ t → 0 ≤ T f ∧ T f ≤ 10000 - s := fun s a hj ha => by
    have h1 := hj.rev (K := 10000) (fun _ _ _ _ h => hop_back ok h)
    exact hT.1 _ _ (h1.rch hc (by omega))
  refine ⟨fun s a hj ha => ?_, ?_⟩
  · obtain ⟨h1, h2⟩ := up s a hj ha
    rw [if_pos h1]; omega
  · by_cases h0 : 0 ≤ T f
    · rw [if_pos h0]
      right
      rcases hT.2 f hf.1 hf.2 with e | ⟨k, e⟩
      · omega
      · rcases e.jy okb hc with ⟨e1, _⟩ | ⟨s', a', h1, h2, h3⟩
        · exact absurd e1 hne
        · have hj := h2.rev (K := 10000) (fun _ _ _ _ h => hop_forth ok h)
          have h4 := up _ _ hj (by omega)
          have : a' = T f := by omega
          subst this
          exact ⟨_, hj, by omega⟩
    · rw [if_neg h0]; exact .inl rfl

/-- The model's: over all coaches. -/
def leTo (n : Int) (net : List (List Rd)) (f to t ch : Int) : Nat → Int
  | 0 => -1
  | k + 1 => match atS (coach net k) f with
    | none => leTo n net f to t ch k
    | some i => if (stp net k i).m ≤ leTo n net f to t ch k then leTo n net f to t ch k else if 0 ≤ paX n net f to (stp net k i).m ch ∧ paX n net f to (stp net k i).m ch ≤ t then (stp net k i).m else leTo n net f to t ch k

theorem pa_iff (ok : okNet n net = true) (hc : 0 ≤ ch ∧ ch ≤ 300) {to t m : Int} (hne : f ≠ to) (hf : 0 ≤ f ∧ f < n) (hto : 0 ≤ to ∧ to < n) (hm : 0 ≤ m ∧ m ≤ 10000) :
    (0 ≤ paX n net f to m ch ∧ paX n net f to m ch ≤ t) ↔ ∃ s a, m ≤ s ∧ Jy net ch f s to a ∧ a ≤ t := by
  have ho : okT7 n net f m ch = true := okT7_iff.2 ⟨ok, hc, hf, hm⟩
  have e : paX n net f to m ch = fT (tabA n net ch f m) to := by unfold paX; rw [if_pos ⟨ho, isTown_iff.2 hto⟩]
  have hT := tabA_isTab ok hc.1 hf hm (net := net) (ch := ch)
  rw [e]
  constructor
  · rintro ⟨h0, h1⟩
    rcases hT.2 to hto.1 hto.2 with e | ⟨k, e⟩
    · omega
    · rcases e.jy ok hc.1 with ⟨e1, _⟩ | ⟨s, a, h2, h3, h4⟩
      · exact absurd e1.symm hne
      · exact ⟨s, a, h2, h3, by omega⟩
  · rintro ⟨s, a, h1, h2, h3⟩
    have := hT.1 _ _ (h2.rch hc.1 h1)
    omega

theorem leTo_inv (ok : okNet n net = true) (hc : 0 ≤ ch ∧ ch ≤ 300) {to t : Int} (hne : f ≠ to) (hf : 0 ≤ f ∧ f < n) (hto : 0 ≤ to ∧ to < n) : ∀ k, k ≤ net.length →
    (∀ c i s a, c < k → i < (coach net c).length → (stp net c i).a = f → (stp net c i).m ≤ s → Jy net ch f s to a → a ≤ t → (stp net c i).m ≤ leTo n net f to t ch k) ∧
    (leTo n net f to t ch k = -1 ∨ (∃ s a, leTo n net f to t ch k ≤ s ∧ Jy net ch f s to a ∧ a ≤ t)) ∧ leTo n net f to t ch k ≤ 10000 ∧ -1 ≤ leTo n net f to t ch k
  | 0, _ => ⟨fun c _ _ _ h => by omega, .inl rfl, by show (-1 : Int) ≤ 10000; decide, by show (-1 : Int) ≤ -1; decide⟩
  | k + 1, hk => by
    obtain ⟨h1, h2, h3, h5⟩ := leTo_inv ok hc hne hf hto (t := t) k (by omega)
    unfold leTo
    have hz := (okNet_iff.1 ok).2 k (by omega)
    cases hat : atS (coach net k) f with
    | none =>
      simp only
      refine ⟨fun c i s a hck hi ha hm hj hat2 => ?_, h2, h3, h5⟩
      by_cases e : c = k
      · subst e
        have := atS_one hz hi
        rw [show ((coach net c).getD i rd0).a = f from ha, hat] at this
        cases this
      · exact h1 c i s a (by omega) hi ha hm hj hat2
    | some i0 =>
      simp only
      obtain ⟨hi0, ha0⟩ := atS_in hat
      have hv := validS_at hz hi0
      have hm0 : 0 ≤ (stp net k i0).m ∧ (stp net k i0).m ≤ 10000 := by unfold stp; omega
      have hpa := pa_iff ok hc hne hf hto hm0 (t := t) (net := net)
      have same : ∀ i, i < (coach net k).length → (stp net k i).a = f → i = i0 := fun i hi ha => by
        have := atS_one hz hi
        rw [show ((coach net k).getD i rd0).a = f from ha, hat] at this
        injection this with this; exact this.symm
      split
      · rename_i hle
        refine ⟨fun c i s a hck hi ha hm hj hat2 => ?_, h2, h3, h5⟩
        by_cases e : c = k
        · subst e; rw [same i hi ha]; exact hle
        · exact h1 c i s a (by omega) hi ha hm hj hat2
      · rename_i hgt
        split
        · rename_i hp
          obtain ⟨s1, a1, g1, g2, g3⟩ := hpa.1 hp
          refine ⟨fun c i s a hck hi ha hm hj hat2 => ?_, .inr ⟨s1, a1, g1, g2, g3⟩, hm0.2, by omega⟩
          by_cases e : c = k
          · subst e; rw [same i hi ha]; exact Int.le_refl _
          · have := h1 c i s a (by omega) hi ha hm hj hat2; omega
        · rename_i hp
          refine ⟨fun c i s a hck hi ha hm hj hat2 => ?_, h2, h3, h5⟩
          by_cases e : c = k
          · subst e
            rw [same i hi ha] at hm
            exact absurd (hpa.2 ⟨s, a, hm, hj, hat2⟩) hp
          · exact h1 c i s a (by omega) hi ha hm hj hat2

theorem last_model (ok : okNet n net = true) (hc : 0 ≤ ch ∧ ch ≤ 300) {to t : Int} (hne : f ≠ to) (hf : 0 ≤ f ∧ f < n) (hto : 0 ≤ to ∧ to < n) : IsLast net ch f to t (leTo n net f to t ch net.length) := by
  obtain ⟨h1, h2, _, _⟩ := leTo_inv ok hc hne hf hto (t := t) net.length (Nat.le_refl _)
  have key : ∀ s a, Jy net ch f s to a → a ≤ t → s ≤ leTo n net f to t ch net.length := fun s a hj ha => by
    obtain ⟨v', a', c, i, j, hcc, hij, hj2, q1, q2, _, _⟩ := hj.first
    have := h1 c i s a hcc (by omega) q1 (by omega) hj ha
    omega
  refine ⟨key, ?_⟩
  rcases h2 with e | ⟨s, a, g1, g2, g3⟩
  · exact .inl e
  · have := key s a g2 g3
    have : s = leTo n net f to t ch net.length := by omega
    subst this
    exact .inr ⟨a, g2, g3⟩

def leX (n : Int) (net : List (List Rd)) (f to t ch : Int) : Int := if okT7 n net f t ch = true ∧ isTown n to = true then (if f = to then t else leTo n net f to t ch net.length) else -1

/-- What the program gives. -/
theorem leX_back {to t : Int} (h : okT7 n net f t ch = true) (hto : isTown n to = true) : leX n net f to t ch = if 0 ≤ timeT (tab1 (bkN net) ch to (10000 - t)) f then 10000 - timeT (tab1 (bkN net) ch to (10000 - t)) f else -1 := by
  obtain ⟨o1, o2, o3, o4⟩ := okT7_iff.1 h
  have hto2 := isTown_iff.1 hto
  have hT := tab1_isTab (f := to) (t0 := 10000 - t) (bkN_ok o1) o2.1 (by omega) (net := bkN net) (n := n)
  unfold leX
  rw [if_pos ⟨h, hto⟩]
  by_cases hft : f = to
  · rw [if_pos hft]
    subst hft
    have e := hT.from_ (bkN_ok o1) o2.1 o3
    rw [e, if_pos (by omega)]; omega
  · rw [if_neg hft]
    exact IsLast.uniq o1 (last_model o1 o2 hft o3 hto2) (last_back o1 o2.1 hft o3 hT)

end

end Go.Proofs.Ytmkcnoaphoiiaaa
