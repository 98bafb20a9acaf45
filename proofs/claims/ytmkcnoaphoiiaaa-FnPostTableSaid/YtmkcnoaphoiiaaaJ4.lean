/- Nets, pure: the model's tables, round by round. -/
import Derived.Test.YtmkcnoaphoiiaaaJ3
namespace Go.Proofs.Ytmkcnoaphoiiaaa

/-- What a list of times says of a town. -/
def fT (T : List Int) (u : Int) : Int := if 0 ≤ u then T.getD u.toNat (-1) else -1
theorem fT_at (T : List Int) (i : Nat) : fT T (i : Int) = T.getD i (-1) := by unfold fT; simp
theorem fT_set {T : List Int} {a x u : Int} (ha : 0 ≤ a) (hl : a < T.length) (hu : 0 ≤ u) : fT (T.set a.toNat x) u = if u = a then x else fT T u := by
  unfold fT
  rw [if_pos hu, if_pos hu]
  by_cases h : u = a
  · subst h
    rw [if_pos rfl]
    have : u.toNat < T.length := by omega
    simp [List.getD, this]
  · rw [if_neg h]
    have : a.toNat ≠ u.toNat := by omega
    simp [List.getD, this]

def rdyX (T : List Int) (ch f : Int) (s : Rd) : Bool := decide (0 ≤ fT T s.a) && decide (fT T s.a + dl ch f s.a ≤ s.m)
theorem rdyX_iff {T : List Int} {ch f : Int} {s : Rd} : rdyX T ch f s = true ↔ 0 ≤ fT T s.a ∧ fT T s.a + dl ch f s.a ≤ s.m := by simp [rdyX]

def upX (T : List Int) (s : Rd) : List Int := if fT T s.a < 0 ∨ s.b < fT T s.a then T.set s.a.toNat s.b else T
/-- One stop: who is aboard gets out; who is there in time gets in (rt: by which table). -/
def stG (rt : List Int → List Int) (ch f : Int) (p : List Int × Bool) (s : Rd) : List Int × Bool :=
  let T := if p.2 = true then upX p.1 s else p.1
  (T, p.2 || rdyX (rt T) ch f s)
def cchG (rt : List Int → List Int) (ch f : Int) (T : List Int) (l : List Rd) : List Int := (l.foldl (stG rt ch f) (T, false)).1
def rndG (rt : List Int → List Int) (ch f : Int) (net : List (List Rd)) (T : List Int) : List Int := net.foldl (cchG rt ch f) T

def rndA (ch f : Int) (net : List (List Rd)) (T : List Int) : List Int := rndG id ch f net T
def rndB (ch f : Int) (net : List (List Rd)) (T : List Int) : List Int := rndG (fun _ => T) ch f net T
def iniX (n : Nat) (f t0 : Int) : List Int := (List.replicate n (-1)).set f.toNat t0
def itA (ch f : Int) (net : List (List Rd)) (T : List Int) : Nat → List Int
  | 0 => T
  | k + 1 => rndA ch f net (itA ch f net T k)
def itB (ch f : Int) (net : List (List Rd)) (T : List Int) : Nat → List Int
  | 0 => T
  | k + 1 => rndB ch f net (itB ch f net T k)
def tabA (n : Int) (net : List (List Rd)) (ch f t0 : Int) : List Int := itA ch f net (iniX n.toNat f t0) (n.toNat + 1)
def tabB (n : Int) (net : List (List Rd)) (ch f t0 : Int) (k : Nat) : List Int := itB ch f net (iniX n.toNat f t0) k

theorem foldl_take {α β : Type} (g : β → α → β) (x : β) (l : List α) (k : Nat) (d : α) (h : k < l.length) : (l.take (k + 1)).foldl g x = g ((l.take k).foldl g x) (l.getD k d) := by
  rw [List.take_succ_eq_append_getElem h, List.foldl_append]
  simp [List.getD, h]

def LeI (T T' : List Int) : Prop := ∀ u : Int, 0 ≤ u → 0 ≤ fT T' u → 0 ≤ fT T u ∧ fT T u ≤ fT T' u
theorem LeI.refl (T : List Int) : LeI T T := fun _ _ h => ⟨h, Int.le_refl _⟩
theorem LeI.trans {A B C : List Int} (h : LeI A B) (h' : LeI B C) : LeI A C := fun u hu e => by
  obtain ⟨h1, h2⟩ := h' u hu e
  obtain ⟨h3, h4⟩ := h u hu h1
  exact ⟨h3, by omega⟩
theorem LeI.rdy {A B : List Int} (h : LeI A B) {ch f : Int} {s : Rd} (hs : 0 ≤ s.a) (hr : rdyX B ch f s = true) : rdyX A ch f s = true := by
  obtain ⟨h1, h2⟩ := rdyX_iff.1 hr
  obtain ⟨h3, h4⟩ := h _ hs h1
  exact rdyX_iff.2 ⟨h3, by omega⟩

def Ent (P : Int → Int → Prop) (T : List Int) : Prop := ∀ u : Int, 0 ≤ u → u < T.length → fT T u = -1 ∨ (0 ≤ fT T u ∧ P u (fT T u))

section
variable {n : Int} {net : List (List Rd)} {ch f t0 : Int} {rt : List Int → List Int} {P Q : Int → Int → Prop}

theorem upX_len (T : List Int) (s : Rd) : (upX T s).length = T.length := by unfold upX; split <;> simp
theorem upX_le {T : List Int} {s : Rd} (ha : 0 ≤ s.a) (hl : s.a < T.length) (hb : 0 ≤ s.b) : LeI (upX T s) T ∧ 0 ≤ fT (upX T s) s.a ∧ fT (upX T s) s.a ≤ s.b := by
  unfold upX
  split
  · rename_i h
    refine ⟨fun u hu e => ?_, ?_⟩
    · rw [fT_set ha hl hu]
      split
      · rename_i he; subst he; omega
      · exact ⟨e, Int.le_refl _⟩
    · rw [fT_set ha hl ha, if_pos rfl]; exact ⟨hb, Int.le_refl _⟩
  · rename_i h
    exact ⟨LeI.refl _, by omega, by omega⟩
theorem upX_ent {T : List Int} {s : Rd} (ha : 0 ≤ s.a) (hl : s.a < T.length) (hb : 0 ≤ s.b) (h : Ent P T) (hp : P s.a s.b) : Ent P (upX T s) := by
  intro u hu hlt
  rw [upX_len] at hlt
  unfold upX
  split
  · rw [fT_set ha hl hu]
    split
    · rename_i he; subst he; exact .inr ⟨hb, hp⟩
    · exact h u hu hlt
  · exact h u hu hlt

theorem coach_inv {l : List Rd} (hz : validS n l = true) {T X : List Int} (hn : (T.length : Int) = n)
    (hX : ∀ T', LeI T' T → LeI (rt T') X) (hQ : ∀ T', T'.length = T.length → LeI T' T → Ent P T' → Ent Q (rt T') ∧ (rt T').length = T.length)
    (hPQ : ∀ i j t, i < j → j < l.length → Q (l.getD i rd0).a t → t + dl ch f (l.getD i rd0).a ≤ (l.getD i rd0).m → P (l.getD j rd0).a (l.getD j rd0).b)
    (hT : Ent P T) : ∀ k, k ≤ l.length →
    ((l.take k).foldl (stG rt ch f) (T, false)).1.length = T.length ∧ LeI ((l.take k).foldl (stG rt ch f) (T, false)).1 T ∧ Ent P ((l.take k).foldl (stG rt ch f) (T, false)).1 ∧
    (((l.take k).foldl (stG rt ch f) (T, false)).2 = true → ∃ i t, i < k ∧ Q (l.getD i rd0).a t ∧ t + dl ch f (l.getD i rd0).a ≤ (l.getD i rd0).m) ∧
    (∀ i, i < k → rdyX X ch f (l.getD i rd0) = true → ((l.take k).foldl (stG rt ch f) (T, false)).2 = true) ∧
    (∀ i j, i < j → j < k → rdyX X ch f (l.getD i rd0) = true → 0 ≤ fT ((l.take k).foldl (stG rt ch f) (T, false)).1 (l.getD j rd0).a ∧ fT ((l.take k).foldl (stG rt ch f) (T, false)).1 (l.getD j rd0).a ≤ (l.getD j rd0).b)
  | 0, _ => by
    simp only [List.take_zero, List.foldl_nil]
    exact ⟨by trivial, LeI.refl _, hT, fun h => (by cases h), fun i hi => by omega, fun i j _ hj => by omega⟩
  | k + 1, hk => by
    obtain ⟨h1, h2, h3, h4, h5, h6⟩ := coach_inv hz hn hX hQ hPQ hT k (by omega)
    rw [foldl_take _ _ _ _ rd0 (by omega)]
    generalize (l.take k).foldl (stG rt ch f) (T, false) = p at *
    obtain ⟨T1, on⟩ := p
    simp only at h1 h2 h3 h4 h5 h6
    have hs := validS_at hz (show k < l.length by omega)
    have hs2 := (fitsS_iff _ _).1 ((okS_iff _ _ _).1 ((validS_iff.1 hz).2 k (by omega))).1
    generalize hr : l.getD k rd0 = s at *
    have ha : s.a < T1.length := by omega
    have e1 : (stG rt ch f (T1, on) s).1 = if on = true then upX T1 s else T1 := rfl
    have e2 : (stG rt ch f (T1, on) s).2 = (on || rdyX (rt (if on = true then upX T1 s else T1)) ch f s) := rfl
    rw [e1, e2]
    have hl : (if on = true then upX T1 s else T1).length = T.length := by split; rw [upX_len]; exact h1; exact h1
    have hle : LeI (if on = true then upX T1 s else T1) T1 := by
      split
      · exact (upX_le hs.1 ha hs.2.2.1).1
      · exact LeI.refl _
    have hen : Ent P (if on = true then upX T1 s else T1) := by
      split
      · rename_i ho
        obtain ⟨i, t, hi, hq, hd⟩ := h4 ho
        have := hPQ i k t hi (by omega) hq hd
        rw [hr] at this
        exact upX_ent hs.1 ha hs.2.2.1 h3 this
      · exact h3
    have hup : on = true → 0 ≤ fT (if on = true then upX T1 s else T1) s.a ∧ fT (if on = true then upX T1 s else T1) s.a ≤ s.b := fun ho => by
      rw [if_pos ho]; exact (upX_le hs.1 ha hs.2.2.1).2
    generalize (if on = true then upX T1 s else T1) = T2 at *
    have hle2 := hle.trans h2
    obtain ⟨hq1, hq2⟩ := hQ T2 hl hle2 hen
    refine ⟨hl, hle2, hen, fun ho => ?_, fun i hi hrd => ?_, fun i j hij hj hrd => ?_⟩
    · rcases Bool.or_eq_true _ _ ▸ ho with ho | ho
      · obtain ⟨i, t, hi, hq⟩ := h4 ho
        exact ⟨i, t, by omega, hq⟩
      · obtain ⟨g1, g2⟩ := rdyX_iff.1 ho
        refine ⟨k, fT (rt T2) s.a, by omega, ?_⟩
        rw [hr]
        rcases hq1 s.a hs.1 (by omega) with e | e
        · omega
        · exact ⟨e.2, g2⟩
    · by_cases hik : i = k
      · subst hik
        rw [hr] at hrd
        rw [(hX T2 hle2).rdy hs.1 hrd, Bool.or_true]
      · rw [h5 i (by omega) hrd, Bool.true_or]
    · by_cases hjk : j = k
      · subst hjk
        rw [hr]
        exact hup (h5 i (by omega) hrd)
      · obtain ⟨g1, g2⟩ := h6 i j hij (by omega) hrd
        have hj2 := validS_at hz (show j < l.length by omega)
        obtain ⟨g3, g4⟩ := hle _ hj2.1 g1
        exact ⟨g3, by omega⟩

theorem round_inv (ok : okNet n net = true) {T X : List Int} (hn : (T.length : Int) = n)
    (hX : ∀ T', LeI T' T → LeI (rt T') X) (hQ : ∀ T', T'.length = T.length → LeI T' T → Ent P T' → Ent Q (rt T') ∧ (rt T').length = T.length)
    (hPQ : ∀ u s v a t, Hop net u s v a → Q u t → t + dl ch f u ≤ s → P v a)
    (hT : Ent P T) : ∀ k, k ≤ net.length →
    ((net.take k).foldl (cchG rt ch f) T).length = T.length ∧ LeI ((net.take k).foldl (cchG rt ch f) T) T ∧ Ent P ((net.take k).foldl (cchG rt ch f) T) ∧
    ∀ c i j, c < k → i < j → j < (coach net c).length → rdyX X ch f (stp net c i) = true → 0 ≤ fT ((net.take k).foldl (cchG rt ch f) T) (stp net c j).a ∧ fT ((net.take k).foldl (cchG rt ch f) T) (stp net c j).a ≤ (stp net c j).b
  | 0, _ => by
    simp only [List.take_zero, List.foldl_nil]
    exact ⟨by trivial, LeI.refl _, hT, fun c _ _ hc => by omega⟩
  | k + 1, hk => by
    obtain ⟨h1, h2, h3, h4⟩ := round_inv ok hn hX hQ hPQ hT k (by omega)
    rw [foldl_take _ _ _ _ [] (by omega)]
    generalize (net.take k).foldl (cchG rt ch f) T = T1 at *
    have hz := (okNet_iff.1 ok).2 k (by omega)
    obtain ⟨g1, g2, g3, _, _, g6⟩ := coach_inv (rt := rt) (X := X) (ch := ch) (f := f) hz (T := T1) (by omega) (fun T' h => hX T' (h.trans h2))
      (fun T' hl h he => by rw [h1]; exact hQ T' (by omega) (h.trans h2) he)
      (fun i j t hij hj hq hd => hPQ _ _ _ _ t ⟨k, i, j, by omega, hij, hj, rfl, rfl, rfl, rfl⟩ hq hd) h3 (coach net k).length (Nat.le_refl _)
    rw [List.take_length] at g1 g2 g3 g6
    have e : net.getD k [] = coach net k := rfl
    rw [e]
    unfold cchG
    refine ⟨by omega, g2.trans h2, g3, fun c i j hc hij hj hrd => ?_⟩
    by_cases hck : c = k
    · subst hck; exact g6 i j hij hj hrd
    · obtain ⟨a1, a2⟩ := h4 c i j (by omega) hij hj hrd
      have hj2 := validS_at ((okNet_iff.1 ok).2 c (by omega)) hj
      obtain ⟨a3, a4⟩ := g2 _ hj2.1 a1
      exact ⟨a3, by unfold stp at a2 ⊢; omega⟩

theorem round_all (ok : okNet n net = true) {T X : List Int} (hn : (T.length : Int) = n)
    (hX : ∀ T', LeI T' T → LeI (rt T') X) (hQ : ∀ T', T'.length = T.length → LeI T' T → Ent P T' → Ent Q (rt T') ∧ (rt T').length = T.length)
    (hPQ : ∀ u s v a t, Hop net u s v a → Q u t → t + dl ch f u ≤ s → P v a) (hT : Ent P T) :
    (rndG rt ch f net T).length = T.length ∧ LeI (rndG rt ch f net T) T ∧ Ent P (rndG rt ch f net T) ∧
    ∀ u s v a, Hop net u s v a → 0 ≤ fT X u → fT X u + dl ch f u ≤ s → 0 ≤ fT (rndG rt ch f net T) v ∧ fT (rndG rt ch f net T) v ≤ a := by
  have h := round_inv ok hn hX hQ hPQ hT net.length (Nat.le_refl _)
  rw [List.take_length] at h
  obtain ⟨h1, h2, h3, h4⟩ := h
  refine ⟨h1, h2, h3, ?_⟩
  rintro u s v a ⟨c, i, j, hc, hij, hj, rfl, rfl, rfl, rfl⟩ hu hd
  exact h4 c i j hc hij hj (rdyX_iff.2 ⟨hu, hd⟩)

theorem ini_at (hf : 0 ≤ f ∧ f < n) {u : Int} (hu : 0 ≤ u) : fT (iniX n.toNat f t0) u = if u = f then t0 else -1 := by
  unfold iniX
  rw [fT_set hf.1 (by simp; omega) hu]
  split
  · rfl
  · unfold fT
    rw [if_pos hu]
    by_cases h : u.toNat < n.toNat
    · simp [List.getD, h]
    · simp [List.getD, h]
theorem ini_len : (iniX n.toNat f t0).length = n.toNat := by simp [iniX]

theorem itA_inv (ok : okNet n net = true) (hf : 0 ≤ f ∧ f < n) (ht : 0 ≤ t0 ∧ t0 ≤ 10000) : ∀ k, ((itA ch f net (iniX n.toNat f t0) k).length : Int) = n ∧ Ent (Rch net ch f t0) (itA ch f net (iniX n.toNat f t0) k) ∧
    ∀ k' u t, k' ≤ k → Rn net ch f t0 k' u t → 0 ≤ fT (itA ch f net (iniX n.toNat f t0) k) u ∧ fT (itA ch f net (iniX n.toNat f t0) k) u ≤ t
  | 0 => by
    refine ⟨by simp only [itA, ini_len]; omega, fun u hu hl => ?_, fun k' u t hk h => ?_⟩
    · show fT (iniX n.toNat f t0) u = -1 ∨ _
      rw [show itA ch f net (iniX n.toNat f t0) 0 = iniX n.toNat f t0 from rfl, ini_at hf hu]
      split
      · rename_i e; subst e; exact .inr ⟨ht.1, .base⟩
      · exact .inl rfl
    · obtain rfl : k' = 0 := by omega
      cases h
      rw [show itA ch f net (iniX n.toNat f t0) 0 = iniX n.toNat f t0 from rfl, ini_at hf hf.1, if_pos rfl]
      exact ⟨ht.1, Int.le_refl _⟩
  | k + 1 => by
    obtain ⟨h1, h2, h3⟩ := itA_inv ok hf ht k
    show ((rndA ch f net _).length : Int) = n ∧ _
    rw [show itA ch f net (iniX n.toNat f t0) (k + 1) = rndA ch f net (itA ch f net (iniX n.toNat f t0) k) from rfl]
    generalize itA ch f net (iniX n.toNat f t0) k = T at *
    obtain ⟨g1, g2, g3, g4⟩ := round_all (rt := id) (X := T) (P := Rch net ch f t0) (Q := Rch net ch f t0) (ch := ch) (f := f) ok h1 (fun T' h => h) (fun T' hl _ he => ⟨he, hl⟩) (fun u s v a t hh hq hd => hq.ride hh hd) h2
    have e : rndA ch f net T = rndG id ch f net T := rfl
    rw [e]
    refine ⟨by omega, g3, fun k' u t hk h => ?_⟩
    cases h with
    | base =>
      obtain ⟨a1, a2⟩ := h3 0 f t0 (Nat.zero_le _) .base
      obtain ⟨a3, a4⟩ := g2 f hf.1 a1
      exact ⟨a3, by omega⟩
    | ride h hh hs =>
      obtain ⟨a1, a2⟩ := h3 _ _ _ (by omega) h
      exact g4 _ _ _ _ hh a1 (by omega)

theorem tabA_len (ok : okNet n net = true) (hf : 0 ≤ f ∧ f < n) (ht : 0 ≤ t0 ∧ t0 ≤ 10000) : ((tabA n net ch f t0).length : Int) = n := (itA_inv ok hf ht (n.toNat + 1)).1

theorem tabA_isTab (ok : okNet n net = true) (hc : 0 ≤ ch) (hf : 0 ≤ f ∧ f < n) (ht : 0 ≤ t0 ∧ t0 ≤ 10000) : IsTab net ch f t0 n (fT (tabA n net ch f t0)) := by
  obtain ⟨h1, h2, h3⟩ := itA_inv (ch := ch) ok hf ht (n.toNat + 1)
  refine ⟨fun u t h => ?_, fun u hu hn => ?_⟩
  · obtain ⟨k, t', h', hle, hk⟩ := h.few ok hc hf
    obtain ⟨a1, a2⟩ := h3 k u t' (by omega) h'
    exact ⟨a1, by unfold tabA; omega⟩
  · rcases h2 u hu (by omega) with e | e
    · exact .inl e
    · exact .inr e.2

theorem itB_inv (ok : okNet n net = true) (hf : 0 ≤ f ∧ f < n) (ht : 0 ≤ t0 ∧ t0 ≤ 10000) : ∀ k, ((itB ch f net (iniX n.toNat f t0) k).length : Int) = n ∧ Ent (fun u t => ∃ k', k' ≤ k ∧ Rn net ch f t0 k' u t) (itB ch f net (iniX n.toNat f t0) k) ∧
    ∀ k' u t, k' ≤ k → Rn net ch f t0 k' u t → 0 ≤ fT (itB ch f net (iniX n.toNat f t0) k) u ∧ fT (itB ch f net (iniX n.toNat f t0) k) u ≤ t
  | 0 => by
    refine ⟨by simp only [itB, ini_len]; omega, fun u hu hl => ?_, fun k' u t hk h => ?_⟩
    · rw [show itB ch f net (iniX n.toNat f t0) 0 = iniX n.toNat f t0 from rfl, ini_at hf hu]
      split
      · rename_i e; subst e; exact .inr ⟨ht.1, 0, Nat.le_refl _, .base⟩
      · exact .inl rfl
    · obtain rfl : k' = 0 := by omega
      cases h
      rw [show itB ch f net (iniX n.toNat f t0) 0 = iniX n.toNat f t0 from rfl, ini_at hf hf.1, if_pos rfl]
      exact ⟨ht.1, Int.le_refl _⟩
  | k + 1 => by
    obtain ⟨h1, h2, h3⟩ := itB_inv ok hf ht k
    rw [show itB ch f net (iniX n.toNat f t0) (k + 1) = rndB ch f net (itB ch f net (iniX n.toNat f t0) k) from rfl]
    generalize itB ch f net (iniX n.toNat f t0) k = T at *
    obtain ⟨g1, g2, g3, g4⟩ := round_all (rt := fun _ => T) (X := T) (P := fun u t => ∃ k', k' ≤ k + 1 ∧ Rn net ch f t0 k' u t) (Q := fun u t => ∃ k', k' ≤ k ∧ Rn net ch f t0 k' u t) (ch := ch) (f := f) ok h1 (fun T' h => LeI.refl _) (fun T' hl _ he => ⟨h2, rfl⟩)
      (fun u s v a t hh ⟨k', hk', hq⟩ hd => ⟨k' + 1, by omega, .ride hq hh hd⟩)
      (fun u hu hl => by
        rcases h2 u hu hl with e | ⟨e, k', hk', hr⟩
        · exact .inl e
        · exact .inr ⟨e, k', by omega, hr⟩)
    have e : rndB ch f net T = rndG (fun _ => T) ch f net T := rfl
    rw [e]
    refine ⟨by omega, g3, fun k' u t hk h => ?_⟩
    cases h with
    | base =>
      obtain ⟨a1, a2⟩ := h3 0 f t0 (Nat.zero_le _) .base
      obtain ⟨a3, a4⟩ := g2 f hf.1 a1
      exact ⟨a3, by omega⟩
    | ride h hh hs =>
      obtain ⟨a1, a2⟩ := h3 _ _ _ (by omega) h
      exact g4 _ _ _ _ hh a1 (by omega)

theorem tabB_few (ok : okNet n net = true) (hf : 0 ≤ f ∧ f < n) (ht : 0 ≤ t0 ∧ t0 ≤ 10000) {u : Int} (hu : 0 ≤ u ∧ u < n) {k : Nat} (h : FewIs net ch f t0 u k) :
    0 ≤ fT (tabB n net ch f t0 k) u ∧ ∀ k', k' < k → fT (tabB n net ch f t0 k') u < 0 := by
  obtain ⟨⟨t, h1⟩, h2⟩ := h
  refine ⟨((itB_inv ok hf ht k).2.2 k u t (Nat.le_refl _) h1).1, fun k' hk' => ?_⟩
  obtain ⟨g1, g2, _⟩ := itB_inv (ch := ch) ok hf ht k'
  rcases g2 u hu.1 (by omega) with e | ⟨_, k2, hk2, hr⟩
  · unfold tabB; omega
  · exact absurd hr (h2 k2 _ (by omega))

end

end Go.Proofs.Ytmkcnoaphoiiaaa
