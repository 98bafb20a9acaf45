/- Nets of timetables, pure: who can be where when; no program. -/
import Derived.Test.YtmkcnoaphoiiaaaSA
namespace Go.Proofs.Ytmkcnoaphoiiaaa

def okNet (n : Int) (net : List (List Rd)) : Bool := decide (1 ≤ n) && decide (n ≤ 8) && decide (net.length ≤ 6) && net.all (validS n)
def coach (net : List (List Rd)) (c : Nat) : List Rd := net.getD c []
def stp (net : List (List Rd)) (c i : Nat) : Rd := (coach net c).getD i rd0

theorem coach_eq {net : List (List Rd)} {c : Nat} (h : c < net.length) : coach net c = net[c] := by simp [coach, List.getD, h]

theorem okNet_iff {n : Int} {net : List (List Rd)} : okNet n net = true ↔ (1 ≤ n ∧ n ≤ 8 ∧ net.length ≤ 6) ∧ ∀ c, c < net.length → validS n (coach net c) = true := by
  simp only [okNet, Bool.and_eq_true, decide_eq_true_eq, List.all_eq_true, and_assoc]
  constructor
  · rintro ⟨h1, h2, h3, h4⟩
    exact ⟨h1, h2, h3, fun c hc => by rw [coach_eq hc]; exact h4 _ (List.getElem_mem hc)⟩
  · rintro ⟨h1, h2, h3, h4⟩
    refine ⟨h1, h2, h3, fun l hl => ?_⟩
    obtain ⟨c, hc, rfl⟩ := List.getElem_of_mem hl
    rw [← coach_eq hc]; exact h4 c hc

/-- The net of the first k coaches is one. -/
def okTo7 (n : Int) (net : List (List Rd)) (k : Nat) : Bool := (net.take k).all (validS n)
theorem okTo7_zero (n : Int) (net : List (List Rd)) : okTo7 n net 0 = true := rfl
theorem okTo7_succ {n : Int} {net : List (List Rd)} {k : Nat} (h : k < net.length) : okTo7 n net (k + 1) = (okTo7 n net k && validS n (coach net k)) := by
  unfold okTo7
  rw [List.take_succ_eq_append_getElem h, coach_eq h]
  simp only [List.all_append, List.all_cons, List.all_nil, Bool.and_true]
theorem okTo7_all (n : Int) (net : List (List Rd)) : okTo7 n net net.length = net.all (validS n) := by unfold okTo7; rw [List.take_length]
theorem okNet_no {n : Int} {net : List (List Rd)} {c : Nat} (hc : c < net.length) (h : validS n (coach net c) = false) : okNet n net = false := by
  rw [Bool.eq_false_iff]; intro h'
  rw [(okNet_iff.1 h').2 c hc] at h; cases h
theorem okNet_small {n : Int} {net : List (List Rd)} (h : ¬ (1 ≤ n ∧ n ≤ 8 ∧ net.length ≤ 6)) : okNet n net = false := by
  rw [Bool.eq_false_iff]; intro h'
  exact h (okNet_iff.1 h').1
theorem okNet_yes {n : Int} {net : List (List Rd)} (h : 1 ≤ n ∧ n ≤ 8 ∧ net.length ≤ 6) (h' : okTo7 n net net.length = true) : okNet n net = true := by
  rw [okTo7_all] at h'
  simp [okNet, h, h']

/-- Some coach leaves town u at s and is in town v at a. -/
def Hop (net : List (List Rd)) (u s v a : Int) : Prop :=
  ∃ c i j, c < net.length ∧ i < j ∧ j < (coach net c).length ∧ (stp net c i).a = u ∧ (stp net c i).m = s ∧ (stp net c j).a = v ∧ (stp net c j).b = a

theorem Hop.fwd {n : Int} {net : List (List Rd)} (ok : okNet n net = true) {u s v a : Int} (h : Hop net u s v a) : s < a ∧ 0 ≤ s ∧ a ≤ 10000 ∧ 0 ≤ u ∧ u < n ∧ 0 ≤ v ∧ v < n ∧ u ≠ v := by
  obtain ⟨c, i, j, hc, hij, hj, rfl, rfl, rfl, rfl⟩ := h
  have hz := (okNet_iff.1 ok).2 c hc
  have h1 := validS_lt hz hij hj
  have h2 := validS_at hz (show i < (coach net c).length by omega)
  have h3 := validS_at hz hj
  have h4 := (fitsS_iff _ _).1 ((okS_iff _ _ _).1 ((validS_iff.1 hz).2 i (by omega))).1
  have h5 := (fitsS_iff _ _).1 ((okS_iff _ _ _).1 ((validS_iff.1 hz).2 j hj)).1
  have h6 := validS_ne hz hij hj
  unfold stp
  exact ⟨h1, by omega, by omega, h4.1, h4.2.1, h5.1, h5.2.1, h6⟩

/-- The change in a town, for a letter that began in f. -/
def dl (ch f u : Int) : Int := if u = f then 0 else ch

/-- A letter that begins in f at t0 can be in a town at a time, with k rides. -/
inductive Rn (net : List (List Rd)) (ch f t0 : Int) : Nat → Int → Int → Prop where
  | base : Rn net ch f t0 0 f t0
  | ride {k : Nat} {u t s v a : Int} : Rn net ch f t0 k u t → Hop net u s v a → t + dl ch f u ≤ s → Rn net ch f t0 (k + 1) v a

def Rch (net : List (List Rd)) (ch f t0 u t : Int) : Prop := ∃ k, Rn net ch f t0 k u t

section
variable {n : Int} {net : List (List Rd)} {ch f t0 : Int}

theorem Rch.base : Rch net ch f t0 f t0 := ⟨0, .base⟩
theorem Rch.ride {u t s v a : Int} (h : Rch net ch f t0 u t) (hh : Hop net u s v a) (hs : t + dl ch f u ≤ s) : Rch net ch f t0 v a := by
  obtain ⟨k, h⟩ := h; exact ⟨k + 1, .ride h hh hs⟩

theorem dl_nn (hc : 0 ≤ ch) (u : Int) : 0 ≤ dl ch f u := by unfold dl; split <;> omega
theorem dl_le (hc : 0 ≤ ch) (u : Int) : dl ch f u ≤ ch := by unfold dl; split <;> omega

theorem Rn.ge (ok : okNet n net = true) (hc : 0 ≤ ch) {k : Nat} {u t : Int} (h : Rn net ch f t0 k u t) : t0 ≤ t := by
  induction h with
  | base => omega
  | ride _ hh hs ih => have := (hh.fwd ok).1; have := dl_nn (f := f) hc; rename_i u _ _ _ _ _ _; have := this u; omega

theorem Rn.gt (ok : okNet n net = true) (hc : 0 ≤ ch) {k : Nat} {u t : Int} (h : Rn net ch f t0 k u t) (hk : 0 < k) : t0 < t := by
  cases h with
  | base => omega
  | ride h hh hs => have := (hh.fwd ok).1; have := h.ge ok hc; rename_i u _ _ _; have := dl_nn (f := f) hc u; omega

theorem Rn.town (ok : okNet n net = true) (hf : 0 ≤ f ∧ f < n) {k : Nat} {u t : Int} (h : Rn net ch f t0 k u t) : 0 ≤ u ∧ u < n := by
  cases h with
  | base => exact hf
  | ride h hh hs => have := hh.fwd ok; omega

theorem Rn.time (ok : okNet n net = true) (ht : 0 ≤ t0 ∧ t0 ≤ 10000) {k : Nat} {u t : Int} (h : Rn net ch f t0 k u t) : 0 ≤ t ∧ t ≤ 10000 := by
  cases h with
  | base => exact ht
  | ride h hh hs => have := hh.fwd ok; omega

/-- The towns of a way, the last one first, none of them twice. -/
inductive Pth (net : List (List Rd)) (ch f t0 : Int) : List Int → Int → Prop where
  | base : Pth net ch f t0 [f] t0
  | ride {u : Int} {us : List Int} {t s v a : Int} : Pth net ch f t0 (u :: us) t → Hop net u s v a → t + dl ch f u ≤ s → v ∉ u :: us → Pth net ch f t0 (v :: u :: us) a

theorem Pth.nodup {us : List Int} {t : Int} (h : Pth net ch f t0 us t) : us.Nodup := by
  induction h with
  | base => simp
  | ride _ _ _ hv ih => exact List.nodup_cons.2 ⟨hv, ih⟩

theorem Pth.inside (ok : okNet n net = true) (hf : 0 ≤ f ∧ f < n) {us : List Int} {t : Int} (h : Pth net ch f t0 us t) : ∀ u ∈ us, 0 ≤ u ∧ u < n := by
  induction h with
  | base => intro u hu; simp at hu; subst hu; exact hf
  | ride _ hh _ _ ih =>
    intro u hu
    rcases List.mem_cons.1 hu with rfl | hu
    · have := hh.fwd ok; omega
    · exact ih u hu

theorem Pth.rn {us : List Int} {t : Int} (h : Pth net ch f t0 us t) : ∃ u r, us = u :: r ∧ Rn net ch f t0 r.length u t := by
  induction h with
  | base => exact ⟨f, [], rfl, .base⟩
  | ride _ hh hs _ ih =>
    obtain ⟨u, r, e, h⟩ := ih
    injection e with e1 e2
    subst e1 e2
    exact ⟨_, _, rfl, .ride h hh hs⟩

theorem Pth.pre (ok : okNet n net = true) (hc : 0 ≤ ch) {us : List Int} {t : Int} (h : Pth net ch f t0 us t) : ∀ v ∈ us, ∃ ws t', Pth net ch f t0 (v :: ws) t' ∧ t' ≤ t := by
  induction h with
  | base => intro v hv; simp at hv; subst hv; exact ⟨[], t0, .base, by omega⟩
  | ride h hh hs hn ih =>
    rename_i u us t s w a
    intro v hv
    rcases List.mem_cons.1 hv with rfl | hv
    · exact ⟨_, _, .ride h hh hs hn, by omega⟩
    · obtain ⟨ws, t', h', hle⟩ := ih v hv
      have := (hh.fwd ok).1
      have := dl_nn (f := f) hc u
      exact ⟨ws, t', h', by omega⟩

theorem Rn.pth (ok : okNet n net = true) (hc : 0 ≤ ch) {k : Nat} {u t : Int} (h : Rn net ch f t0 k u t) : ∃ ws t', Pth net ch f t0 (u :: ws) t' ∧ t' ≤ t := by
  induction h with
  | base => exact ⟨[], t0, .base, by omega⟩
  | ride h hh hs ih =>
    rename_i k u t s v a
    obtain ⟨ws, t', h', hle⟩ := ih
    by_cases hv : v ∈ u :: ws
    · obtain ⟨ws2, t2, h2, hle2⟩ := h'.pre ok hc v hv
      have := (hh.fwd ok).1
      have := dl_nn (f := f) hc u
      exact ⟨ws2, t2, h2, by omega⟩
    · exact ⟨_, _, .ride h' hh (by omega) hv, by omega⟩

theorem nodup_le {α : Type} : ∀ {l l' : List α}, l.Nodup → (∀ a, a ∈ l → a ∈ l') → l.length ≤ l'.length
  | [], _, _, _ => Nat.zero_le _
  | x :: r, l', hn, hm => by
    obtain ⟨h1, h2⟩ := List.nodup_cons.1 hn
    obtain ⟨s, t, rfl⟩ := List.append_of_mem (hm x (List.mem_cons_self ..))
    have := nodup_le (l := r) (l' := s ++ t) h2 (fun b hb => by
      have hb' := hm b (List.mem_cons_of_mem _ hb)
      simp only [List.mem_append, List.mem_cons] at hb' ⊢
      rcases hb' with h | rfl | h
      · exact .inl h
      · exact absurd hb h1
      · exact .inr h)
    simp only [List.length_append, List.length_cons] at this ⊢
    omega

/-- A letter can be there as early with fewer rides than towns. -/
theorem Rch.few (ok : okNet n net = true) (hc : 0 ≤ ch) (hf : 0 ≤ f ∧ f < n) {u t : Int} (h : Rch net ch f t0 u t) : ∃ k t', Rn net ch f t0 k u t' ∧ t' ≤ t ∧ (k : Int) < n := by
  obtain ⟨k, h⟩ := h
  obtain ⟨ws, t', h', hle⟩ := h.pth ok hc
  have h1 := h'.nodup
  have h2 := h'.inside ok hf
  have h3 := nodup_le (l' := (List.range n.toNat).map fun (i : Nat) => (i : Int)) h1 (fun a ha => by
    have := h2 a ha
    exact List.mem_map.2 ⟨a.toNat, List.mem_range.2 (by omega), by omega⟩)
  simp only [List.length_map, List.length_range, List.length_cons] at h3
  obtain ⟨u', r, e, hr⟩ := h'.rn
  injection e with e1 e2
  subst e1 e2
  exact ⟨_, _, hr, hle, by omega⟩

/-- The table of earliest times. -/
def IsTab (net : List (List Rd)) (ch f t0 n : Int) (T : Int → Int) : Prop :=
  (∀ u t, Rch net ch f t0 u t → 0 ≤ T u ∧ T u ≤ t) ∧ (∀ u, 0 ≤ u → u < n → T u = -1 ∨ Rch net ch f t0 u (T u))

theorem IsTab.uniq {T T' : Int → Int} (h : IsTab net ch f t0 n T) (h' : IsTab net ch f t0 n T') {u : Int} (h0 : 0 ≤ u) (hn : u < n) : T u = T' u := by
  rcases h.2 u h0 hn with e | e <;> rcases h'.2 u h0 hn with e' | e'
  · omega
  · have := (h.1 _ _ e').1; omega
  · have := (h'.1 _ _ e).1; omega
  · have := (h.1 _ _ e').2; have := (h'.1 _ _ e).2; omega

theorem IsTab.from_ (ok : okNet n net = true) (hc : 0 ≤ ch) (hf : 0 ≤ f ∧ f < n) {T : Int → Int} (h : IsTab net ch f t0 n T) : T f = t0 := by
  have h1 := h.1 _ _ Rch.base
  rcases h.2 f hf.1 hf.2 with e | ⟨k, e⟩
  · omega
  · have := e.ge ok hc; omega

end

end Go.Proofs.Ytmkcnoaphoiiaaa
