/- Least sums, plans, best payments; no program. -/
import Derived.Test.YthhllpnbmelidaaGE
namespace Go.Proofs.Ythhllpnbmelidaa
set_option linter.unusedVariables false
set_option linter.unusedSimpArgs false

/-! ### least sums -/
/-- The least sum at the gates of a list, if tickets free until R. -/
def lF (free : Int) : List Gt → (Int → Int) → Int
  | [], _ => 0
  | g :: s, R => if g.a ≤ R g.b then min (g.m + lF free s (upT8 R g.b (g.a + free))) (lF free s R) else g.m + lF free s (upT8 R g.b (g.a + free))
/-- The same at gates of one trust. -/
def lG (free : Int) : List Gt → Int → Int
  | [], _ => 0
  | g :: s, r => if g.a ≤ r then min (g.m + lG free s (g.a + free)) (lG free s r) else g.m + lG free s (g.a + free)
/-- The least sum from a gate on that is paid. -/
def lV (free : Int) : List Gt → Int
  | [] => 0
  | g :: s => g.m + lG free s (g.a + free)
theorem lV_cons (free : Int) (g : Gt) (s : List Gt) : lV free (g :: s) = g.m + lG free s (g.a + free) := rfl
theorem lG_cons (free : Int) (g : Gt) (s : List Gt) (r : Int) : lG free (g :: s) r = if g.a ≤ r then min (lV free (g :: s)) (lG free s r) else lV free (g :: s) := rfl
theorem lF_cons (free : Int) (g : Gt) (s : List Gt) (R : Int → Int) : lF free (g :: s) R = if g.a ≤ R g.b then min (g.m + lF free s (upT8 R g.b (g.a + free))) (lF free s R) else g.m + lF free s (upT8 R g.b (g.a + free)) := rfl
theorem lG_nonneg {free : Int} : ∀ {s : List Gt} {r : Int}, (∀ g ∈ s, 1 ≤ g.m) → 0 ≤ lG free s r
  | [], _, _ => Int.le_refl _
  | g :: s, r, h => by
    have h1 := h g List.mem_cons_self
    have h2 := lG_nonneg (free := free) (s := s) (r := g.a + free) (fun x hx => h x (List.mem_cons_of_mem _ hx))
    have h3 := lG_nonneg (free := free) (s := s) (r := r) (fun x hx => h x (List.mem_cons_of_mem _ hx))
    unfold lG
    split <;> omega
theorem lG_le {free : Int} : ∀ {s : List Gt} {r : Int}, (∀ g ∈ s, 1 ≤ g.m ∧ g.m ≤ 99) → lG free s r ≤ 99 * s.length
  | [], _, _ => by simp [lG]
  | g :: s, r, h => by
    have h1 := h g List.mem_cons_self
    have h2 := lG_le (free := free) (s := s) (r := g.a + free) (fun x hx => h x (List.mem_cons_of_mem _ hx))
    have h3 := lG_le (free := free) (s := s) (r := r) (fun x hx => h x (List.mem_cons_of_mem _ hx))
    unfold lG
    rw [List.length_cons]
    split <;> omega
theorem lV_pos {free : Int} {g : Gt} {s : List Gt} (h : ∀ x ∈ g :: s, 1 ≤ x.m) : 1 ≤ lV free (g :: s) := by
  have h1 := h g List.mem_cons_self
  have h2 := lG_nonneg (free := free) (s := s) (r := g.a + free) (fun x hx => h x (List.mem_cons_of_mem _ hx))
  rw [lV_cons]
  omega

def onlyT (t : Int) (s : List Gt) : List Gt := s.filter (fun g => decide (g.b = t))
/-- What is least for all trusts is least for each. -/
theorem lF_sum {free : Int} : ∀ {s : List Gt} {R : Int → Int}, (∀ g ∈ s, 0 ≤ g.b ∧ g.b ≤ 3) →
    lF free s R = lG free (onlyT 0 s) (R 0) + lG free (onlyT 1 s) (R 1) + lG free (onlyT 2 s) (R 2) + lG free (onlyT 3 s) (R 3)
  | [], _, _ => rfl
  | g :: s, R, h => by
    have hb := h g List.mem_cons_self
    have hs : ∀ x ∈ s, 0 ≤ x.b ∧ x.b ≤ 3 := fun x hx => h x (List.mem_cons_of_mem _ hx)
    unfold lF
    rw [lF_sum (R := R) hs, lF_sum (R := upT8 R g.b (g.a + free)) hs]
    have hyes : ∀ t : Int, g.b = t → onlyT t (g :: s) = g :: onlyT t s := fun t e => by
      unfold onlyT; rw [List.filter_cons_of_pos (by simp [e])]
    have hno : ∀ t : Int, ¬ g.b = t → onlyT t (g :: s) = onlyT t s := fun t e => by
      unfold onlyT; rw [List.filter_cons_of_neg (by simp [e])]
    have uyes : ∀ t : Int, g.b = t → upT8 R g.b (g.a + free) t = g.a + free := fun t e => by
      unfold upT8; rw [if_pos e.symm]
    have uno : ∀ t : Int, ¬ g.b = t → upT8 R g.b (g.a + free) t = R t := fun t e => by
      unfold upT8; rw [if_neg (fun h => e h.symm)]
    have h4 : g.b = 0 ∨ g.b = 1 ∨ g.b = 2 ∨ g.b = 3 := by omega
    rcases h4 with e | e | e | e <;>
    · by_cases q : g.a ≤ R g.b
      · rw [if_pos q]
        rw [e] at q
        first
          | rw [hyes 0 e, hno 1 (by omega), hno 2 (by omega), hno 3 (by omega), uyes 0 e, uno 1 (by omega), uno 2 (by omega), uno 3 (by omega), lG_cons, if_pos q, lV_cons]; omega
          | rw [hno 0 (by omega), hyes 1 e, hno 2 (by omega), hno 3 (by omega), uno 0 (by omega), uyes 1 e, uno 2 (by omega), uno 3 (by omega), lG_cons, if_pos q, lV_cons]; omega
          | rw [hno 0 (by omega), hno 1 (by omega), hyes 2 e, hno 3 (by omega), uno 0 (by omega), uno 1 (by omega), uyes 2 e, uno 3 (by omega), lG_cons, if_pos q, lV_cons]; omega
          | rw [hno 0 (by omega), hno 1 (by omega), hno 2 (by omega), hyes 3 e, uno 0 (by omega), uno 1 (by omega), uno 2 (by omega), uyes 3 e, lG_cons, if_pos q, lV_cons]; omega
      · rw [if_neg q]
        rw [e] at q
        first
          | rw [hyes 0 e, hno 1 (by omega), hno 2 (by omega), hno 3 (by omega), uyes 0 e, uno 1 (by omega), uno 2 (by omega), uno 3 (by omega), lG_cons, if_neg q, lV_cons]; omega
          | rw [hno 0 (by omega), hyes 1 e, hno 2 (by omega), hno 3 (by omega), uno 0 (by omega), uyes 1 e, uno 2 (by omega), uno 3 (by omega), lG_cons, if_neg q, lV_cons]; omega
          | rw [hno 0 (by omega), hno 1 (by omega), hyes 2 e, hno 3 (by omega), uno 0 (by omega), uno 1 (by omega), uyes 2 e, uno 3 (by omega), lG_cons, if_neg q, lV_cons]; omega
          | rw [hno 0 (by omega), hno 1 (by omega), hno 2 (by omega), hyes 3 e, uno 0 (by omega), uno 1 (by omega), uno 2 (by omega), uyes 3 e, lG_cons, if_neg q, lV_cons]; omega

/-- The model's least sum: payments are tried. -/
def leastP (l : List Gt) (free : Int) : List Int → List Int → Int
  | [], _ => 0
  | k :: s, paid => if freedG l free paid k = true then min ((gAt l k).m + leastP l free s (paid ++ [k])) (leastP l free s paid) else (gAt l k).m + leastP l free s (paid ++ [k])
theorem leastP_eq {l : List Gt} {free : Int} : ∀ {s paid : List Int} {R : Int → Int}, Pas l s → FU l free paid s R → leastP l free s paid = lF free (s.map (gAt l)) R
  | [], _, _, _, _ => rfl
  | k :: s, paid, R, hp, hf => by
    have h1 := leastP_eq (l := l) (free := free) hp.tail (hf.pay hp)
    have h2 := leastP_eq (l := l) (free := free) hp.tail hf.skip
    have h3 := hf.eq k List.mem_cons_self
    rw [List.map_cons]
    unfold leastP lF
    rw [h1, h2, h3]
    by_cases q : (gAt l k).a ≤ R (gAt l k).b
    · rw [if_pos q, if_pos (decide_eq_true q)]
    · rw [if_neg q, if_neg (by rw [decide_eq_false q]; simp)]

/-! ### plans: the program's way, at the gates of one trust -/
def vI (l : List Gt) (free : Int) (s : List Int) : Int := lV free (s.map (gAt l))
def gI (l : List Gt) (free : Int) (s : List Int) (r : Int) : Int := lG free (s.map (gAt l)) r
theorem gI_cons (l : List Gt) (free : Int) (k : Int) (s : List Int) (r : Int) : gI l free (k :: s) r = if (gAt l k).a ≤ r then min (vI l free (k :: s)) (gI l free s r) else vI l free (k :: s) := rfl
theorem vI_cons (l : List Gt) (free : Int) (k : Int) (s : List Int) : vI l free (k :: s) = (gAt l k).m + gI l free s ((gAt l k).a + free) := rfl
theorem Pas.ms {l : List Gt} {s : List Int} (h : Pas l s) : ∀ g ∈ s.map (gAt l), 1 ≤ g.m ∧ g.m ≤ 99 := fun g hg => by
  obtain ⟨k, hk, rfl⟩ := List.mem_map.1 hg
  have := gAt_ok h.v (h.i k hk)
  omega
theorem vI_pos {l : List Gt} {free k : Int} {s : List Int} (h : Pas l (k :: s)) : 1 ≤ vI l free (k :: s) := lV_pos (fun g hg => (h.ms g hg).1)
theorem gI_nonneg {l : List Gt} {free r : Int} {s : List Int} (h : Pas l s) : 0 ≤ gI l free s r := lG_nonneg (fun g hg => (h.ms g hg).1)
theorem gI_le {l : List Gt} {free r : Int} {s : List Int} (h : Pas l s) : gI l free s r ≤ 99 * s.length := by
  have := lG_le (free := free) (r := r) h.ms
  rw [List.length_map] at this
  exact this
theorem vI_le {l : List Gt} {free : Int} {s : List Int} (h : Pas l s) : vI l free s ≤ 99 * s.length := by
  cases s with
  | nil => simp [vI, lV]
  | cons k s =>
    have h1 := gI_le (free := free) (r := (gAt l k).a + free) h.tail
    have h2 := gAt_ok h.v h.head
    rw [vI_cons, List.length_cons]
    omega

/-- The plan with which it goes on: the best one up to the first gate at which the coach must pay. -/
def scanI (l : List Gt) (free : Int) (r : Int) : List Int → List Int → Option (List Int)
  | [], _ => none
  | k :: s, best =>
    if (gAt l k).a > r then some (if best = [] ∨ vI l free (k :: s) < vI l free best then k :: s else best)
    else scanI l free r s (if best = [] ∨ vI l free (k :: s) < vI l free best then k :: s else best)
/-- The best payments at the gates of one trust. -/
def bI (l : List Gt) (free : Int) : List Int → Int → List Int
  | [], _ => []
  | k :: s, r => if vI l free (k :: s) = gI l free (k :: s) r then k :: bI l free s ((gAt l k).a + free) else bI l free s r
/-- The best payments at them when the first one is paid. -/
def chI (l : List Gt) (free : Int) : List Int → List Int
  | [] => []
  | k :: s => k :: bI l free s ((gAt l k).a + free)

theorem scan_val {l : List Gt} {free r : Int} : ∀ {s best : List Int}, Pas l s → best ≠ [] →
    (∀ q, scanI l free r s best = some q → vI l free q = min (vI l free best) (gI l free s r) ∧ q ≠ []) ∧ (scanI l free r s best = none → gI l free s r = 0)
  | [], best, _, _ => ⟨fun q h => by simp [scanI] at h, fun _ => rfl⟩
  | k :: s, best, hp, hb => by
    rw [gI_cons]
    unfold scanI
    have hpos := vI_pos (free := free) hp
    by_cases hv : vI l free (k :: s) < vI l free best
    · rw [if_pos (Or.inr hv)]
      by_cases q : (gAt l k).a > r
      · rw [if_pos q, if_neg (by omega)]
        refine ⟨fun q h => ?_, fun h => by simp at h⟩
        simp only [Option.some.injEq] at h
        subst h
        exact ⟨by omega, by simp⟩
      · rw [if_neg q, if_pos (by omega)]
        obtain ⟨h1, h2⟩ := scan_val (free := free) (r := r) (best := k :: s) hp.tail (by simp)
        refine ⟨fun q h => ?_, fun h => ?_⟩
        · obtain ⟨h3, h4⟩ := h1 q h
          exact ⟨by omega, h4⟩
        · have := h2 h; omega
    · have hn : ¬ (best = [] ∨ vI l free (k :: s) < vI l free best) := fun h => h.elim hb hv
      rw [if_neg hn]
      by_cases q : (gAt l k).a > r
      · rw [if_pos q, if_neg (by omega)]
        refine ⟨fun q h => ?_, fun h => by simp at h⟩
        simp only [Option.some.injEq] at h
        subst h
        exact ⟨by omega, hb⟩
      · rw [if_neg q, if_pos (by omega)]
        obtain ⟨h1, h2⟩ := scan_val (free := free) (r := r) (best := best) hp.tail hb
        refine ⟨fun q h => ?_, fun h => ?_⟩
        · obtain ⟨h3, h4⟩ := h1 q h
          exact ⟨by omega, h4⟩
        · have := h2 h; omega

theorem scan_best {l : List Gt} {free r : Int} : ∀ {s best : List Int}, Pas l s → best ≠ [] →
    (∀ q, scanI l free r s best = some q → (vI l free best ≤ gI l free s r → q = best) ∧ (¬ vI l free best ≤ gI l free s r → bI l free s r = chI l free q)) ∧ (scanI l free r s best = none → bI l free s r = [])
  | [], best, _, _ => ⟨fun q h => by simp [scanI] at h, fun _ => rfl⟩
  | k :: s, best, hp, hb => by
    have hpos := vI_pos (free := free) hp
    have hg := gI_cons l free k s r
    have hB : bI l free (k :: s) r = if vI l free (k :: s) = gI l free (k :: s) r then k :: bI l free s ((gAt l k).a + free) else bI l free s r := rfl
    have hC : chI l free (k :: s) = k :: bI l free s ((gAt l k).a + free) := rfl
    unfold scanI
    by_cases hv : vI l free (k :: s) < vI l free best
    · rw [if_pos (Or.inr hv)]
      by_cases q : (gAt l k).a > r
      · rw [if_pos q]
        rw [if_neg (by omega)] at hg
        refine ⟨fun q h => ?_, fun h => by simp at h⟩
        simp only [Option.some.injEq] at h
        subst h
        exact ⟨fun h => by omega, fun _ => by rw [hB, if_pos hg.symm, hC]⟩
      · rw [if_neg q]
        rw [if_pos (by omega)] at hg
        obtain ⟨h1, h2⟩ := scan_best (free := free) (r := r) (best := k :: s) hp.tail (by simp)
        obtain ⟨g1, g2⟩ := scan_val (free := free) (r := r) (best := k :: s) hp.tail (by simp)
        refine ⟨fun q h => ⟨fun h3 => by omega, fun _ => ?_⟩, fun h => ?_⟩
        · obtain ⟨h3, h4⟩ := h1 q h
          by_cases c : vI l free (k :: s) ≤ gI l free s r
          · rw [hB, if_pos (by omega), h3 c, hC]
          · rw [hB, if_neg (by omega), h4 c]
        · have := g2 h
          rw [hB, if_neg (by omega), h2 h]
    · have hn : ¬ (best = [] ∨ vI l free (k :: s) < vI l free best) := fun h => h.elim hb hv
      rw [if_neg hn]
      by_cases q : (gAt l k).a > r
      · rw [if_pos q]
        rw [if_neg (by omega)] at hg
        refine ⟨fun q h => ?_, fun h => by simp at h⟩
        simp only [Option.some.injEq] at h
        subst h
        exact ⟨fun _ => rfl, fun h => by omega⟩
      · rw [if_neg q]
        rw [if_pos (by omega)] at hg
        obtain ⟨h1, h2⟩ := scan_best (free := free) (r := r) (best := best) hp.tail hb
        obtain ⟨g1, g2⟩ := scan_val (free := free) (r := r) (best := best) hp.tail hb
        refine ⟨fun q h => ⟨fun h3 => (h1 q h).1 (by omega), fun h3 => ?_⟩, fun h => ?_⟩
        · rw [hB, if_neg (by omega), (h1 q h).2 (by omega)]
        · have := g2 h
          rw [hB, if_neg (by omega), h2 h]

/-- From the first gate behind on. -/
theorem scan_first {l : List Gt} {free r : Int} {s : List Int} (hp : Pas l s) :
    (∀ q, scanI l free r s [] = some q → q ≠ [] ∧ vI l free q = gI l free s r ∧ bI l free s r = chI l free q) ∧ (scanI l free r s [] = none → gI l free s r = 0 ∧ bI l free s r = []) := by
  cases s with
  | nil => exact ⟨fun q h => by simp [scanI] at h, fun _ => ⟨rfl, rfl⟩⟩
  | cons k s =>
    have hpos := vI_pos (free := free) hp
    have hg := gI_cons l free k s r
    have hB : bI l free (k :: s) r = if vI l free (k :: s) = gI l free (k :: s) r then k :: bI l free s ((gAt l k).a + free) else bI l free s r := rfl
    have hC : chI l free (k :: s) = k :: bI l free s ((gAt l k).a + free) := rfl
    unfold scanI
    rw [if_pos (Or.inl rfl)]
    by_cases q : (gAt l k).a > r
    · rw [if_pos q]
      rw [if_neg (by omega)] at hg
      refine ⟨fun q h => ?_, fun h => by simp at h⟩
      simp only [Option.some.injEq] at h
      subst h
      exact ⟨by simp, hg.symm, by rw [hB, if_pos hg.symm, hC]⟩
    · rw [if_neg q]
      rw [if_pos (by omega)] at hg
      obtain ⟨h1, h2⟩ := scan_best (free := free) (r := r) (best := k :: s) hp.tail (by simp)
      obtain ⟨g1, g2⟩ := scan_val (free := free) (r := r) (best := k :: s) hp.tail (by simp)
      refine ⟨fun q h => ?_, fun h => ?_⟩
      · obtain ⟨h3, h4⟩ := h1 q h
        obtain ⟨h5, h6⟩ := g1 q h
        refine ⟨h6, by omega, ?_⟩
        by_cases c : vI l free (k :: s) ≤ gI l free s r
        · rw [hB, if_pos (by omega), h3 c, hC]
        · rw [hB, if_neg (by omega), h4 c]
      · have := g2 h
        exact ⟨by omega, by rw [hB, if_neg (by omega), h2 h]⟩
/-- Behind no ticket the first gate is paid. -/
theorem first_pays {l : List Gt} {free : Int} {s : List Int} (hp : Pas l s) : gI l free s (-1) = vI l free s ∧ bI l free s (-1) = chI l free s := by
  cases s with
  | nil => exact ⟨rfl, rfl⟩
  | cons k s =>
    have h := gAt_ok hp.v hp.head
    have hg := gI_cons l free k s (-1)
    rw [if_neg (by omega)] at hg
    refine ⟨hg, ?_⟩
    show (if vI l free (k :: s) = gI l free (k :: s) (-1) then k :: bI l free s ((gAt l k).a + free) else bI l free s (-1)) = _
    rw [if_pos hg.symm]; rfl
theorem bI_sub (l : List Gt) (free : Int) : ∀ (s : List Int) (r : Int), (bI l free s r).Sublist s
  | [], _ => List.Sublist.slnil
  | k :: s, r => by
    unfold bI
    split
    · exact (bI_sub l free s _).cons_cons k
    · exact (bI_sub l free s _).cons k

/-! ### the best payments of all trusts -/
def trI (l : List Gt) (t : Int) (s : List Int) : List Int := s.filter (fun k => decide ((gAt l k).b = t))
theorem trI_map (l : List Gt) (t : Int) (s : List Int) : (trI l t s).map (gAt l) = onlyT t (s.map (gAt l)) := by
  unfold trI onlyT
  rw [List.filter_map]; rfl
theorem lF_diff {free : Int} {s : List Gt} {R : Int → Int} {b x : Int} (h : ∀ g ∈ s, 0 ≤ g.b ∧ g.b ≤ 3) (hb : 0 ≤ b ∧ b ≤ 3) :
    lF free s (upT8 R b x) - lG free (onlyT b s) x = lF free s R - lG free (onlyT b s) (R b) := by
  rw [lF_sum h, lF_sum h]
  have h4 : b = 0 ∨ b = 1 ∨ b = 2 ∨ b = 3 := by omega
  rcases h4 with rfl | rfl | rfl | rfl <;>
  · simp only [upT8, Int.reduceEq, if_true, if_false]
    omega
def mI (l : List Gt) (free : Int) : List Int → (Int → Int) → List Int
  | [], _ => []
  | k :: s, R => if (gAt l k).m + lF free (s.map (gAt l)) (upT8 R (gAt l k).b ((gAt l k).a + free)) = lF free ((k :: s).map (gAt l)) R then k :: mI l free s (upT8 R (gAt l k).b ((gAt l k).a + free)) else mI l free s R
def bestS (l : List Gt) (free : Int) : List Int → List Int → List Int
  | [], out => out
  | k :: s, out => if (gAt l k).m + leastP l free s (out ++ [k]) = leastP l free (k :: s) out then bestS l free s (out ++ [k]) else bestS l free s out
theorem bestS_eq {l : List Gt} {free : Int} : ∀ {s out : List Int} {R : Int → Int}, Pas l s → FU l free out s R → bestS l free s out = out ++ mI l free s R
  | [], out, R, _, _ => by simp [bestS, mI]
  | k :: s, out, R, hp, hf => by
    have h1 := leastP_eq (l := l) (free := free) hp.tail (hf.pay hp)
    have h2 := leastP_eq (l := l) (free := free) hp hf
    unfold bestS mI
    rw [h1, h2]
    split
    · rw [bestS_eq hp.tail (hf.pay hp)]; simp
    · rw [bestS_eq hp.tail hf.skip]
theorem Pas.bs {l : List Gt} {s : List Int} (h : Pas l s) : ∀ g ∈ s.map (gAt l), 0 ≤ g.b ∧ g.b ≤ 3 := fun g hg => by
  obtain ⟨k, hk, rfl⟩ := List.mem_map.1 hg
  have := gAt_ok h.v (h.i k hk)
  omega
theorem mI_sub (l : List Gt) (free : Int) : ∀ (s : List Int) (R : Int → Int), (mI l free s R).Sublist s
  | [], _ => List.Sublist.slnil
  | k :: s, R => by
    unfold mI
    split
    · exact (mI_sub l free s _).cons_cons k
    · exact (mI_sub l free s _).cons k
theorem mI_only {l : List Gt} {free t : Int} : ∀ {s : List Int} {R : Int → Int}, Pas l s → trI l t (mI l free s R) = bI l free (trI l t s) (R t)
  | [], R, _ => rfl
  | k :: s, R, hp => by
    have hk := gAt_ok hp.v hp.head
    have hd := lF_diff (free := free) (s := s.map (gAt l)) (R := R) (b := (gAt l k).b) (x := (gAt l k).a + free) hp.tail.bs (by omega)
    rw [← trI_map] at hd
    have i1 := mI_only (l := l) (free := free) (t := t) (s := s) (R := R) hp.tail
    have i2 := mI_only (l := l) (free := free) (t := t) (s := s) (R := upT8 R (gAt l k).b ((gAt l k).a + free)) hp.tail
    have hcond : ((gAt l k).m + lF free (s.map (gAt l)) (upT8 R (gAt l k).b ((gAt l k).a + free)) = lF free ((k :: s).map (gAt l)) R) ↔ vI l free (k :: trI l (gAt l k).b s) = gI l free (k :: trI l (gAt l k).b s) (R (gAt l k).b) := by
      rw [gI_cons, vI_cons, List.map_cons, lF_cons]
      unfold gI
      by_cases q : (gAt l k).a ≤ R (gAt l k).b
      · rw [if_pos q, if_pos q]; omega
      · rw [if_neg q, if_neg q]; simp
    unfold mI
    by_cases e : (gAt l k).b = t
    · have hs : trI l t (k :: s) = k :: trI l t s := by unfold trI; rw [List.filter_cons_of_pos (by simp [e])]
      have hk2 : ∀ z : List Int, trI l t (k :: z) = k :: trI l t z := fun z => by unfold trI; rw [List.filter_cons_of_pos (by simp [e])]
      have hu : upT8 R (gAt l k).b ((gAt l k).a + free) t = (gAt l k).a + free := by unfold upT8; rw [if_pos e.symm]
      rw [hu] at i2
      rw [hs]
      rw [e] at hcond
      unfold bI
      by_cases c : vI l free (k :: trI l t s) = gI l free (k :: trI l t s) (R t)
      · rw [if_pos c, if_pos (by rw [e]; exact hcond.2 c), hk2, i2]
      · rw [if_neg c, if_neg (fun h => c (hcond.1 (by rw [e] at h; exact h))), i1]
    · have hs : trI l t (k :: s) = trI l t s := by unfold trI; rw [List.filter_cons_of_neg (by simp [e])]
      have hk2 : ∀ z : List Int, trI l t (k :: z) = trI l t z := fun z => by unfold trI; rw [List.filter_cons_of_neg (by simp [e])]
      have hu : upT8 R (gAt l k).b ((gAt l k).a + free) t = R t := by unfold upT8; rw [if_neg (fun h => e h.symm)]
      rw [hu] at i2
      rw [hs]
      split
      · rw [hk2, i2]
      · rw [i1]

end Go.Proofs.Ythhllpnbmelidaa
