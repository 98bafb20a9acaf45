/- Pure facts on way-bills: loads change at stops; their sum; no program. -/
import Derived.Test.YtmdcpigobfhckaaFX
namespace Go.Proofs.Ytmdcpigobfhckaa

/-- What a stop adds to the load. -/
def dltF (g : Int) (r : Fr) : Int := (if r.a = g then r.m else 0) - (if r.b = g then r.m else 0)
def nowF (l : List Fr) (g : Int) : Nat → Int
  | 0 => loadF l (g - 1)
  | k + 1 => nowF l g k + dltF g (l.getD k fr0)
theorem onF_step {n g : Int} {r : Fr} (h : okF n r = true) : onF g r = onF (g - 1) r + dltF g r := by
  obtain ⟨⟨h1, h2, h3⟩, _⟩ := okF_iff.1 h
  unfold onF dltF
  by_cases q1 : r.a = g
  · rw [if_pos (by omega), if_neg (by omega), if_pos q1, if_neg (by omega)]; omega
  · by_cases q2 : r.b = g
    · rw [if_neg (by omega), if_pos (by omega), if_neg q1, if_pos q2]; omega
    · by_cases q3 : r.a ≤ g ∧ g < r.b
      · rw [if_pos q3, if_pos (by omega), if_neg q1, if_neg q2]; omega
      · rw [if_neg q3, if_neg (by omega), if_neg q1, if_neg q2]; omega
theorem load9_step {n g : Int} {l : List Fr} : ∀ {j : Nat}, okFs n l j = true → load9 l g j - load9 l (g - 1) j = nowF l g j - loadF l (g - 1)
  | 0, _ => by simp [load9, nowF]
  | j + 1, h => by
    simp only [okFs, Bool.and_eq_true] at h
    have ih := load9_step (g := g) h.1
    have h1 := onF_step (g := g) h.2
    simp only [load9, nowF]
    omega
theorem nowF_end {n g : Int} {l : List Fr} (h : okFs n l l.length = true) : nowF l g l.length = loadF l g := by
  have h1 := load9_step (g := g) h
  unfold loadF at h1 ⊢; omega
theorem dltF_bd {n g : Int} {r : Fr} (h : okF n r = true) : -99 ≤ dltF g r ∧ dltF g r ≤ 99 := by
  obtain ⟨_, h1, h2⟩ := okF_iff.1 h
  unfold dltF; split <;> split <;> omega
theorem nowF_bd {n g : Int} {l : List Fr} (h : okFs n l l.length = true) (hl : l.length ≤ 12) : ∀ {k : Nat}, k ≤ l.length → -(99 * (k : Int)) ≤ nowF l g k ∧ nowF l g k ≤ 1188 + 99 * k
  | 0, _ => by have := load9_nn (g := g - 1) h; simp only [nowF, loadF]; omega
  | k + 1, hk => by
    have ih := nowF_bd (g := g) h hl (k := k) (by omega)
    have h1 := dltF_bd (g := g) (okFs_at h (show k < l.length by omega))
    simp only [nowF]; omega
theorem load_start {n : Int} {l : List Fr} : ∀ {j : Nat}, okFs n l j = true → load9 l (-1) j = 0
  | 0, _ => rfl
  | j + 1, h => by
    simp only [okFs, Bool.and_eq_true] at h
    obtain ⟨⟨h1, _⟩, _⟩ := okF_iff.1 h.2
    simp only [load9, load_start h.1, onF]
    rw [if_neg (by omega)]; rfl
theorem loads_sum (l : List Fr) (j : Nat) : ∀ (n : Nat), (loadsL l n j).sum = legsTo9 l j n
  | 0 => rfl
  | n + 1 => by
    have e : loadsL l (n + 1) j = loadsL l n j ++ [load9 l n j] := by simp [loadsL, List.range_succ]
    rw [e, List.sum_append, loads_sum l j n]; simp [legsTo9]

end Go.Proofs.Ytmdcpigobfhckaa
