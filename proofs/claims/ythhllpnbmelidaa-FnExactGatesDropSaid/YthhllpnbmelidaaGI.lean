/- Gates added, dropped, later; no program. -/
import Derived.Test.YthhllpnbmelidaaGH
namespace Go.Proofs.Ythhllpnbmelidaa
set_option linter.unusedVariables false
set_option linter.unusedSimpArgs false

/-! ### gates added, dropped, later -/
/-- The place of a gate with a mile. -/
def posG (x : Int) : List Gt → Nat
  | [] => 0
  | g :: l => if g.a < x then posG x l + 1 else 0
theorem posG_le (x : Int) : ∀ l : List Gt, posG x l ≤ l.length
  | [] => Nat.le_refl _
  | g :: l => by
    have := posG_le x l
    unfold posG
    rw [List.length_cons]
    split <;> omega
theorem posG_below {x : Int} : ∀ {l : List Gt} {i : Nat}, i < posG x l → (l.getD i gt0).a < x
  | [], i, h => by simp [posG] at h
  | g :: l, i, h => by
    unfold posG at h
    split at h
    · rename_i hg
      cases i with
      | zero => exact hg
      | succ j =>
        have := posG_below (x := x) (l := l) (i := j) (by omega)
        simpa using this
    · omega
theorem posG_stop {x : Int} : ∀ {l : List Gt}, posG x l < l.length → ¬ (l.getD (posG x l) gt0).a < x
  | [], h => by simp [posG] at h
  | g :: l, h => by
    unfold posG at h ⊢
    split
    · rename_i hg
      rw [if_pos hg, List.length_cons] at h
      have := posG_stop (x := x) (l := l) (by omega)
      simpa using this
    · rename_i hg
      simpa using hg
/-- The only place with lesser miles ahead and none at it. -/
theorem posG_uniq {x : Int} {l : List Gt} {k : Nat} (hk : k ≤ l.length) (h1 : ∀ i, i < k → (l.getD i gt0).a < x) (h2 : k < l.length → ¬ (l.getD k gt0).a < x) : k = posG x l := by
  have h3 := posG_le x l
  by_cases q : k < posG x l
  · exact absurd (posG_below q) (h2 (by omega))
  · by_cases q2 : posG x l < k
    · exact absurd (h1 _ q2) (posG_stop (by omega))
    · omega
/-- Gates with lesser miles are those ahead. -/
theorem where_pos {x : Int} {l : List Gt} (h : validG l = true) : (whereG (fun o => decide (o.a < x)) l).length = posG x l := by
  have e : ∀ k, k ≤ l.length → (whereTo (fun o => decide (o.a < x)) l k).length = min k (posG x l) := by
    intro k hk
    induction k with
    | zero => simp [whereTo_zero]
    | succ k ih =>
      have i1 := ih (by omega)
      rw [whereTo_succ]
      by_cases q : k < posG x l
      · rw [if_pos (by rw [decide_eq_true_eq]; exact posG_below q), List.length_append, i1]
        simp only [List.length_cons, List.length_nil]
        omega
      · have hle := posG_le x l
        have hs := posG_stop (x := x) (l := l) (by omega)
        have : ¬ (l.getD k gt0).a < x := by
          by_cases e : posG x l = k
          · rw [← e]; exact hs
          · have := validG_lt h (j := posG x l) (i := k) (by omega) (by omega)
            omega
        rw [if_neg (by rw [decide_eq_true_eq]; exact this), i1]
        omega
  have := e l.length (Nat.le_refl _)
  have := posG_le x l
  unfold whereG
  omega
def addG (l : List Gt) (g : Gt) : List Gt := l.take (posG g.a l) ++ g :: l.drop (posG g.a l)
def addGOk (l : List Gt) (g : Gt) : Bool := validG l && validG (addG l g)
def addGX (l : List Gt) (g : Gt) : List Gt := if addGOk l g = true then addG l g else []
theorem addG_len (l : List Gt) (g : Gt) : (addG l g).length = l.length + 1 := by
  have := posG_le g.a l
  unfold addG
  simp only [List.length_append, List.length_take, List.length_cons, List.length_drop]
  omega
theorem addGX_short {l : List Gt} (h : l.length ≤ 1048576) (g : Gt) : (addGX l g).length ≤ 1048576 := by
  unfold addGX
  split
  · rename_i h
    unfold addGOk at h
    simp only [Bool.and_eq_true] at h
    have := (validG_iff.1 h.2).1
    omega
  · simp
def dropGOk (l : List Gt) (k : Int) : Bool := validG l && inB k 0 ((l.length : Int) - 1)
def dropG (l : List Gt) (k : Nat) : List Gt := l.take k ++ l.drop (k + 1)
def dropGX (l : List Gt) (k : Int) : List Gt := if dropGOk l k = true then dropG l k.toNat else []
theorem dropG_len (l : List Gt) {k : Nat} (h : k < l.length) : (dropG l k).length = l.length - 1 := by
  unfold dropG
  simp only [List.length_append, List.length_take, List.length_drop]
  omega
theorem dropGX_short {l : List Gt} (h : l.length ≤ 1048576) (k : Int) : (dropGX l k).length ≤ 1048576 := by
  unfold dropGX dropG
  split
  · simp only [List.length_append, List.length_take, List.length_drop]; omega
  · simp
theorem passX_short {l : List Gt} (h : l.length ≤ 1048576) (f t : Int) : (passX l f t).length ≤ 1048576 := by
  unfold passX
  split
  · exact Nat.le_trans (passL_len _ _ _) h
  · simp
theorem trustX_short {l : List Gt} (h : l.length ≤ 1048576) (t : Int) : (trustX l t).length ≤ 1048576 := by
  unfold trustX
  split
  · exact Nat.le_trans (whereG_len _ _) h
  · simp
def mustX (l : List Gt) (free f t : Int) : List Int := if okT l free f t = true then mustT l free (passL l f t) [] else []
theorem mustX_short {l : List Gt} (h : l.length ≤ 1048576) (free f t : Int) : (mustX l free f t).length ≤ 1048576 := by
  unfold mustX
  split
  · have := mustT_len (l := l) (free := free) (s := passL l f t) (out := [])
    have := passL_len l f t
    simp at *; omega
  · simp
theorem bestX_short {l : List Gt} (h : l.length ≤ 1048576) (free f t : Int) : (bestX l free f t).length ≤ 1048576 := by
  unfold bestX
  split
  · have := (mI_sub l free (passL l f t) noTic).length_le
    have := passL_len l f t
    omega
  · simp
theorem eachX_short (l : List Gt) (free f t : Int) : (eachX l free f t).length ≤ 1048576 := by
  unfold eachX
  split <;> simp
/-- Later gates (wrap: the machine's sum). -/
def latG (wrap : Int → Int) (k : Int) (g : Gt) : Gt := ⟨wrap (g.a + k), g.b, g.m⟩

end Go.Proofs.Ythhllpnbmelidaa
