/- Pure facts on roads and edges; no program. -/
namespace Go.Proofs.Ytmdcpigobfhckaa
structure Rd where
  a : Int
  b : Int
  m : Int

def fits (n : Int) (r : Rd) : Bool := decide (0 ≤ r.a) && decide (r.a < r.b) && decide (r.b < n) && decide (1 ≤ r.m) && decide (r.m ≤ 99)
def same (r s : Rd) : Bool := decide (r.a = s.a) && decide (r.b = s.b)
def rd0 : Rd := ⟨0, 0, 0⟩
def okAt (n : Int) (l : List Rd) (k : Nat) : Bool := fits n (l.getD k rd0) && (l.take k).all fun s => !same s (l.getD k rd0)
def okTo (n : Int) (l : List Rd) (k : Nat) : Bool := (List.range k).all (okAt n l)
def validR (n : Int) (l : List Rd) : Bool := decide (1 ≤ n) && decide (n ≤ 8) && decide (l.length ≤ 16) && okTo n l l.length

theorem okTo_succ (n : Int) (l : List Rd) (k : Nat) : okTo n l (k + 1) = (okTo n l k && okAt n l k) := by
  simp [okTo, List.range_succ]

theorem okTo_le (n : Int) (l : List Rd) {k j : Nat} (h : okTo n l k = true) (hj : j ≤ k) : okTo n l j = true := by
  simp only [okTo, List.all_eq_true, List.mem_range] at h ⊢
  exact fun x hx => h x (by omega)

theorem okTo_at (n : Int) (l : List Rd) {k j : Nat} (h : okTo n l k = true) (hj : j < k) : okAt n l j = true := by
  simp only [okTo, List.all_eq_true, List.mem_range] at h
  exact h j hj

/-- The road between two towns, whichever way. -/
def edge (l : List Rd) (x y : Int) : Option Int := (l.find? fun r => decide (r.a = min x y) && decide (r.b = max x y)).map (·.m)

theorem take_snocD (l : List Rd) (k : Nat) (h : k < l.length) : l.take (k + 1) = l.take k ++ [l.getD k rd0] := by
  rw [List.take_succ_eq_append_getElem h]; simp [List.getD, h]

theorem edge_symm (l : List Rd) (x y : Int) : edge l x y = edge l y x := by
  unfold edge; rw [Int.min_comm, Int.max_comm]

theorem hit_iff (r : Rd) (h : r.a < r.b) (x y : Int) : (decide (r.a = min x y) && decide (r.b = max x y)) = true ↔ (x = r.a ∧ y = r.b) ∨ (x = r.b ∧ y = r.a) := by
  simp only [Bool.and_eq_true, decide_eq_true_eq]; omega

theorem fits_iff (n : Int) (r : Rd) : fits n r = true ↔ 0 ≤ r.a ∧ r.a < r.b ∧ r.b < n ∧ 1 ≤ r.m ∧ r.m ≤ 99 := by
  simp [fits, Bool.and_eq_true, and_assoc]

theorem okAt_iff (n : Int) (l : List Rd) (k : Nat) : okAt n l k = true ↔ fits n (l.getD k rd0) = true ∧ ∀ s ∈ l.take k, same s (l.getD k rd0) = false := by
  simp [okAt, Bool.and_eq_true]

/-- What one more road does to the edges. -/
theorem edge_snoc (n : Int) (l : List Rd) (k : Nat) (hk : k < l.length) (h : okAt n l k = true) (x y : Int) :
    edge (l.take (k + 1)) x y = if (x = (l.getD k rd0).a ∧ y = (l.getD k rd0).b) ∨ (x = (l.getD k rd0).b ∧ y = (l.getD k rd0).a) then some (l.getD k rd0).m else edge (l.take k) x y := by
  rw [take_snocD l k hk]
  obtain ⟨hf, hs⟩ := (okAt_iff n l k).1 h
  generalize l.getD k rd0 = r at *
  have hab := ((fits_iff n r).1 hf).2.1
  unfold edge
  rw [List.find?_append]
  split
  · rename_i hc
    have hh := (hit_iff r hab x y).2 hc
    have hn : (l.take k).find? (fun s => decide (s.a = min x y) && decide (s.b = max x y)) = none := by
      rw [List.find?_eq_none]
      intro s hsm hsx
      have h1 := hs s hsm
      simp only [Bool.and_eq_true, decide_eq_true_eq] at hh hsx
      simp only [same, Bool.and_eq_false_iff, decide_eq_false_iff_not] at h1
      omega
    rw [hn]
    simp [hh]
  · rename_i hc
    have hh : (decide (r.a = min x y) && decide (r.b = max x y)) = false := by
      rw [Bool.eq_false_iff]; intro h'; exact hc ((hit_iff r hab x y).1 h')
    simp [hh]

theorem edge_nil (x y : Int) : edge [] x y = none := rfl

/-- No road stands twice: an earlier one of the same towns is just an edge. -/
theorem no_edge_iff (n : Int) (l : List Rd) (k : Nat) (hf : fits n (l.getD k rd0) = true) :
    (edge (l.take k) (l.getD k rd0).a (l.getD k rd0).b).isNone = true ↔ okAt n l k = true := by
  rw [okAt_iff]
  have h := (fits_iff n _).1 hf
  generalize l.getD k rd0 = r at *
  simp only [edge, Option.isNone_map, Option.isNone_iff_eq_none, List.find?_eq_none, hf, true_and, same]
  have e1 : min r.a r.b = r.a := by omega
  have e2 : max r.a r.b = r.b := by omega
  rw [e1, e2]
  constructor
  · intro h' s hs; have := h' s hs; simpa using this
  · intro h' s hs; have := h' s hs; simpa using this

theorem edge_some {l : List Rd} {x y m : Int} (h : edge l x y = some m) : ∃ r ∈ l, r.m = m ∧ r.a = min x y ∧ r.b = max x y := by
  unfold edge at h
  rw [Option.map_eq_some_iff] at h
  obtain ⟨r, hr, rfl⟩ := h
  have := List.find?_some hr
  simp only [Bool.and_eq_true, decide_eq_true_eq] at this
  exact ⟨r, List.mem_of_find?_eq_some hr, rfl, this.1, this.2⟩

theorem okTo_fits {n : Int} {l : List Rd} {k : Nat} (h : okTo n l k = true) {r : Rd} (hr : r ∈ l.take k) : fits n r = true := by
  obtain ⟨i, hi, rfl⟩ := List.getElem_of_mem hr
  simp only [List.length_take] at hi
  have := ((okAt_iff n l i).1 (okTo_at n l h (by omega))).1
  simpa [List.getD, show i < l.length by omega] using this

theorem edge_bounds {n : Int} {l : List Rd} {k : Nat} (h : okTo n l k = true) {x y m : Int} (he : edge (l.take k) x y = some m) :
    0 ≤ x ∧ x < n ∧ 0 ≤ y ∧ y < n ∧ 1 ≤ m ∧ m ≤ 99 ∧ x ≠ y := by
  obtain ⟨r, hr, rfl, h1, h2⟩ := edge_some he
  have := (fits_iff n r).1 (okTo_fits h hr)
  omega

end Go.Proofs.Ytmdcpigobfhckaa
