/- RoadsWay of the model. -/
import Derived.Test.YtlkhgnglblgldaaAA
import Derived.IntWalk
import Derived.BigQuiet
import Derived.Deep.QuietTactic
namespace Go.Proofs.Ytlkhgnglblgldaa
open Go.RowKit Go.Maps

theorem next_least {n : Int} {l : List Rd} (hz : validR n l = true) {b t d : Int} (hb : 0 ≤ b ∧ b < n) (hd : Dist (edge l) b t d) (hne : t ≠ b) {j : Nat} (hj : (j : Int) < n)
    (hno : ∀ i : Nat, i < j → nearP (edge l) (distN n (edge l) b) t i = false) (hy : nearP (edge l) (distN n (edge l) b) t j = true) : nextT n l b t = j := by
  have hm := next_mem hz hb hd hne
  obtain ⟨⟨h0, h1⟩, h2⟩ := mem_nearL.1 hm
  have hjm : (j : Int) ∈ nearL n (edge l) (distN n (edge l) b) t := mem_nearL.2 ⟨⟨by omega, hj⟩, hy⟩
  have hs : (nearL n (edge l) (distN n (edge l) b) t).Pairwise (fun a b => a < b) := (towns_sorted n).filter _
  have hle : nextT n l b t ≤ j := by
    unfold nextT
    cases h : nearL n (edge l) (distN n (edge l) b) t with
    | nil => rw [h] at hjm; cases hjm
    | cons x xs =>
      rw [h] at hjm hs
      rcases List.mem_cons.1 hjm with e | e
      · simp [e]
      · have := (List.pairwise_cons.1 hs).1 _ e
        simp; omega
  rcases Int.lt_or_le (nextT n l b t) j with hlt | hge
  · have := hno (nextT n l b t).toNat (by omega)
    rw [show (((nextT n l b t).toNat : Nat) : Int) = nextT n l b t by omega, h2] at this
    cases this
  · omega

theorem next_head {n : Int} {l : List Rd} (hz : validR n l = true) {b t d : Int} (hb : 0 ≤ b ∧ b < n) (hd : Dist (edge l) b t d) (hne : t ≠ b) {j : Nat}
    (hno : ∀ i : Nat, i < j → nearP (edge l) (distN n (edge l) b) t i = false) : (j : Int) < n := by
  obtain ⟨⟨h0, h1⟩, h2⟩ := mem_nearL.1 (next_mem hz hb hd hne)
  rcases Int.lt_or_le (j : Int) n with h | h
  · exact h
  · have := hno (nextT n l b t).toNat (by omega)
    rw [show (((nextT n l b t).toNat : Nat) : Int) = nextT n l b t by omega, h2] at this
    cases this

theorem find_cases (l : List Rd) (a b : Int) : ∀ m, m ≤ l.length → (∃ k, k < m ∧ hit a b (l.getD k rd0) = true ∧ noHit l a b k) ∨ noHit l a b m
  | 0, _ => .inr (fun j hj => by omega)
  | m + 1, h => by
    rcases find_cases l a b m (by omega) with ⟨k, h1, h2, h3⟩ | h1
    · exact .inl ⟨k, by omega, h2, h3⟩
    · cases hh : hit a b (l.getD m rd0) with
      | true => exact .inl ⟨m, by omega, hh, h1⟩
      | false =>
        refine .inr fun j hj => ?_
        by_cases e : j = m
        · subst e; exact hh
        · exact h1 j (by omega)

theorem l1Find_at (v : Value) (l : List Rd) (a b : Int) (w : World) (hv : RoadsIn w v l) (hl : l.length ≤ 1048576) {k : Nat} (hk : k < l.length) (hh : hit a b (l.getD k rd0) = true) (hn : noHit l a b k) :
    Calls Try.prog 91 #[v, .int .i64 a, .int .i64 b] w fun e w' => e = .returned (.int .i64 k) ∧ w' = w := by
  refine (l1Find_any v l a b w hv hl).mono ?_
  rintro e w' ⟨h, rfl⟩
  rcases h with ⟨k', hk', hh', _, hn', rfl⟩ | ⟨_, hno, rfl⟩
  · obtain rfl : k' = k := by
      rcases Nat.lt_trichotomy k' k with h | h | h
      · have := hn k' h; rw [hh'] at this; cases this
      · exact h
      · have := hn' k h; rw [hh] at this; cases this
    exact ⟨rfl, rfl⟩
  · have := hno k hk; rw [hh] at this; cases this

theorem l1Find_no (v : Value) (l : List Rd) (a b : Int) (w : World) (hv : RoadsIn w v l) (hl : l.length ≤ 1048576) (hn : noHit l a b l.length) :
    Calls Try.prog 91 #[v, .int .i64 a, .int .i64 b] w fun e w' => e = .returned (.int .i64 (-1)) ∧ w' = w := by
  refine (l1Find_any v l a b w hv hl).mono ?_
  rintro e w' ⟨h, rfl⟩
  rcases h with ⟨k', hk', hh', _, hn', rfl⟩ | ⟨_, hno, rfl⟩
  · have := hn k' hk'; rw [hh'] at this; cases this
  · exact ⟨rfl, rfl⟩

/-- In the search for the next town. -/
def NextRel (n : Int) (l : List Rd) (b : Int) (p : Nat) (wr : World) (i : Value) (wq : World) : Prop :=
  ∃ j : Nat, i = .int .i64 j ∧ (∀ i : Nat, i < j → nearP (edge l) (distN n (edge l) b) p i = false) ∧ Below wr.heap.size wr wq

theorem no_next {g : Int → Int → Option Int} {f : Int → Option Int} {p : Int} {j : Nat} (h : ∀ i : Nat, i < j → nearP g f p i = false) (hj : nearP g f p j = false) : ∀ i : Nat, i < j + 1 → nearP g f p i = false := fun i hi => by
  by_cases e : i = j
  · subst e; exact hj
  · exact h i (by omega)

end Go.Proofs.Ytlkhgnglblgldaa
