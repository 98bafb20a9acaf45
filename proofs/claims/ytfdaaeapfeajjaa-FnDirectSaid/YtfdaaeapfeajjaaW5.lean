/- l1Find, RoadsDirect and RoadsLength, of the model and of the program. -/
import Derived.Test.YtfdaaeapfeajjaaW4
namespace Go.Proofs.Ytfdaaeapfeajjaa
open Go.RowKit

def hit (a b : Int) (r : Rd) : Bool := decide (r.a = min a b) && decide (r.b = max a b)

/-- No road before the k-th joins the two. -/
def noHit (l : List Rd) (a b : Int) (k : Nat) : Prop := ∀ j, j < k → hit a b (l.getD j rd0) = false

theorem edge_none_of {l : List Rd} {a b : Int} (h : noHit l a b l.length) : edge l a b = none := by
  unfold edge
  rw [Option.map_eq_none_iff, List.find?_eq_none]
  intro r hr
  obtain ⟨i, hi, rfl⟩ := List.getElem_of_mem hr
  have := h i hi
  rw [getD_eq l hi] at this
  simp only [hit] at this
  simp [this]

theorem edge_some_of {l : List Rd} {a b : Int} {k : Nat} (hk : k < l.length) (h : noHit l a b k) (hh : hit a b (l.getD k rd0) = true) : edge l a b = some (l.getD k rd0).m := by
  unfold edge
  have : l.find? (fun r => decide (r.a = min a b) && decide (r.b = max a b)) = some (l.getD k rd0) := by
    rw [getD_eq l hk] at hh ⊢
    rw [List.find?_eq_some_iff_getElem]
    refine ⟨hh, k, hk, rfl, fun j hj => ?_⟩
    have := h j hj
    rw [getD_eq l (by omega)] at this
    simp only [hit] at this
    simp [this]
  rw [this]; rfl

/-- What l1Find gives. -/
def FindOut (l : List Rd) (a b : Int) (w : World) (e : Ending) (w' : World) : Prop :=
  ((∃ k : Nat, k < l.length ∧ hit a b (l.getD k rd0) = true ∧ edge l a b = some (l.getD k rd0).m ∧ noHit l a b k ∧ e = .returned (.int .i64 k)) ∨ (edge l a b = none ∧ noHit l a b l.length ∧ e = .returned (.int .i64 (-1)))) ∧ w = w'

set_option maxHeartbeats 400000 in
theorem l1Find_any (v : Value) (l : List Rd) (a b : Int) (w : World) (hv : RoadsIn w v l) (hl : l.length ≤ 1048576) :
    Calls Try.prog 56 #[v, .int .i64 a, .int .i64 b] w (FindOut l a b w) := by
  obtain ⟨ad, cap, rfl, ha⟩ := hv
  have Ha := Lib.hid ha; clear ha
  go_enter Try.func56, Try.ntmps56
  go_wp2
  go_loop [7] (fun i => ∃ k : Nat, k ≤ l.length ∧ i = .int .i64 k ∧ noHit l a b k) (fun i => l.length - (intOf i).toNat)
  case atStart => exact ⟨0, Nat.zero_le _, rfl, fun j hj => by omega⟩
  case round =>
    obtain ⟨k, hk, rfl, hno⟩ := hrel
    have Hno := Lib.hid hno; clear hno
    by_cases hlt : k < l.length
    · obtain ⟨bb, o, rfl, hb0, hrw⟩ := Ha.out (by intro h; simp [h] at hlt)
      obtain ⟨c0, c1, c2⟩ := hrw k hlt
      have Hrw := Lib.hid hrw; clear hrw
      have hh : hit a b (l.getD k rd0) = (decide ((l.getD k rd0).a = min a b) && decide ((l.getD k rd0).b = max a b)) := rfl
      have Hh := Lib.hid hh; clear hh
      generalize hga : (l.getD k rd0).a = ra at *
      generalize hgb : (l.getD k rd0).b = rb at *
      have Hga := Lib.hid hga; clear hga
      have Hgb := Lib.hid hgb; clear hgb
      go_wp2
      all_goals first
        | (have hy : hit a b (l.getD k rd0) = true := by
             rw [Hh.out]
             simp only [beq_iff_eq, beq_eq_false_iff_ne, ne_eq] at *
             simp only [Bool.and_eq_true, decide_eq_true_eq]
             omega
           go_ret
           exact ⟨.inl ⟨k, hlt, hy, edge_some_of hlt Hno.out hy, Hno.out, rfl⟩, rfl⟩)
        | (have hn : hit a b (l.getD k rd0) = false := by
             rw [Hh.out]
             simp only [beq_eq_false_iff_ne, ne_eq] at *
             simp only [Bool.and_eq_false_iff, decide_eq_false_iff_not]
             omega
           refine ⟨⟨k + 1, hlt, by go_num, fun j hj => ?_⟩, by simp [intOf]; omega⟩
           by_cases hjk : j = k
           · subst hjk; exact hn
           · exact Hno.out j (by omega))
    · obtain rfl : k = l.length := by omega
      go_wp2
      go_ret
      exact ⟨.inr ⟨edge_none_of Hno.out, Hno.out, rfl⟩, rfl⟩

theorem edge_miles {n : Int} {l : List Rd} (h : validR n l = true) {a b m : Int} (he : edge l a b = some m) : 0 ≤ a ∧ a < n ∧ 0 ≤ b ∧ b < n ∧ 1 ≤ m ∧ m ≤ 99 ∧ a ≠ b := by
  simp only [validR, Bool.and_eq_true] at h
  exact edge_bounds h.2 (by rw [List.take_length]; exact he)

theorem valid_bounds {n : Int} {l : List Rd} (h : validR n l = true) : 1 ≤ n ∧ n ≤ 8 ∧ l.length ≤ 16 ∧ okTo n l l.length = true := by
  simp only [validR, Bool.and_eq_true, decide_eq_true_eq] at h
  exact ⟨h.1.1.1, h.1.1.2, h.1.2, h.2⟩

theorem dirOf_edge {n : Int} {l : List Rd} (h : validR n l = true) (a b : Int) : dirOf n (edge l) a b = (edge l a b).getD (-1) := by
  unfold dirOf
  split
  · rfl
  · rename_i hr
    cases he : edge l a b with
    | none => rfl
    | some m => have := edge_miles h he; omega

/-- What RoadsDirect is. -/
def directOf (n : Int) (l : List Rd) (a b : Int) : Int := if validR n l = true then (edge l a b).getD (-1) else -1

theorem directOf_ge {n : Int} {l : List Rd} {a b : Int} : -1 ≤ directOf n l a b ∧ directOf n l a b ≤ 99 := by
  unfold directOf
  split
  · rename_i h
    cases he : edge l a b with
    | none => simp
    | some m => have := edge_miles h he; simp; omega
  · omega

set_option maxHeartbeats 400000 in
theorem specDirect_any (n : Int) (v : Value) (l : List Rd) (a b : Int) (w : World) (hv : RoadsIn w v l) (hl : l.length ≤ 1048576) :
    Calls Try.prog 28 #[.int .i64 n, v, .int .i64 a, .int .i64 b] w (Gives (.int .i64 (directOf n l a b)) w) := by
  have h1 := l1Find_any v l a b w hv hl
  have h2 := specValid_any n v l w hv hl
  obtain ⟨ad, cap, rfl, ha⟩ := hv
  have Ha := Lib.hid ha; clear ha
  have H1 := Lib.hid h1; clear h1
  have H2 := Lib.hid h2; clear h2
  cases hz : validR n l with
  | false =>
    have hd : directOf n l a b = -1 := by unfold directOf; rw [hz]; rfl
    have Hd := Lib.hid hd; clear hd
    have Hz := Lib.hid hz; rw [hz] at H2; clear hz
    go_enter Try.func28, Try.ntmps28
    go_wp2_with fail
    refine (H1.out).mono ?_
    rintro e w' ⟨h, rfl⟩
    rcases h with ⟨k, hk, _, _, _, rfl⟩ | ⟨_, _, rfl⟩
    · go_wp2_with fail
      refine (H2.out).mono ?_
      rintro e w' ⟨rfl, hb⟩
      go_wp2
      go_ret
      exact ⟨ret_int Hd.out.symm, hb⟩
    · go_wp2_with fail
      refine (H2.out).mono ?_
      rintro e w' ⟨rfl, hb⟩
      go_wp2
      go_ret
      exact ⟨ret_int Hd.out.symm, hb⟩
  | true =>
    have hd : directOf n l a b = (edge l a b).getD (-1) := by unfold directOf; rw [hz]; rfl
    have Hd := Lib.hid hd; clear hd
    have Hz := Lib.hid hz; rw [hz] at H2; clear hz
    go_enter Try.func28, Try.ntmps28
    go_wp2_with fail
    refine (H1.out).mono ?_
    rintro e w' ⟨h, rfl⟩
    rcases h with ⟨k, hk, _, he, _, rfl⟩ | ⟨he, _, rfl⟩
    · have He := Lib.hid he; clear he
      obtain ⟨bb, o, rfl, hb0, hrw⟩ := Ha.out (by intro h; simp [h] at hk)
      obtain ⟨_, _, c2⟩ := hrw k hk
      have Hrw := Lib.hid hrw; clear hrw
      have hx := getD_eq l hk
      have Hx := Lib.hid hx; clear hx
      go_wp2_with fail
      refine (H2.out).mono ?_
      rintro e w' ⟨rfl, hb⟩
      have c2' := keepCell hb c2
      generalize (l.getD k rd0).m = rm at *
      go_wp2
      go_ret
      exact ⟨ret_int (by rw [Hd.out, He.out]; rfl), hb⟩
    · have He := Lib.hid he; clear he
      go_wp2_with fail
      refine (H2.out).mono ?_
      rintro e w' ⟨rfl, hb⟩
      go_wp2
      go_ret
      exact ⟨ret_int (by rw [Hd.out, He.out]; rfl), hb⟩

set_option maxHeartbeats 400000 in
theorem direct2_any (n : Int) (v : Value) (l : List Rd) (a b : Int) (w : World) (hv : RoadsIn w v l) (hl : l.length ≤ 1048576) (hw : RdWf l) (wa : W64 a) (wb : W64 b) :
    Calls Try.prog 27 #[.int .i64 n, v, .int .i64 a, .int .i64 b] w (Gives (.int .i64 (directOf n l a b)) w) := by
  have hc := networkOf_any n v l w hv hl hw
  have Hc := Lib.hid hc; clear hc hv
  cases hz : validR n l with
  | true =>
    have hd : directOf n l a b = dirOf n (edge l) a b := by rw [dirOf_edge hz]; unfold directOf; rw [hz]; rfl
    have Hd := Lib.hid hd; clear hd
    have Hz := Lib.hid hz; clear hz
    go_enter Try.func27, Try.ntmps27
    go_wp2_with fail
    refine (Hc.out).mono ?_
    rintro e w1 ⟨h1, _⟩
    obtain ⟨nb, bs, cnt, rfl, hnet, _, _, _, hb⟩ := h1 Hz.out
    clear h1
    go_wp2_with fail
    refine (direct_any nb n bs cnt _ a b _ hnet wa wb).mono ?_
    rintro e w2 ⟨rfl, rfl⟩
    go_wp2
    go_ret
    exact ⟨ret_int Hd.out.symm, hb⟩
  | false =>
    have hd : directOf n l a b = -1 := by unfold directOf; rw [hz]; rfl
    have Hd := Lib.hid hd; clear hd
    have Hz := Lib.hid hz; clear hz
    go_enter Try.func27, Try.ntmps27
    go_wp2_with fail
    refine (Hc.out).mono ?_
    rintro e w1 ⟨_, h1⟩
    obtain ⟨rfl, hb⟩ := h1 Hz.out
    clear h1
    go_wp2
    go_ret
    exact ⟨ret_int Hd.out.symm, hb⟩

end Go.Proofs.Ytfdaaeapfeajjaa
