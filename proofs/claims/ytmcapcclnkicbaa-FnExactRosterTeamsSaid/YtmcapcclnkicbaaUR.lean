/- RosterTeams, model and program. -/
import Derived.Test.YtmcapcclnkicbaaUN
namespace Go.Proofs.Ytmcapcclnkicbaa
open Go.RowKit

/-- None of the first j is as the i-th. -/
def freshTo (r : List Int) (i j : Nat) : Bool := (List.range j).all fun k => decide (r.getD k 0 ≠ r.getD i 0)
def diffTo (r : List Int) : Nat → Nat
  | 0 => 0
  | i + 1 => diffTo r i + if freshTo r i i = true then 1 else 0
def usedB (r : List Int) (j : Nat) (t : Nat) : Bool := (List.range j).any fun k => decide (r.getD k 0 = (t : Int))
def teamsV (l : List Rn) (rest : Int) (r : List Int) : Int := if rosU l rest r = true then (diffTo r r.length : Nat) else -1

theorem freshTo_succ (r : List Int) (i j : Nat) : freshTo r i (j + 1) = (freshTo r i j && decide (r.getD j 0 ≠ r.getD i 0)) := by simp [freshTo, List.range_succ]
theorem diffTo_le (r : List Int) : ∀ i, diffTo r i ≤ i
  | 0 => Nat.le_refl _
  | i + 1 => by have := diffTo_le r i; unfold diffTo; split <;> omega

theorem count_or (p : Nat → Bool) (n : Nat) : ∀ N, (List.range N).countP (fun t => p t || decide (t = n)) = (List.range N).countP p + if n < N ∧ p n = false then 1 else 0
  | 0 => by simp
  | N + 1 => by
    rw [List.range_succ, List.countP_append, List.countP_append, count_or p n N]
    simp only [List.countP_cons, List.countP_nil, Nat.zero_add]
    by_cases e : N = n
    · subst e
      cases hp : p N <;> simp [hp]
    · cases hp : p n <;> cases hq : p N <;> simp [e, hp] <;> (split <;> split <;> omega)

theorem usedB_succ (r : List Int) (j : Nat) (t : Nat) : usedB r (j + 1) t = (usedB r j t || decide (r.getD j 0 = (t : Int))) := by simp [usedB, List.range_succ]

theorem used_count {r : List Int} : ∀ (j : Nat), (∀ k, k < j → 0 ≤ r.getD k 0 ∧ r.getD k 0 < 12) → (List.range 12).countP (usedB r j) = diffTo r j
  | 0, _ => by
    have : usedB r 0 = fun _ => false := by funext t; simp [usedB]
    rw [this]; simp [diffTo]
  | j + 1, h => by
    have ih := used_count j (fun k hk => h k (by omega))
    obtain ⟨h0, h1⟩ := h j (by omega)
    obtain ⟨n, hn⟩ : ∃ n : Nat, r.getD j 0 = (n : Int) := ⟨(r.getD j 0).toNat, by omega⟩
    have e : usedB r (j + 1) = fun t => usedB r j t || decide (t = n) := by
      funext t
      rw [usedB_succ, hn]
      congr 1
      rw [Bool.eq_iff_iff, decide_eq_true_eq, decide_eq_true_eq]
      omega
    rw [e, count_or, ih]
    show _ = diffTo r j + if freshTo r j j = true then 1 else 0
    have e2 : freshTo r j j = !(usedB r j n) := by
      unfold freshTo usedB
      rw [hn, Bool.eq_iff_iff]
      simp
    rw [e2]
    have hn12 : n < 12 := by omega
    cases usedB r j n <;> simp [hn12]

theorem min_used {l : List Rn} {r : List Int} (hz : validU l = true) (t : Nat) : ∀ (j : Nat), j ≤ l.length → (0 < minTo l r (t : Int) j ↔ usedB r j t = true)
  | 0, _ => by simp [minTo, usedB]
  | j + 1, hj => by
    have ih := min_used (r := r) hz t j (by omega)
    have hb := minTo_bd (r := r) hz (t : Int) j (by omega)
    have h3 := validU_at hz (show j < l.length by omega)
    rw [usedB_succ, Bool.or_eq_true, decide_eq_true_eq, ← ih]
    show 0 < (minTo l r (t : Int) j + if r.getD j 0 = (t : Int) then (l.getD j rn0).b - (l.getD j rn0).a else 0) ↔ _
    by_cases e : r.getD j 0 = (t : Int)
    · rw [if_pos e]; simp only [e, or_true, iff_true]; omega
    · rw [if_neg e]; simp only [e, or_false]; omega

/-- Of the first j teams, those with minutes. -/
def posTo (l : List Rn) (r : List Int) (j : Nat) : Nat := (List.range j).countP fun (t : Nat) => decide (0 < minTo l r (t : Int) r.length)
theorem posTo_succ (l : List Rn) (r : List Int) (j : Nat) : posTo l r (j + 1) = posTo l r j + if 0 < minTo l r (j : Int) r.length then 1 else 0 := by
  unfold posTo; rw [List.range_succ, List.countP_append]; congr 1; simp [List.countP_cons]
theorem posTo_le (l : List Rn) (r : List Int) (j : Nat) : posTo l r j ≤ j := by
  unfold posTo
  have := List.countP_le_length (p := fun t : Nat => decide (0 < minTo l r (t : Int) r.length)) (l := List.range j)
  simpa using this
theorem pos_diff {l : List Rn} {rest : Int} {r : List Int} (h : rosU l rest r = true) : posTo l r 12 = diffTo r r.length := by
  obtain ⟨h1, h2, h3⟩ := rosU_iff.1 h
  have hz := (okR_parts.1 h1).1
  rw [← used_count r.length (fun k hk => by have := okT_iff.1 (okTTo_at h3 hk); exact ⟨this.1, this.2.1⟩)]
  unfold posTo
  congr 1
  funext t
  rw [Bool.eq_iff_iff, decide_eq_true_eq]
  exact min_used hz t r.length (by omega)

def DfRel (r : List Int) (w : World) (nv iv : Value) (wr : World) : Prop := ∃ i : Nat, i ≤ r.length ∧ nv = .int .i64 (diffTo r i : Nat) ∧ iv = .int .i64 i ∧ Drewn w wr
def DkRel (r : List Int) (i : Nat) (w : World) (fv kv : Value) (wr : World) : Prop := ∃ k : Nat, k ≤ i ∧ fv = .bool (freshTo r i k) ∧ kv = .int .i64 k ∧ Drewn w wr

set_option maxRecDepth 100000 in
set_option maxHeartbeats 1000000 in
theorem diff_any (v : Value) (r : List Int) (w : World) (hr : IntsIn w v r) (hlr : r.length ≤ 1048576) :
    Calls Try.prog 57 #[v] w (Quiet (.int .i64 (diffTo r r.length : Nat)) w) := by
  obtain ⟨ar, capr, rfl, hcapr, har⟩ := hr
  clear hcapr
  have Har := Lib.hid har; clear har
  go_enter Try.func57, Try.ntmps57
  go_wp2
  go_loopw [3, 4] (fun nv iv wr => DfRel r w nv iv wr) (fun _ i _ => r.length - (intOf i).toNat)
  case atStart => exact ⟨0, Nat.zero_le _, rfl, rfl, Drewn.refl w⟩
  case round =>
    obtain ⟨i, hi, rfl, rfl, hw⟩ := hrel
    have HW := Lib.hid hw; clear hw
    have hdl := diffTo_le r i
    by_cases hlt : i < r.length
    · have hi0 : (0 : Int) ≤ (i : Int) := Int.natCast_nonneg _
      have hi1 : (i : Int) < (r.length : Int) := by omega
      obtain ⟨br, or', rfl, hbr0, hri⟩ := Har.out (by rintro rfl; simp at hlt)
      have Hri := Lib.hid hri; clear hri
      have Hd := Lib.hid (show diffTo r (i + 1) = diffTo r i + if freshTo r i i = true then 1 else 0 from rfl)
      obtain ⟨wo, rfl⟩ : ∃ wo : World, wo = wr := ⟨_, rfl⟩
      generalize diffTo r i = n at *
      go_wp2
      go_loopw [5, 6] (fun fv kv wr => DkRel r i w fv kv wr) (fun _ k _ => i - (intOf k).toNat)
      case atStart => exact ⟨0, Nat.zero_le _, rfl, rfl, HW.out⟩
      case round =>
        obtain ⟨k, hk, rfl, rfl, hw⟩ := hrel
        have HW2 := Lib.hid hw; clear hw
        by_cases hlk : k < i
        · have hk0 : (0 : Int) ≤ (k : Int) := Int.natCast_nonneg _
          have hk1 : (k : Int) < (r.length : Int) := by omega
          have hki : (k : Int) < (i : Int) := by omega
          have d0 := (Hri.out.below HW2.out.below hbr0) k (by omega)
          have d1 := (Hri.out.below HW2.out.below hbr0) i hlt
          have Hf := Lib.hid (freshTo_succ r i k)
          generalize r.getD k 0 = x at *
          generalize r.getD i 0 = y at *
          generalize freshTo r i k = f at *
          cases f with
          | true =>
            by_cases q : x = y
            · have hq : (x != y) = false := by simpa using q
              have Hf2 := Lib.hid (show freshTo r i (k + 1) = false by rw [Hf.out]; simp [q])
              clear q
              go_wp2
              go_quiet (fail)
              go_wp2
              exact ⟨⟨k + 1, hlk, by rw [Hf2.out], by go_num, HW2.out.drewN _⟩, by simp [intOf]; omega⟩
            · have hq : (x != y) = true := by simpa using q
              have Hf2 := Lib.hid (show freshTo r i (k + 1) = true by rw [Hf.out]; simp [q])
              clear q
              go_wp2
              go_quiet (fail)
              go_wp2
              exact ⟨⟨k + 1, hlk, by rw [Hf2.out], by go_num, HW2.out.drewN _⟩, by simp [intOf]; omega⟩
          | false =>
            have Hf2 := Lib.hid (show freshTo r i (k + 1) = false by rw [Hf.out]; rfl)
            go_wp2
            go_quiet (fail)
            go_wp2
            exact ⟨⟨k + 1, hlk, by rw [Hf2.out], by go_num, HW2.out.drewN _⟩, by simp [intOf]; omega⟩
        · obtain rfl : k = i := by omega
          have Hlt := Lib.hid hlt
          cases hf : freshTo r k k with
          | true =>
            have Hd2 := Lib.hid (show diffTo r (k + 1) = n + 1 by rw [Hd.out, if_pos hf])
            clear hf
            go_wp2
            exact ⟨⟨k + 1, Hlt.out, by rw [Hd2.out]; go_num, by go_num, HW2.out⟩, by simp [intOf]; omega⟩
          | false =>
            have Hd2 := Lib.hid (show diffTo r (k + 1) = n by rw [Hd.out, if_neg (by rw [hf]; simp)]; omega)
            clear hf
            go_wp2
            exact ⟨⟨k + 1, Hlt.out, by rw [Hd2.out], by go_num, HW2.out⟩, by simp [intOf]; omega⟩
    · obtain rfl : i = r.length := by omega
      go_wp2
      go_ret
      exact ⟨rfl, HW.out⟩

set_option maxHeartbeats 400000 in
theorem teams1_any (v vr : Value) (l : List Rn) (r : List Int) (rest : Int) (w : World) (hv : RnIn w v l) (hr : IntsIn w vr r) (hl : l.length ≤ 1048576) (hlr : r.length ≤ 1048576) :
    Calls Try.prog 29 #[v, .int .i64 rest, vr] w (Gives (.int .i64 (teamsV l rest r)) w) := by
  have Hok := Lib.hid (roster1_any v vr l r rest w hv hr hl hlr)
  have Hd := Lib.hid (fun w' (h : Drewn w w') => diff_any vr r w' (hr.below h.below) hlr)
  clear hv hr
  cases hz : rosU l rest r with
  | true =>
    have Ht := Lib.hid (show teamsV l rest r = (diffTo r r.length : Nat) from if_pos hz)
    have Hz := Lib.hid hz; clear hz
    go_enter Try.func29, Try.ntmps29
    go_wp2_with fail
    refine (Hok.out).mono ?_; rintro e w1 ⟨rfl, hw1⟩
    rw [Hz.out]
    go_wp2_with fail
    refine (Hd.out _ hw1).mono ?_; rintro e w2 ⟨rfl, hw2⟩
    have HW := Lib.hid (Drewn.below (Drewn.trans hw1 hw2))
    go_wp2
    go_ret
    exact ⟨ret_int Ht.out.symm, HW.out⟩
  | false =>
    have Ht := Lib.hid (show teamsV l rest r = -1 from if_neg (by rw [hz]; simp))
    have Hz := Lib.hid hz; clear hz
    go_enter Try.func29, Try.ntmps29
    go_wp2_with fail
    refine (Hok.out).mono ?_; rintro e w1 ⟨rfl, hw1⟩
    rw [Hz.out]
    have HW := Lib.hid (Drewn.below hw1)
    go_wp2
    go_ret
    exact ⟨ret_int Ht.out.symm, HW.out⟩

def PsRel (l : List Rn) (r : List Int) (w : World) (nv iv : Value) (wr : World) : Prop := ∃ j : Nat, j ≤ 12 ∧ nv = .int .i64 (posTo l r j : Nat) ∧ iv = .int .i64 j ∧ Below w.heap.size w wr ∧ wr = w

set_option maxRecDepth 100000 in
set_option maxHeartbeats 1000000 in
theorem teams2_any (v vr : Value) (l : List Rn) (r : List Int) (rest : Int) (w : World) (hv : RnIn w v l) (hr : IntsIn w vr r) (hl : l.length ≤ 1048576) (hlr : r.length ≤ 1048576) :
    Calls Try.prog 30 #[v, .int .i64 rest, vr] w (Gives (.int .i64 (teamsV l rest r)) w) := by
  have Hm := Lib.hid (minutes2_any v vr l r rest w hv hr hl hlr)
  clear hv hr
  cases hz : rosU l rest r with
  | true =>
    have Ht := Lib.hid (show teamsV l rest r = (posTo l r 12 : Nat) by rw [pos_diff hz]; exact if_pos hz)
    have Hml := Lib.hid (show minutesL l rest r = minL l r r.length from if_pos hz)
    have Hz := Lib.hid hz; clear hz
    go_enter Try.func30, Try.ntmps30
    go_wp2_with fail
    refine (Hm.out).mono ?_; rintro e w1 ⟨ad, cap, rfl, _, hown, _, hb⟩
    rw [Hz.out]
    rw [Hml.out] at hown ⊢
    obtain ⟨b, rfl, hbl, hia, _⟩ := hown (by intro h; have := minL_len l r r.length; rw [h] at this; simp at this)
    rw [minL_len]
    have Hia := Lib.hid hia; clear hia hown
    go_wp2
    go_loopw [9, 23] (fun nv iv wr => PsRel l r w1 nv iv wr) (fun _ i _ => 12 - (intOf i).toNat)
    case atStart => exact ⟨0, Nat.zero_le _, rfl, rfl, Below.refl _ _, rfl⟩
    case round =>
      obtain ⟨j, hj, rfl, rfl, hbel, rfl⟩ := hrel
      by_cases hlt : j < 12
      · have hj0 : (0 : Int) ≤ (j : Int) := Int.natCast_nonneg _
        have hj1 : (j : Int) < 12 := by omega
        have d0 := Hia.out j (by rw [minL_len]; exact hlt)
        rw [minL_at hlt, Nat.zero_add] at d0
        have hs := posTo_succ l r j
        have hpl := posTo_le l r j
        generalize minTo l r (j : Int) r.length = x at *
        generalize posTo l r j = n at *
        by_cases q : 0 < x
        · rw [if_pos q] at hs
          have Hs := Lib.hid hs; clear hs
          have hd : decide (0 < x) = true := by simpa using q
          go_wp2
          exact ⟨⟨j + 1, hlt, by rw [Hs.out]; go_num, by go_num, hbel, rfl⟩, by simp [intOf]; omega⟩
        · rw [if_neg q] at hs
          have Hs := Lib.hid hs; clear hs
          have hd : decide (0 < x) = false := by simpa using q
          clear q
          go_wp2
          exact ⟨⟨j + 1, hlt, by rw [Hs.out]; go_num, by go_num, hbel, rfl⟩, by simp [intOf]; omega⟩
      · obtain rfl : j = 12 := by omega
        go_wp2
        go_ret
        exact ⟨ret_int Ht.out.symm, hb⟩
  | false =>
    have Ht := Lib.hid (show teamsV l rest r = -1 from if_neg (by rw [hz]; simp))
    have Hz := Lib.hid hz; clear hz
    go_enter Try.func30, Try.ntmps30
    go_wp2_with fail
    refine (Hm.out).mono ?_; rintro e w1 ⟨ad, cap, rfl, _, _, _, hb⟩
    rw [Hz.out]
    go_wp2
    go_ret
    exact ⟨ret_int Ht.out.symm, hb⟩

end Go.Proofs.Ytmcapcclnkicbaa
