/- Is one outside? Which ends first of those behind a stop? (program) -/
import Derived.Test.YtlkhgnglblgldaaEQ
import Derived.Test.YtlkhgnglblgldaaEW
namespace Go.Proofs.Ytlkhgnglblgldaa
open Go.RowKit

theorem notIn_any (a b : Int) (m : Bool) (w : World) :
    Calls Try.prog 45 #[.agg #[.int .i64 a, .int .i64 b, .bool m]] w (Gives (.bool (!m)) w) := by
  have Hb := Lib.hid (((Below.refl w.heap.size w).alloc (Nat.le_refl _) (.cells #[.int .i64 a, .int .i64 b, .bool m] 31)))
  have c2 := news1 w #[.int .i64 a, .int .i64 b, .bool m] 31 2 _ rfl
  simp only [Addr.add, Nat.zero_add] at c2
  go_enter Try.func45, Try.ntmps45
  go_wp2
  go_ret
  exact ⟨rfl, Hb.out⟩

set_option maxRecDepth 100000 in
set_option maxHeartbeats 1000000 in
theorem idxNot_all (v : Value) (l : List Bk) (w : World) (hv : BkIn w v l) (hl : l.length ≤ 1048576) (hall : ∀ i, i < l.length → (l.getD i bk0).m = true) :
    Calls Try.prog 76 #[v, .func (.func 45) #[] #[]] w (Gives (.int .i64 (-1)) w) := by
  obtain ⟨a, cap, rfl, hcap, ha⟩ := hv
  clear hcap
  have Ha := Lib.hid ha; clear ha
  have HA := Lib.hid hall; clear hall
  go_enter Try.func76, Try.ntmps76
  go_wp2
  go_loopw [8] (fun i wr => ∃ k : Nat, k ≤ l.length ∧ i = .int .i64 k ∧ Below w.heap.size w wr) (fun i _ => l.length - (intOf i).toNat)
  case atStart => exact ⟨0, Nat.zero_le _, rfl, Below.refl _ _⟩
  case round =>
    obtain ⟨k, hk, rfl, hb⟩ := hrel
    by_cases hlt : k < l.length
    · have hk' : (k : Int) < (l.length : Int) := by omega
      have hk0 : (0 : Int) ≤ (k : Int) := Int.natCast_nonneg _
      obtain ⟨b, o, rfl, hb0, hrw⟩ := Ha.out (by intro h; simp [h] at hlt)
      obtain ⟨c0, c1, c2⟩ := (hrw.below hb hb0) k hlt
      have hm := HA.out k hlt
      have HB := Lib.hid hb; clear hb hrw
      generalize l.getD k bk0 = r at *
      obtain ⟨xa, xb, xm⟩ := r
      simp only at c0 c1 c2 hm
      subst hm
      go_wp2_with fail
      refine (notIn_any xa xb true _).mono ?_; rintro e w1 ⟨rfl, hb1⟩
      have HB1 := Lib.hid (HB.out.trans (hb1.mono HB.out.size)); clear hb1
      go_wp2
      exact ⟨⟨k + 1, hlt, by go_num, HB1.out⟩, by simp [intOf]; omega⟩
    · obtain rfl : k = l.length := by omega
      have HB := Lib.hid hb; clear hb
      go_wp2
      go_ret
      exact ⟨rfl, HB.out⟩

set_option maxRecDepth 100000 in
set_option maxHeartbeats 1000000 in
theorem idxNot_at (v : Value) (l : List Bk) (j : Nat) (w : World) (hv : BkIn w v l) (hl : l.length ≤ 1048576) (hj : j < l.length) (hm0 : (l.getD j bk0).m = false) (hall : ∀ i, i < j → (l.getD i bk0).m = true) :
    Calls Try.prog 76 #[v, .func (.func 45) #[] #[]] w (Gives (.int .i64 j) w) := by
  obtain ⟨a, cap, rfl, hcap, ha⟩ := hv
  clear hcap
  have Ha := Lib.hid ha; clear ha
  have HA := Lib.hid hall; clear hall
  have HM := Lib.hid hm0; clear hm0
  go_enter Try.func76, Try.ntmps76
  go_wp2
  go_loopw [8] (fun i wr => ∃ k : Nat, k ≤ j ∧ i = .int .i64 k ∧ Below w.heap.size w wr) (fun i _ => l.length - (intOf i).toNat)
  case atStart => exact ⟨0, Nat.zero_le _, rfl, Below.refl _ _⟩
  case round =>
    obtain ⟨k, hk, rfl, hb⟩ := hrel
    have hlt : k < l.length := by omega
    have hk' : (k : Int) < (l.length : Int) := by omega
    have hk0 : (0 : Int) ≤ (k : Int) := Int.natCast_nonneg _
    obtain ⟨b, o, rfl, hb0, hrw⟩ := Ha.out (by intro h; simp [h] at hlt)
    obtain ⟨c0, c1, c2⟩ := (hrw.below hb hb0) k hlt
    have HB := Lib.hid hb; clear hb hrw
    by_cases hkj : k < j
    · have hm := HA.out k hkj
      generalize l.getD k bk0 = r at *
      obtain ⟨xa, xb, xm⟩ := r
      simp only at c0 c1 c2 hm
      subst hm
      go_wp2_with fail
      refine (notIn_any xa xb true _).mono ?_; rintro e w1 ⟨rfl, hb1⟩
      have HB1 := Lib.hid (HB.out.trans (hb1.mono HB.out.size)); clear hb1
      go_wp2
      exact ⟨⟨k + 1, hkj, by go_num, HB1.out⟩, by simp [intOf]; omega⟩
    · obtain rfl : k = j := by omega
      have hm := HM.out
      generalize l.getD k bk0 = r at *
      obtain ⟨xa, xb, xm⟩ := r
      simp only at c0 c1 c2 hm
      subst hm
      go_wp2_with fail
      refine (notIn_any xa xb false _).mono ?_; rintro e w1 ⟨rfl, hb1⟩
      have HB1 := Lib.hid (HB.out.trans (hb1.mono HB.out.size)); clear hb1
      go_wp2
      go_ret
      exact ⟨rfl, HB1.out⟩

theorem firstNot {l : List Bk} : (∀ i, i < l.length → (l.getD i bk0).m = true) ∨ ∃ j, j < l.length ∧ (l.getD j bk0).m = false ∧ ∀ i, i < j → (l.getD i bk0).m = true := by
  have h : ∀ k, (∀ i, i < k → (l.getD i bk0).m = true) ∨ ∃ j, j < k ∧ (l.getD j bk0).m = false ∧ ∀ i, i < j → (l.getD i bk0).m = true := by
    intro k
    induction k with
    | zero => exact .inl fun i hi => by omega
    | succ k ih =>
      rcases ih with ih | ⟨j, h1, h2⟩
      · cases hm : (l.getD k bk0).m with
        | true =>
          refine .inl fun i hi => ?_
          by_cases e : i = k
          · rw [e]; exact hm
          · exact ih i (by omega)
        | false => exact .inr ⟨k, by omega, hm, ih⟩
      · exact .inr ⟨j, by omega, h2⟩
  exact h l.length

theorem hasNot_any (v : Value) (l : List Bk) (w : World) (hv : BkIn w v l) (hl : l.length ≤ 1048576) :
    Calls Try.prog 44 #[v, .func (.func 45) #[] #[]] w (Gives (.bool (!(l.all fun r => r.m))) w) := by
  rcases firstNot (l := l) with h | ⟨j, h1, h2, h3⟩
  · have e : (l.all fun r => r.m) = true := by
      rw [List.all_eq_true]; intro r hr
      obtain ⟨i, hi, rfl⟩ := List.getElem_of_mem hr
      have := h i hi; simpa [List.getD, hi] using this
    have HI := Lib.hid (idxNot_all v l w hv hl h)
    rw [e]; clear h e hv
    go_enter Try.func44, Try.ntmps44
    go_wp2_with fail
    refine HI.out.mono ?_; rintro e w1 ⟨rfl, hb1⟩
    go_wp2
    go_ret
    exact ⟨rfl, hb1⟩
  · have e : (l.all fun r => r.m) = false := by
      rw [List.all_eq_false]
      exact ⟨l[j], List.getElem_mem h1, by have := h2; simpa [List.getD, h1] using this⟩
    have HI := Lib.hid (idxNot_at v l j w hv hl h1 h2 h3)
    have hj0 : (0 : Int) ≤ (j : Int) := Int.natCast_nonneg _
    rw [e]; clear h1 h2 h3 e hv
    go_enter Try.func44, Try.ntmps44
    go_wp2_with fail
    refine HI.out.mono ?_; rintro e w1 ⟨rfl, hb1⟩
    go_wp2
    go_ret
    exact ⟨rfl, hb1⟩

end Go.Proofs.Ytlkhgnglblgldaa
