/- The model's StopsValid. -/
import Derived.Test.YtmkcnoaphoiiaaaSM
import Derived.WalkKit
import Derived.WalkSpells
import Derived.WalkLawsBesides
import Derived.IntWalk
import Derived.Deep.QuietTactic
import Derived.BigQuiet
import Derived.Outline
namespace Go.Proofs.Ytmkcnoaphoiiaaa
open Go.RowKit

theorem lastS_bd {n : Int} {l : List Rd} {k : Nat} (h : okToS n l k = true) : -1 ≤ lastS l k ∧ lastS l k ≤ 10000 := by
  cases k with
  | zero => exact ⟨by show (-1 : Int) ≤ -1; omega, by show (-1 : Int) ≤ 10000; omega⟩
  | succ j =>
    have := (fitsS_iff _ _).1 ((okS_iff _ _ _).1 (okToS_at h (show j < j + 1 by omega))).1
    show -1 ≤ (l.getD j rd0).m ∧ (l.getD j rd0).m ≤ 10000
    omega

def SvRel (n : Int) (l : List Rd) (w : World) (lv i : Value) (wr : World) : Prop := ∃ k : Nat, k ≤ l.length ∧ lv = .int .i64 (lastS l k) ∧ i = .int .i64 k ∧ okToS n l k = true ∧ Below w.heap.size w wr

def SiRel (l : List Rd) (i : Nat) (wr : World) (ra rm : Int) (v : Value) (wq : World) : Prop :=
  ∃ k : Nat, k ≤ i ∧ v = .int .i64 k ∧ newS l k ra = true ∧ Below wr.heap.size wr wq ∧ wq.cell? ⟨wr.heap.size, 0, none⟩ = some (.int .i64 ra) ∧ wq.cell? ⟨wr.heap.size, 2, none⟩ = some (.int .i64 rm) ∧ wr.heap.size < wq.heap.size

theorem newS_up (l : List Rd) (k : Nat) (t : Int) : newS l (k + 1) t = (newS l k t && decide ((l.getD k rd0).a ≠ t)) := by
  simp [newS, List.range_succ]

theorem newS_hit {l : List Rd} {k j : Nat} {t : Int} (hj : j < k) (h : (l.getD j rd0).a = t) : newS l k t = false := by
  rw [Bool.eq_false_iff]; intro h'; exact (newS_iff _ _ _).1 h' j hj h

set_option maxRecDepth 100000 in
set_option maxHeartbeats 1000000 in
theorem valid1_any (n : Int) (v : Value) (l : List Rd) (w : World) (hv : RoadsIn w v l) (hl : l.length ≤ 1048576) :
    Calls Try.prog 58 #[.int .i64 n, v] w (Gives (.bool (validS n l)) w) := by
  obtain ⟨a, cap, rfl, ha⟩ := hv
  by_cases hn : 1 ≤ n ∧ n ≤ 8
  · have hb : inB n 1 8 = true := (inB_iff _ _ _).2 hn
    by_cases h28 : (2 : Int) ≤ (l.length : Int) ∧ (l.length : Int) ≤ 8
    · have hb2 : inB (l.length : Int) 2 8 = true := (inB_iff _ _ _).2 h28
      have Ha := Lib.hid ha; clear ha
      obtain ⟨hn1, hn2⟩ := hn
      obtain ⟨l2, l8⟩ := h28
      go_enter Try.func58, Try.ntmps58
      go_wp2_with (go_at_call 59; refine (l6In_any _ _ _ _).mono ?_; rintro e w' ⟨rfl, rfl⟩)
      go_loopw [5, 6] (fun lv i wr => SvRel n l w lv i wr) (fun _ i _ => l.length - (intOf i).toNat)
      case atStart => exact ⟨0, Nat.zero_le _, rfl, rfl, rfl, Below.refl _ _⟩
      case round =>
        obtain ⟨k, hk, rfl, rfl, hok, hbel⟩ := hrel
        obtain ⟨la0, la1⟩ := lastS_bd hok
        have Hok := Lib.hid hok; clear hok
        by_cases hlt : k < l.length
        · obtain ⟨b, o, rfl, hb0, hrw⟩ := Ha.out (by intro h; simp [h] at hlt)
          have hrw1 := hrw.below hbel hb0
          have Hrw1 := Lib.hid hrw1
          obtain ⟨c0, c1, c2⟩ := hrw1 k hlt
          clear hrw1
          have Hrw := Lib.hid hrw; clear hrw
          have hbr : b < wr.heap.size := Nat.lt_of_lt_of_le hb0 hbel.size
          have hokS : okS n l k = (fitsS n (l.getD k rd0) && (decide (lastS l k < (l.getD k rd0).b) && newS l k (l.getD k rd0).a)) := by rw [← Bool.and_assoc]; rfl
          have hfit := fitsS_iff n (l.getD k rd0)
          have hlast : lastS l (k + 1) = (l.getD k rd0).m := rfl
          have hk0 : (0 : Int) ≤ (k : Int) := Int.natCast_nonneg _
          have hk1 : (k : Int) < (l.length : Int) := by omega
          generalize hga : (l.getD k rd0).a = ra at *
          generalize hgb : (l.getD k rd0).b = rb at *
          generalize hgm : (l.getD k rd0).m = rm at *
          generalize hgl : lastS l k = la at *
          have Hl := Lib.hid (show validS n l = false ∨ okS n l k = true by cases h : okS n l k with | true => exact .inr rfl | false => exact .inl (validS_no hlt h))
          have HokS := Lib.hid hokS; clear hokS
          have Hfit := Lib.hid hfit; clear hfit
          have Hlast := Lib.hid hlast; clear hlast
          clear hga hgb hgm hgl
          by_cases q1 : 0 ≤ ra ∧ ra ≤ n - 1
          · have p1 : inB ra 0 (n - 1) = true := (inB_iff _ _ _).2 q1
            obtain ⟨q1a, q1b⟩ := q1
            by_cases q2 : la + 1 ≤ rb ∧ rb ≤ 10000
            · have p2 : inB rb (la + 1) 10000 = true := (inB_iff _ _ _).2 q2
              obtain ⟨q2a, q2b⟩ := q2
              by_cases q3 : rb ≤ rm ∧ rm ≤ 10000
              · have p3 : inB rm rb 10000 = true := (inB_iff _ _ _).2 q3
                obtain ⟨q3a, q3b⟩ := q3
                have hk2 : okS n l k = newS l k ra := by
                  rw [HokS.out, (Hfit.out).2 (by omega), show decide (la < rb) = true by simp; omega]; rfl
                have Hk2 := Lib.hid hk2; clear hk2
                go_wp2_with (go_at_call 59; refine (l6In_any _ _ _ _).mono ?_; rintro e w' ⟨rfl, rfl⟩)
                obtain ⟨wo, rfl⟩ : ∃ wo : World, wo = wr := ⟨_, rfl⟩
                go_loopw [8] (fun i wq => SiRel l k wo ra rm i wq) (fun i _ => k - (intOf i).toNat)
                case atStart => exact ⟨0, Nat.zero_le _, rfl, rfl, (Below.refl _ _).alloc (Nat.le_refl _) _, by simp, by simp, by simp⟩
                case round =>
                  obtain ⟨j, hj, rfl, hns, hb2, e0, e2, hsz2⟩ := hrel
                  have Hns := Lib.hid hns; clear hns
                  by_cases hjk : j < k
                  · obtain ⟨d0, _, _⟩ := (Hrw1.out.below hb2 hbr) j (by omega)
                    have hj0 : (0 : Int) ≤ (j : Int) := Int.natCast_nonneg _
                    have hj1 : (j : Int) < (l.length : Int) := by omega
                    generalize hxa : (l.getD j rd0).a = xa at *
                    have Hxa := Lib.hid hxa; clear hxa
                    by_cases ea : (xa == ra) = true
                    · have hz : validS n l = false := by
                        rcases Hl.out with h | h
                        · exact h
                        · rw [Hk2.out, newS_hit hjk (by rw [Hxa.out]; simpa using ea)] at h; cases h
                      have Hz := Lib.hid hz; clear hz
                      go_wp2
                      go_quiet (fail)
                      go_wp2
                      go_ret
                      exact ⟨ret_bool Hz.out.symm, (hbel.trans (hb2.mono hbel.size)).drewN _⟩
                    · have ea' : (xa == ra) = false := by simpa using ea
                      clear ea
                      have hns2 : newS l (j + 1) ra = true := by rw [newS_up, Hns.out, Hxa.out]; simpa using ea'
                      have Hns2 := Lib.hid hns2; clear hns2
                      go_wp2
                      go_quiet (fail)
                      go_wp2
                      refine ⟨⟨j + 1, hjk, by go_num, Hns2.out, hb2.drewN _, e0, e2, hsz2⟩, by simp [intOf]; omega⟩
                  · obtain rfl : j = k := by omega
                    have hok2 : okToS n l (j + 1) = true := by rw [okToS_succ, Hok.out, Hk2.out, Hns.out]; rfl
                    have Hok2 := Lib.hid hok2; clear hok2
                    go_wp2
                    refine ⟨⟨j + 1, by omega, by rw [Hlast.out], by go_num, Hok2.out, hbel.trans (hb2.mono hbel.size)⟩, by simp [intOf]; omega⟩
              · have p3 : inB rm rb 10000 = false := by rw [Bool.eq_false_iff]; intro h; exact q3 ((inB_iff _ _ _).1 h)
                have hz : validS n l = false := by
                  rcases Hl.out with h | h
                  · exact h
                  · rw [HokS.out] at h; simp only [Bool.and_eq_true] at h; have := Hfit.out.1 h.1; omega
                have Hz := Lib.hid hz; clear hz q3
                go_wp2_with (go_at_call 59; refine (l6In_any _ _ _ _).mono ?_; rintro e w' ⟨rfl, rfl⟩)
                go_ret
                exact ⟨ret_bool Hz.out.symm, hbel.alloc hbel.size _⟩
            · have p2 : inB rb (la + 1) 10000 = false := by rw [Bool.eq_false_iff]; intro h; exact q2 ((inB_iff _ _ _).1 h)
              have hz : validS n l = false := by
                rcases Hl.out with h | h
                · exact h
                · rw [HokS.out] at h; simp only [Bool.and_eq_true, decide_eq_true_eq] at h; have := Hfit.out.1 h.1; omega
              have Hz := Lib.hid hz; clear hz q2
              go_wp2_with (go_at_call 59; refine (l6In_any _ _ _ _).mono ?_; rintro e w' ⟨rfl, rfl⟩)
              go_ret
              exact ⟨ret_bool Hz.out.symm, hbel.alloc hbel.size _⟩
          · have p1 : inB ra 0 (n - 1) = false := by rw [Bool.eq_false_iff]; intro h; exact q1 ((inB_iff _ _ _).1 h)
            have hz : validS n l = false := by
              rcases Hl.out with h | h
              · exact h
              · rw [HokS.out] at h; simp only [Bool.and_eq_true] at h; have := Hfit.out.1 h.1; omega
            have Hz := Lib.hid hz; clear hz q1
            go_wp2_with (go_at_call 59; refine (l6In_any _ _ _ _).mono ?_; rintro e w' ⟨rfl, rfl⟩)
            go_ret
            exact ⟨ret_bool Hz.out.symm, hbel.alloc hbel.size _⟩
        · obtain rfl : k = l.length := by omega
          have hz := validS_yes ⟨hn1, hn2, by omega, by omega⟩ Hok.out
          have Hz := Lib.hid hz; clear hz
          go_wp2
          go_ret
          exact ⟨ret_bool Hz.out.symm, hbel⟩
    · have hb2 : inB (l.length : Int) 2 8 = false := by rw [Bool.eq_false_iff]; intro h; exact h28 ((inB_iff _ _ _).1 h)
      have hz := validS_small (n := n) (l := l) (by omega)
      have Hz := Lib.hid hz; clear hz
      have Ha := Lib.hid ha; clear ha h28
      obtain ⟨hn1, hn2⟩ := hn
      go_enter Try.func58, Try.ntmps58
      go_wp2_with (go_at_call 59; refine (l6In_any _ _ _ _).mono ?_; rintro e w' ⟨rfl, rfl⟩)
      go_ret
      exact ⟨ret_bool Hz.out.symm, Below.refl _ _⟩
  · have hb : inB n 1 8 = false := by rw [Bool.eq_false_iff]; intro h; exact hn ((inB_iff _ _ _).1 h)
    have hz := validS_small (n := n) (l := l) (by omega)
    have Hz := Lib.hid hz; clear hz
    have Ha := Lib.hid ha; clear ha
    have Hn := Lib.hid hn; clear hn
    go_enter Try.func58, Try.ntmps58
    go_wp2_with (go_at_call 59; refine (l6In_any _ _ _ _).mono ?_; rintro e w' ⟨rfl, rfl⟩)
    go_ret
    exact ⟨ret_bool Hz.out.symm, Below.refl _ _⟩

end Go.Proofs.Ytmkcnoaphoiiaaa
