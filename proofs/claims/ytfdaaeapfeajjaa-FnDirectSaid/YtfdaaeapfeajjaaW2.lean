/- The model's RoadsValid. -/
import Derived.Test.YtfdaaeapfeajjaaRows
import Derived.Test.YtfdaaeapfeajjaaM
import Derived.WalkKit
import Derived.WalkSpells
import Derived.WalkLawsBesides
import Derived.Lib.Hide
import Derived.IntWalk
import Derived.Deep.QuietTactic
import Derived.BigQuiet
import Derived.Deep.RegionHeld3
import Derived.Laws.MakeOwn
namespace Go.Proofs.Ytfdaaeapfeajjaa
open Go.RowKit

def inB (x lo hi : Int) : Bool := decide (lo ≤ x) && decide (x ≤ hi)

theorem inB_iff (x lo hi : Int) : inB x lo hi = true ↔ lo ≤ x ∧ x ≤ hi := by simp [inB]

set_option maxHeartbeats 400000 in
theorem l6In_any (x lo hi : Int) (w : World) :
    Calls Try.prog 45 #[.int .i64 x, .int .i64 lo, .int .i64 hi] w fun e w' => e = .returned (.bool (inB x lo hi)) ∧ w = w' := by
  by_cases h1 : lo ≤ x
  · go_enter Try.func45, Try.ntmps45
    go_wp2
    go_ret
    exact ⟨ret_bool (by simp [inB, h1]), rfl⟩
  · go_enter Try.func45, Try.ntmps45
    go_wp2
    go_ret
    exact ⟨ret_bool (by simp [inB]; omega), rfl⟩

/-- The inner loop: no road before the i-th is of the same towns, so far. -/
def noSame (l : List Rd) (i k : Nat) : Prop := ∀ j, j < k → same (l.getD j rd0) (l.getD i rd0) = false

theorem okAt_of {n : Int} {l : List Rd} {i : Nat} (hi : i < l.length) (h1 : fits n (l.getD i rd0) = true) (h2 : noSame l i i) : okAt n l i = true := by
  rw [okAt_iff]
  refine ⟨h1, fun s hs => ?_⟩
  obtain ⟨j, hj, rfl⟩ := List.getElem_of_mem hs
  simp only [List.length_take] at hj
  have := h2 j (by omega)
  simpa [List.getD, show j < l.length by omega] using this

theorem okAt_no {n : Int} {l : List Rd} {i k : Nat} (hi : i < l.length) (hk : k < i) (h : same (l.getD k rd0) (l.getD i rd0) = true) : okAt n l i = false := by
  rw [Bool.eq_false_iff]
  intro h'
  have := ((okAt_iff n l i).1 h').2 (l.getD k rd0) (by rw [List.mem_iff_getElem]; exact ⟨k, by simp; omega, by simp [List.getD, show k < l.length by omega]⟩)
  rw [h] at this; cases this

theorem validR_no {n : Int} {l : List Rd} {i : Nat} (hi : i < l.length) (h : okAt n l i = false) : validR n l = false := by
  rw [Bool.eq_false_iff]
  intro h'
  simp only [validR, Bool.and_eq_true] at h'
  rw [okTo_at n l h'.2 hi] at h; cases h

theorem validR_small {n : Int} {l : List Rd} (h : ¬ (1 ≤ n ∧ n ≤ 8 ∧ l.length ≤ 16)) : validR n l = false := by
  rw [Bool.eq_false_iff]
  intro h'
  simp only [validR, Bool.and_eq_true, decide_eq_true_eq] at h'
  exact h ⟨h'.1.1.1, h'.1.1.2, h'.1.2⟩

theorem validR_yes {n : Int} {l : List Rd} (h : 1 ≤ n ∧ n ≤ 8 ∧ l.length ≤ 16) (h' : okTo n l l.length = true) : validR n l = true := by
  simp [validR, h, h']

def ValRel (n : Int) (l : List Rd) (w : World) (i : Value) (wr : World) : Prop := ∃ k : Nat, k ≤ l.length ∧ i = .int .i64 k ∧ okTo n l k = true ∧ Below w.heap.size w wr

def InRel (l : List Rd) (i : Nat) (wr : World) (ra rb : Int) (_rm : Int) (v : Value) (wq : World) : Prop :=
  ∃ k : Nat, k ≤ i ∧ v = .int .i64 k ∧ noSame l i k ∧ Below wr.heap.size wr wq ∧ wq.cell? ⟨wr.heap.size, 0, none⟩ = some (.int .i64 ra) ∧ wq.cell? ⟨wr.heap.size, 1, none⟩ = some (.int .i64 rb) ∧ wr.heap.size < wq.heap.size

set_option maxHeartbeats 400000 in
theorem specValid_big (n : Int) (v : Value) (l : List Rd) (w : World) (hv : RoadsIn w v l) (hl : l.length ≤ 1048577) :
    Calls Try.prog 57 #[.int .i64 n, v] w (Gives (.bool (validR n l)) w) := by
  by_cases hn : 1 ≤ n ∧ n ≤ 8
  · have hb : inB n 1 8 = true := by rw [inB_iff]; exact hn
    obtain ⟨a, cap, rfl, ha⟩ := hv
    by_cases h16 : l.length ≤ 16
    · have Ha := Lib.hid ha; clear ha
      obtain ⟨hn1, hn2⟩ := hn
      have Hb := Lib.hid hb
      go_enter Try.func57, Try.ntmps57
      go_wp2_with (go_at_call 45; refine (l6In_any _ _ _ _).mono ?_; rintro e w' ⟨rfl, rfl⟩)
      go_loopw [5] (fun i wr => ValRel n l w i wr) (fun i _ => l.length - (intOf i).toNat)
      case atStart => exact ⟨0, Nat.zero_le _, rfl, rfl, Below.refl _ _⟩
      case round =>
        obtain ⟨k, hk, rfl, hok, hbel⟩ := hrel
        have Hok := Lib.hid hok; clear hok
        by_cases hlt : k < l.length
        · obtain ⟨b, o, rfl, hb0, hrw⟩ := Ha.out (by intro h; simp [h] at hlt)
          have hrw1 := hrw.below hbel hb0
          have Hrw1 := Lib.hid hrw1
          obtain ⟨c0, c1, c2⟩ := hrw1 k hlt
          clear hrw1
          have Hrw := Lib.hid hrw; clear hrw
          have hbr : b < wr.heap.size := Nat.lt_of_lt_of_le hb0 hbel.size
          by_cases hf : fits n (l.getD k rd0) = true
          · have hf' := (fits_iff _ _).1 hf
            have hsame : ∀ j, same (l.getD j rd0) (l.getD k rd0) = (decide ((l.getD j rd0).a = (l.getD k rd0).a) && decide ((l.getD j rd0).b = (l.getD k rd0).b)) := fun j => rfl
            have Hsame := Lib.hid hsame; clear hsame
            have Hf := Lib.hid hf; clear hf
            generalize hga : (l.getD k rd0).a = ra at *
            generalize hgb : (l.getD k rd0).b = rb at *
            generalize hgm : (l.getD k rd0).m = rm at *
            clear hga hgb hgm
            obtain ⟨f1, f2, f3, f4, f5⟩ := hf'
            have p1 : inB ra 0 (n - 1) = true := (inB_iff _ _ _).2 (by omega)
            have p2 : inB rb (ra + 1) (n - 1) = true := (inB_iff _ _ _).2 (by omega)
            have p3 : inB rm 1 99 = true := (inB_iff _ _ _).2 (by omega)
            go_wp2_with (go_at_call 45; refine (l6In_any _ _ _ _).mono ?_; rintro e w' ⟨rfl, rfl⟩)
            obtain ⟨wo, rfl⟩ : ∃ wo : World, wo = wr := ⟨_, rfl⟩
            go_loopw [7] (fun i wq => InRel l k wo ra rb rm i wq) (fun i _ => k - (intOf i).toNat)
            case atStart => exact ⟨0, Nat.zero_le _, rfl, fun j hj => by omega, (Below.refl _ _).alloc (Nat.le_refl _) _, by simp, by simp, by simp⟩
            case round =>
              obtain ⟨j, hj, rfl, hns, hb2, e0, e1, hsz2⟩ := hrel
              have Hns := Lib.hid hns; clear hns
              by_cases hjk : j < k
              · obtain ⟨d0, d1, _⟩ := (Hrw1.out.below hb2 hbr) j (by omega)
                have hs := Hsame.out j
                have hj0 : (0 : Int) ≤ (j : Int) := Int.natCast_nonneg _
                have hj1 : (j : Int) < (l.length : Int) := by omega
                generalize (l.getD j rd0).a = xa at *
                generalize (l.getD j rd0).b = xb at *
                have Hs := Lib.hid hs; clear hs
                by_cases ea : (xa == ra) = true
                · by_cases eb : (xb == rb) = true
                  · have hz := validR_no (n := n) hlt (okAt_no hlt hjk (by rw [Hs.out, beq_iff_eq.1 ea, beq_iff_eq.1 eb]; simp))
                    have Hz := Lib.hid hz; clear hz
                    go_wp2
                    go_quiet (fail)
                    go_wp2
                    go_ret
                    exact ⟨ret_bool Hz.out.symm, (hbel.trans (hb2.mono hbel.size)).drewN _⟩
                  · have eb' : (xb == rb) = false := by simpa using eb
                    clear eb
                    have hns2 : noSame l k (j + 1) := fun i hi => by
                      by_cases hij : i = j
                      · subst hij; rw [Hs.out]; simp; intro _; simpa using eb'
                      · exact Hns.out i (by omega)
                    have Hns2 := Lib.hid hns2; clear hns2
                    go_wp2
                    go_quiet (fail)
                    go_wp2
                    refine ⟨⟨j + 1, hjk, by go_num, Hns2.out, hb2.drewN _, e0, e1, hsz2⟩, by simp [intOf]; omega⟩
                · have ea' : (xa == ra) = false := by simpa using ea
                  clear ea
                  have hns2 : noSame l k (j + 1) := fun i hi => by
                    by_cases hij : i = j
                    · subst hij; rw [Hs.out]; simp; intro h; simp [h] at ea'
                    · exact Hns.out i (by omega)
                  have Hns2 := Lib.hid hns2; clear hns2
                  go_wp2
                  go_quiet (fail)
                  go_wp2
                  refine ⟨⟨j + 1, hjk, by go_num, Hns2.out, hb2.drewN _, e0, e1, hsz2⟩, by simp [intOf]; omega⟩
              · obtain rfl : j = k := by omega
                have hok2 : okTo n l (j + 1) = true := by rw [okTo_succ, Hok.out, okAt_of hlt Hf.out Hns.out]; rfl
                have Hok2 := Lib.hid hok2; clear hok2
                go_wp2
                refine ⟨⟨j + 1, hlt, by go_num, Hok2.out, hbel.trans (hb2.mono hbel.size)⟩, by simp [intOf]; omega⟩
          · have hz := validR_no (n := n) hlt (by rw [Bool.eq_false_iff]; intro h; exact hf ((okAt_iff n l k).1 h).1)
            have Hz := Lib.hid hz; clear hz
            rw [fits_iff] at hf
            generalize (l.getD k rd0).a = ra at *
            generalize (l.getD k rd0).b = rb at *
            generalize (l.getD k rd0).m = rm at *
            by_cases q1 : 0 ≤ ra ∧ ra ≤ n - 1
            · have p1 : inB ra 0 (n - 1) = true := (inB_iff _ _ _).2 q1
              obtain ⟨q1a, q1b⟩ := q1
              by_cases q2 : ra + 1 ≤ rb ∧ rb ≤ n - 1
              · have p2 : inB rb (ra + 1) (n - 1) = true := (inB_iff _ _ _).2 q2
                have p3 : inB rm 1 99 = false := by rw [Bool.eq_false_iff]; intro h; have := (inB_iff _ _ _).1 h; omega
                clear hf q2
                go_wp2_with (go_at_call 45; refine (l6In_any _ _ _ _).mono ?_; rintro e w' ⟨rfl, rfl⟩)
                go_ret
                exact ⟨ret_bool Hz.out.symm, hbel.alloc hbel.size _⟩
              · have p2 : inB rb (ra + 1) (n - 1) = false := by rw [Bool.eq_false_iff]; intro h; have := (inB_iff _ _ _).1 h; omega
                clear hf q2
                go_wp2_with (go_at_call 45; refine (l6In_any _ _ _ _).mono ?_; rintro e w' ⟨rfl, rfl⟩)
                go_ret
                exact ⟨ret_bool Hz.out.symm, hbel.alloc hbel.size _⟩
            · have p1 : inB ra 0 (n - 1) = false := by rw [Bool.eq_false_iff]; intro h; have := (inB_iff _ _ _).1 h; omega
              clear hf q1
              go_wp2_with (go_at_call 45; refine (l6In_any _ _ _ _).mono ?_; rintro e w' ⟨rfl, rfl⟩)
              go_ret
              exact ⟨ret_bool Hz.out.symm, hbel.alloc hbel.size _⟩
        · obtain rfl : k = l.length := by omega
          have hz := validR_yes ⟨hn1, hn2, h16⟩ Hok.out
          have Hz := Lib.hid hz; clear hz
          go_wp2
          go_ret
          exact ⟨ret_bool Hz.out.symm, hbel⟩
    · have hz := validR_small (n := n) (l := l) (by omega)
      have Hz := Lib.hid hz; clear hz
      have Ha := Lib.hid ha; clear ha
      go_enter Try.func57, Try.ntmps57
      go_wp2_with (go_at_call 45; refine (l6In_any _ _ _ _).mono ?_; rintro e w' ⟨rfl, rfl⟩)
      go_ret
      exact ⟨ret_bool Hz.out.symm, Below.refl _ _⟩
  · have hb : inB n 1 8 = false := by rw [Bool.eq_false_iff]; intro h; exact hn ((inB_iff _ _ _).1 h)
    obtain ⟨a, cap, rfl, ha⟩ := hv
    have hz := validR_small (n := n) (l := l) (by omega)
    have Hz := Lib.hid hz; clear hz
    have Ha := Lib.hid ha; clear ha
    have Hn := Lib.hid hn; clear hn
    go_enter Try.func57, Try.ntmps57
    go_wp2_with (go_at_call 45; refine (l6In_any _ _ _ _).mono ?_; rintro e w' ⟨rfl, rfl⟩)
    go_ret
    exact ⟨ret_bool Hz.out.symm, Below.refl _ _⟩

theorem specValid_any (n : Int) (v : Value) (l : List Rd) (w : World) (hv : RoadsIn w v l) (hl : l.length ≤ 1048576) :
    Calls Try.prog 57 #[.int .i64 n, v] w (Gives (.bool (validR n l)) w) := specValid_big n v l w hv (by omega)

end Go.Proofs.Ytfdaaeapfeajjaa
