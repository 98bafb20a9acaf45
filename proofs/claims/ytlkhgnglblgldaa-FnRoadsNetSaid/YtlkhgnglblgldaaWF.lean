/- The model's RoadsFar, l1Most, RoadsWhole. -/
import Derived.Test.YtlkhgnglblgldaaWD
import Derived.Test.YtlkhgnglblgldaaWE
namespace Go.Proofs.Ytlkhgnglblgldaa
open Go.RowKit

theorem farOf_in {n : Int} {l : List Rd} (hz : validR n l = true) {a b : Int} (ha : 0 ≤ a ∧ a < n) : farOf n l a b = (distO (edge l) a b).getD (-1) := by
  unfold farOf distN; rw [if_pos hz, if_pos ha]

theorem farOf_out {n : Int} {l : List Rd} {a b : Int} (h : ¬ (0 ≤ a ∧ a < n) ∨ ¬ (0 ≤ b ∧ b < n)) : farOf n l a b = -1 := by
  unfold farOf distN
  split
  · rename_i hz
    split
    · rename_i ha
      rcases h with h | h
      · exact absurd ha h
      · cases hd : distO (edge l) a b with
        | none => rfl
        | some d => exact absurd ((edges_ok hz).town (distO_some.1 hd) ha) h
    · rfl
  · rfl

theorem dist_bd {n : Int} {l : List Rd} (hz : validR n l = true) {a b d : Int} (h : distO (edge l) a b = some d) : 0 ≤ d ∧ d ≤ 792 := (edges_ok hz).dist (distO_some.1 h)

set_option maxRecDepth 100000 in
set_option maxHeartbeats 600000 in
theorem specFar_any (n : Int) (v : Value) (l : List Rd) (a b : Int) (w : World) (hv : RoadsIn w v l) (hl : l.length ≤ 1048576) :
    Calls Try.prog 50 #[.int .i64 n, v, .int .i64 a, .int .i64 b] w (Gives (.int .i64 (farOf n l a b)) w) := by
  have h2 := specValid_any n v l w hv hl
  have H2 := Lib.hid h2; clear h2
  have Hv := Lib.hid hv; clear hv
  cases hz : validR n l with
  | false =>
    have hd : farOf n l a b = -1 := by unfold farOf; rw [hz]; rfl
    have Hd := Lib.hid hd; clear hd
    rw [hz] at H2
    clear hz
    go_enter Try.func50, Try.ntmps50
    go_wp2_with fail
    refine (H2.out).mono ?_
    rintro e w' ⟨rfl, hb⟩
    go_wp2
    go_ret
    exact ⟨ret_int Hd.out.symm, hb⟩
  | true =>
    rw [hz] at H2
    obtain ⟨hn1, hn8, _, _⟩ := valid_bounds hz
    by_cases ha : 0 ≤ a ∧ a ≤ n - 1
    · have p1 : inB a 0 (n - 1) = true := (inB_iff _ _ _).2 ha
      by_cases hb : 0 ≤ b ∧ b ≤ n - 1
      · have p2 : inB b 0 (n - 1) = true := (inB_iff _ _ _).2 hb
        have hd : farOf n l a b = (distO (edge l) a b).getD (-1) := farOf_in hz (by omega)
        have hdb := fun d h => dist_bd hz (a := a) (b := b) (d := d) h
        have Hd := Lib.hid hd; clear hd
        have Hdb := Lib.hid hdb; clear hdb
        have Hz := Lib.hid hz; clear hz
        obtain ⟨ha0, ha1⟩ := ha
        obtain ⟨hb0, hb1⟩ := hb
        obtain ⟨q, rfl⟩ : ∃ q : Nat, b = q := ⟨b.toNat, by omega⟩
        go_enter Try.func50, Try.ntmps50
        go_wp2_with fail
        refine (H2.out).mono ?_
        rintro e w1 ⟨rfl, hbel⟩
        go_wp2_with fail
        refine (l6In_any _ _ _ _).mono ?_
        rintro e w' ⟨rfl, rfl⟩
        rw [p1]
        go_wp2_with fail
        refine (l6In_any _ _ _ _).mono ?_
        rintro e w' ⟨rfl, rfl⟩
        rw [p2]
        go_wp2_with fail
        refine (l1Far_any n v l a _ (Hv.out.below hbel) Hz.out ha0 (by omega)).mono ?_
        rintro e w2 ⟨g, cap, o, rfl, holen, hoc, _, _, hint, hfo, hbel2⟩
        have hqo : q < o.length := by omega
        have c0 := hint q hqo
        rw [Nat.zero_add] at c0
        have hfq := hfo q (by omega) (by omega)
        rw [fO_nat o hqo] at hfq
        have hq1 : (q : Int) < (o.length : Int) := by omega
        clear hint hfo
        cases hdd : distO (edge l) a q with
        | none =>
          rw [hdd] at hfq
          simp only [Option.getD_none] at hfq
          rw [hfq] at c0
          have Hdd := Lib.hid hdd; clear hdd hfq
          go_wp2
          go_ret
          exact ⟨ret_int (by rw [Hd.out, Hdd.out]; rfl), hbel.trans (hbel2.mono hbel.size)⟩
        | some d =>
          have hd2 := Hdb.out d hdd
          obtain ⟨d1, d2⟩ := hd2
          rw [hdd] at hfq
          simp only [Option.getD_some] at hfq
          rw [hfq] at c0
          have Hdd := Lib.hid hdd; clear hdd hfq
          go_wp2
          go_ret
          exact ⟨ret_int (by rw [Hd.out, Hdd.out]; rfl), hbel.trans (hbel2.mono hbel.size)⟩
      · have p2 : inB b 0 (n - 1) = false := by rw [Bool.eq_false_iff]; intro h; exact hb ((inB_iff _ _ _).1 h)
        have hd : farOf n l a b = -1 := farOf_out (.inr (by omega))
        have Hd := Lib.hid hd; clear hd
        clear hz hb
        obtain ⟨ha0, ha1⟩ := ha
        go_enter Try.func50, Try.ntmps50
        go_wp2_with fail
        refine (H2.out).mono ?_
        rintro e w1 ⟨rfl, hbel⟩
        go_wp2_with fail
        refine (l6In_any _ _ _ _).mono ?_
        rintro e w' ⟨rfl, rfl⟩
        rw [p1]
        go_wp2_with fail
        refine (l6In_any _ _ _ _).mono ?_
        rintro e w' ⟨rfl, rfl⟩
        rw [p2]
        go_wp2
        go_ret
        exact ⟨ret_int Hd.out.symm, hbel⟩
    · have p1 : inB a 0 (n - 1) = false := by rw [Bool.eq_false_iff]; intro h; exact ha ((inB_iff _ _ _).1 h)
      have hd : farOf n l a b = -1 := farOf_out (.inl (by omega))
      have Hd := Lib.hid hd; clear hd
      clear hz ha
      go_enter Try.func50, Try.ntmps50
      go_wp2_with fail
      refine (H2.out).mono ?_
      rintro e w1 ⟨rfl, hbel⟩
      go_wp2_with fail
      refine (l6In_any _ _ _ _).mono ?_
      rintro e w' ⟨rfl, rfl⟩
      rw [p1]
      go_wp2
      go_ret
      exact ⟨ret_int Hd.out.symm, hbel⟩

end Go.Proofs.Ytlkhgnglblgldaa
