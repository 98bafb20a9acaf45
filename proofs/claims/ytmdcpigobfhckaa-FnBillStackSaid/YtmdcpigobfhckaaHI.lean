/- The laws' hasInt. -/
import Derived.Test.YtmdcpigobfhckaaQW
import Derived.Test.YtmdcpigobfhckaaI
namespace Go.Proofs.Ytmdcpigobfhckaa
open Go.RowKit

theorem IntsIn.drewN {w : World} {v : Value} {l : List Int} (h : IntsIn w v l) (m : Nat) : IntsIn (w.drewN m) v l := h.below ((Below.refl _ w).drewN m)

def HiRel (l : List Int) (z : Int) (w : World) (i : Value) (wr : World) : Prop :=
  ∃ k : Nat, k ≤ l.length ∧ i = .int .i64 k ∧ (∀ j, j < k → l.getD j 0 ≠ z) ∧ Drewn w wr
theorem mem_getD {l : List Int} {z : Int} : z ∈ l ↔ ∃ k, k < l.length ∧ l.getD k 0 = z := by
  constructor
  · intro h
    obtain ⟨k, hk, e⟩ := List.getElem_of_mem h
    exact ⟨k, hk, by simp [List.getD, hk, e]⟩
  · rintro ⟨k, hk, rfl⟩
    simp [List.getD, hk]

set_option maxHeartbeats 400000 in
theorem hasInt_any (v : Value) (l : List Int) (z : Int) (w : World) (hv : IntsIn w v l) (hl : l.length ≤ 1048576) :
    Calls Try.prog 66 #[v, .int .i64 z] w (Quiet (.bool (decide (z ∈ l))) w) := by
  obtain ⟨a, cap, rfl, hcap, ha⟩ := hv
  clear hcap
  have Ha := Lib.hid ha; clear ha
  go_enter Try.func66, Try.ntmps66
  go_wp2
  go_loopw [5] (fun i wr => HiRel l z w i wr) (fun i _ => l.length - (intOf i).toNat)
  case atStart => exact ⟨0, Nat.zero_le _, rfl, fun i hi => by omega, Drewn.refl _⟩
  case round =>
    obtain ⟨k, hk, rfl, hno, hw⟩ := hrel
    have Hno := Lib.hid hno; clear hno
    have HW := Lib.hid hw
    by_cases hlt : k < l.length
    · obtain ⟨b, o, rfl, hb, hrw⟩ := Ha.out (by intro h; simp [h] at hlt)
      have c0 := (hrw.below hw.below hb) k hlt
      have Hrw := Lib.hid hrw; clear hrw hw
      have hk0 : (0 : Int) ≤ (k : Int) := Int.natCast_nonneg _
      have hk1 : (k : Int) < (l.length : Int) := by omega
      generalize hx : l.getD k 0 = x at *
      have Hx := Lib.hid hx; clear hx
      by_cases hq : (x == z) = true
      · have Hm := Lib.hid (show true = decide (z ∈ l) from (decide_eq_true (mem_getD.2 ⟨k, hlt, by rw [Hx.out]; simpa using hq⟩)).symm)
        go_wp2
        go_ret
        exact ⟨ret_bool Hm.out, HW.out⟩
      · have hq' : (x == z) = false := by simpa using hq
        clear hq
        go_wp2
        refine ⟨⟨k + 1, hlt, by go_num, fun i hi => ?_, HW.out⟩, by simp [intOf]; omega⟩
        by_cases hik : i = k
        · subst hik; rw [Hx.out]; simpa using hq'
        · exact Hno.out i (by omega)
    · obtain rfl : k = l.length := by omega
      have Hm := Lib.hid (show false = decide (z ∈ l) from (decide_eq_false (fun h => by obtain ⟨k, hk, e⟩ := mem_getD.1 h; exact Hno.out k hk e)).symm)
      clear hw
      go_wp2
      go_ret
      exact ⟨ret_bool Hm.out, HW.out⟩

end Go.Proofs.Ytmdcpigobfhckaa
