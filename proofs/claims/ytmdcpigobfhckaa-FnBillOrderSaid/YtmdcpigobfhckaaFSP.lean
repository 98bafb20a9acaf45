/- The laws' sameParcels at equal rows. -/
import Derived.Test.YtmdcpigobfhckaaFA
namespace Go.Proofs.Ytmdcpigobfhckaa
open Go.RowKit

def SpRel (l : List Fr) (w : World) (i : Value) (wr : World) : Prop := ∃ k : Nat, k ≤ l.length ∧ i = .int .i64 k ∧ Below w.heap.size w wr
set_option maxHeartbeats 1000000 in
theorem sameParcels_eq (v v' : Value) (l : List Fr) (w : World) (hv : FrIn w v l) (hv' : FrIn w v' l) (hl : l.length ≤ 1048576) :
    Calls Try.prog 70 #[v, v'] w (Gives (.bool true) w) := by
  obtain ⟨a, cap, rfl, _, ha⟩ := hv
  obtain ⟨a', cap', rfl, _, ha'⟩ := hv'
  have Ha := Lib.hid ha; have Ha' := Lib.hid ha'
  clear ha ha'
  go_enter Try.func70, Try.ntmps70
  go_wp2
  go_loopw [5] (fun i wr => SpRel l w i wr) (fun i _ => l.length - (intOf i).toNat)
  case atStart => exact ⟨0, Nat.zero_le _, rfl, Below.refl _ _⟩
  case round =>
    obtain ⟨k, hk, rfl, hbel⟩ := hrel
    have HB := Lib.hid hbel
    by_cases hlt : k < l.length
    · obtain ⟨b, o, rfl, hb, hrw⟩ := Ha.out (by intro h; simp [h] at hlt)
      obtain ⟨b', o', rfl, hb', hrw'⟩ := Ha'.out (by intro h; simp [h] at hlt)
      obtain ⟨c0, c1⟩ := (hrw.below hbel hb) k hlt
      obtain ⟨d0, d1⟩ := (hrw'.below hbel hb') k hlt
      have hk0 : (0 : Int) ≤ (k : Int) := Int.natCast_nonneg _
      have hk1 : (k : Int) < (l.length : Int) := by omega
      clear hrw hrw' hbel
      generalize (l.getD k fr0).a = x at *
      generalize (l.getD k fr0).b = y at *
      have qx : (x == x) = true := by simp
      have qy : (y == y) = true := by simp
      go_wp2
      go_quiet (fail)
      go_wp2
      exact ⟨⟨k + 1, hlt, by go_num, HB.out.drewN _⟩, by simp [intOf]; omega⟩
    · obtain rfl : k = l.length := by omega
      go_wp2
      go_ret
      exact ⟨rfl, HB.out⟩

end Go.Proofs.Ytmdcpigobfhckaa
