/- The laws' sumOf. -/
import Derived.Test.YtmdcpigobfhckaaI
import Derived.WalkKit
import Derived.WalkSpells
import Derived.WalkLawsBesides
import Derived.Lib.Hide
import Derived.IntWalk
import Derived.Outline
namespace Go.Proofs.Ytmdcpigobfhckaa
open Go.RowKit

theorem take_sumI {t : List Int} {k : Nat} (h : k < t.length) : (t.take (k + 1)).sum = (t.take k).sum + t.getD k 0 := by
  rw [List.take_succ_eq_append_getElem h, List.sum_append]
  simp [List.getD, h]
theorem take_sum_bd {t : List Int} {M : Int} (h : ∀ i, -M ≤ t.getD i 0 ∧ t.getD i 0 ≤ M) : ∀ k, k ≤ t.length → -(M * k) ≤ (t.take k).sum ∧ (t.take k).sum ≤ M * k
  | 0, _ => by simp
  | k + 1, hk => by
    have ih := take_sum_bd h k (by omega)
    have := h k
    rw [take_sumI (by omega), Int.natCast_add, Int.mul_add]
    omega

def SoRel (t : List Int) (w : World) (s i : Value) (wr : World) : Prop := ∃ k : Nat, k ≤ t.length ∧ i = .int .i64 k ∧ s = .int .i64 (t.take k).sum ∧ w = wr

set_option maxRecDepth 100000 in
set_option maxHeartbeats 1000000 in
theorem sumOf_any (v : Value) (t : List Int) (w : World) (hv : IntsIn w v t) (hl : t.length ≤ 100) (hM : ∀ i, -2000000000 ≤ t.getD i 0 ∧ t.getD i 0 ≤ 2000000000) :
    Calls Try.prog 64 #[v] w fun e w' => e = .returned (.int .i64 t.sum) ∧ w' = w := by
  obtain ⟨a, cap, rfl, hcap, ha⟩ := hv
  clear hcap
  have Ha := Lib.hid ha; clear ha
  have Hbd := Lib.hid (take_sum_bd hM)
  have HM := Lib.hid hM
  clear hM
  go_enter Try.func64, Try.ntmps64
  go_wp2
  go_loopw [3, 4] (fun s i wr => SoRel t w s i wr) (fun _ i _ => t.length - (intOf i).toNat)
  case atStart => exact ⟨0, Nat.zero_le _, rfl, by simp, rfl⟩
  case round =>
    obtain ⟨k, hk, rfl, rfl, hw⟩ := hrel
    obtain rfl : w = wr := hw
    by_cases hlt : k < t.length
    · obtain ⟨b, o, rfl, hb0, hrw⟩ := Ha.out (by intro h; simp [h] at hlt)
      have c0 := hrw k hlt
      have Hsum := Lib.hid (take_sumI hlt)
      have h1 := HM.out k
      have h2 := Hbd.out k (by omega)
      generalize t.getD k 0 = x at *
      generalize (t.take k).sum = s at *
      have hsw : wrap64 (s + x) = s + x := by unfold wrap64; omega
      clear hrw h1 h2
      go_wp2
      exact ⟨⟨k + 1, hlt, by go_num, by rw [hsw, Hsum.out], rfl⟩, by simp [intOf]; omega⟩
    · obtain rfl : k = t.length := by omega
      have ht : t.take t.length = t := List.take_length
      rw [ht]
      clear ht
      go_wp2
      go_ret
      exact ⟨rfl, rfl⟩

end Go.Proofs.Ytmdcpigobfhckaa
