/- szParcelS at what another slice has left. -/
import Derived.Test.YtmdcpigobfhckaaFB
namespace Go.Proofs.Ytmdcpigobfhckaa
open Go.RowKit

set_option maxHeartbeats 400000 in
theorem szParcelS_yes2 (v : Value) (l : List Fr) (n : Nat) (w : World) (hv : FrIn w v l) (hl : n + l.length ≤ 1048576) :
    Calls Try.prog 21 #[v, .int .i64 (1048576 - (n : Int))] w fun e w' => e = .returned (.int .i64 (1048576 - (n : Int) - (l.length : Int))) ∧ w = w' := by
  obtain ⟨a, cap, rfl, hcap, ha⟩ := hv
  clear hcap
  have Ha := Lib.hid ha; clear ha
  go_enter Try.func21, Try.ntmps21
  go_wp2
  go_ret
  exact ⟨rfl, rfl⟩

set_option maxHeartbeats 400000 in
theorem szParcelS_no2 (v : Value) (l : List Fr) (n : Nat) (w : World) (hv : FrIn w v l) (hn : n ≤ 1048576) (hl : l.length ≤ maxLen) (hl' : ¬ n + l.length ≤ 1048576) :
    Calls Try.prog 21 #[v, .int .i64 (1048576 - (n : Int))] w fun e w' => e = .returned (.int .i64 (-1)) ∧ w = w' := by
  obtain ⟨a, cap, rfl, hcap, ha⟩ := hv
  clear hcap
  unfold maxLen at hl
  have Ha := Lib.hid ha; clear ha
  go_enter Try.func21, Try.ntmps21
  go_wp2
  go_ret
  exact ⟨rfl, rfl⟩

end Go.Proofs.Ytmdcpigobfhckaa
