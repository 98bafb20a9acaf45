/- szPartS at what another slice has left. -/
import Derived.Test.YtcllgpfnojncoaaPB
namespace Go.Proofs.Ytcllgpfnojncoaa
open Go.RowKit

set_option maxHeartbeats 400000 in
theorem szPartS_yes2 (v : Value) (l : List Pt) (n : Nat) (w : World) (hv : PtIn w v l) (hl : n + l.length ≤ 1048576) :
    Calls Try.prog 16 #[v, .int .i64 (1048576 - (n : Int))] w fun e w' => e = .returned (.int .i64 (1048576 - (n : Int) - (l.length : Int))) ∧ w = w' := by
  obtain ⟨a, cap, rfl, hcap, ha⟩ := hv
  clear hcap
  have Ha := Lib.hid ha; clear ha
  go_enter Try.func16, Try.ntmps16
  go_wp2
  go_ret
  exact ⟨rfl, rfl⟩

set_option maxHeartbeats 400000 in
theorem szPartS_no2 (v : Value) (l : List Pt) (n : Nat) (w : World) (hv : PtIn w v l) (hn : n ≤ 1048576) (hl : l.length ≤ maxLen) (hl' : ¬ n + l.length ≤ 1048576) :
    Calls Try.prog 16 #[v, .int .i64 (1048576 - (n : Int))] w fun e w' => e = .returned (.int .i64 (-1)) ∧ w = w' := by
  obtain ⟨a, cap, rfl, hcap, ha⟩ := hv
  clear hcap
  unfold maxLen at hl
  have Ha := Lib.hid ha; clear ha
  go_enter Try.func16, Try.ntmps16
  go_wp2
  go_ret
  exact ⟨rfl, rfl⟩

end Go.Proofs.Ytcllgpfnojncoaa
