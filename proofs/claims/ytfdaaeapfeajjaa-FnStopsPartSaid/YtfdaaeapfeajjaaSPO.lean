/- spec.StopsPart at a slice of its own, empty or not. -/
import Derived.Test.YtfdaaeapfeajjaaSR
import Derived.Deep.RegionHeld3
namespace Go.Proofs.Ytfdaaeapfeajjaa
open Go.RowKit

set_option maxRecDepth 100000 in
set_option maxHeartbeats 1000000 in
theorem part1_no (l : List Rd) (n : Int) (v : Value) (f t : Int) (w : World) (hv : RoadsIn w v l) (hm : l.length ≤ 1048576) (hz : validS n l = false) :
    Calls Try.prog 17 #[.int .i64 n, v, .int .i64 f, .int .i64 t] w (StopsOut (partL n l f t) (partOk n l f t) w) := by
  obtain ⟨a, cap, rfl, ha⟩ := hv
  have Hc := Lib.hid (valid1_isL n _ l w ⟨a, cap, rfl, ha⟩ hm hz)
  have hok : partOk n l f t = false := partOk_no (by rw [hz]; simp)
  have Hk := Lib.hid (And.intro hok (partL_no hok))
  clear hz hok ha
  go_enter Try.func17, Try.ntmps17
  go_wp2_with fail
  refine (Hc.out).mono ?_; rintro e w1 ⟨rfl, hb1⟩
  go_wp2
  go_ret2
  rw [Hk.out.1, Hk.out.2]
  exact StopsOut.no hb1.size (by simp) (hb1.alloc hb1.size _)

theorem part1_own (l : List Rd) (n : Int) (ad : Option Addr) (cap : Nat) (hc : l.length ≤ cap) (f t : Int) (w : World) (ho : OwnRd w ad l) (hm : l.length ≤ 1048576) :
    Calls Try.prog 17 #[.int .i64 n, .slice ad l.length cap, .int .i64 f, .int .i64 t] w (StopsOut (partL n l f t) (partOk n l f t) w) := by
  cases hz : validS n l with
  | false => exact part1_no l n _ f t w (ho.ins (cap := cap)) hm hz
  | true =>
    have h2 := (validS_iff.1 hz).1
    obtain ⟨b, rfl, hb, hr, _⟩ := ho (by rintro rfl; simp at h2)
    exact part1_cap l n b cap hc f t w hb hr hm

end Go.Proofs.Ytfdaaeapfeajjaa
