/- StopsRun, StopsAt: program and model. -/
import Derived.Test.YtfdaaeapfeajjaaSC
import Derived.Test.YtfdaaeapfeajjaaSD
namespace Go.Proofs.Ytfdaaeapfeajjaa
open Go.RowKit

def runS (l : List Rd) : Int := (l.getD (l.length - 1) rd0).b - (l.getD 0 rd0).m
def runV (n : Int) (l : List Rd) : Int := if validS n l = true then runS l else -1

set_option maxRecDepth 100000 in
set_option maxHeartbeats 400000 in
theorem run2_any (n : Int) (v : Value) (l : List Rd) (w : World) (hv : RoadsIn w v l) (hm : l.length ≤ 1048576) :
    Calls Try.prog 13 #[.int .i64 n, v] w (Gives (.int .i64 (runV n l)) w) := by
  have Hc := Lib.hid (ttOf_any n v l w hv hm)
  clear hv
  cases hz : validS n l with
  | true =>
    have h2 := (validS_iff.1 hz).1
    obtain ⟨k, hk⟩ : ∃ k, l.length = k + 1 := ⟨l.length - 1, by omega⟩
    have hr : runV n l = (l.getD k rd0).b - (l.getD 0 rd0).m := by
      unfold runV; rw [if_pos hz]; unfold runS; rw [hk]; rfl
    rw [hr]
    obtain ⟨_, _, a1, a2, a3, _⟩ := validS_at hz (show 0 < l.length by omega)
    obtain ⟨_, _, b1, b2, b3, _⟩ := validS_at hz (show k < l.length by omega)
    have Hz := Lib.hid hz; clear hz
    have Hk := Lib.hid hk; clear hk hr
    go_enter Try.func13, Try.ntmps13
    go_wp2_with fail
    refine (Hc.out).mono ?_; rintro e w1 ⟨h1, _⟩
    obtain ⟨tb, hs, rfl, htt, _, hb⟩ := h1 Hz.out
    clear h1
    have c0 := htt.first_some (by omega)
    have c1 := htt.last_some Hk.out
    have d0 := htt.leave (i := 0) (by omega)
    have d1 := htt.arrive (i := k) (by have := Hk.out; omega)
    clear htt
    generalize hs.getD 0 0 = g0 at *
    generalize hs.getD k 0 = gk at *
    generalize (l.getD k rd0).b = y at *
    generalize (l.getD 0 rd0).m = x at *
    go_wp2
    go_quiet (fail)
    go_wp2
    go_ret
    exact ⟨rfl, hb.drewN _⟩
  | false =>
    have hr : runV n l = -1 := by unfold runV; rw [hz]; rfl
    rw [hr]
    have Hz := Lib.hid hz; clear hz hr
    go_enter Try.func13, Try.ntmps13
    go_wp2_with fail
    refine (Hc.out).mono ?_; rintro e w1 ⟨_, h1⟩
    obtain ⟨rfl, hb⟩ := h1 Hz.out
    clear h1
    go_wp2
    go_ret
    exact ⟨rfl, hb⟩

end Go.Proofs.Ytfdaaeapfeajjaa
