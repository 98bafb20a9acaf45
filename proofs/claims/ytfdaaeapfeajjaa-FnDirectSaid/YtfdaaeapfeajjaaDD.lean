/- Draws: a network and two towns (DrawRoadsDirect). -/
import Derived.Test.YtfdaaeapfeajjaaDS
namespace Go.Proofs.Ytfdaaeapfeajjaa
open Go.RowKit

set_option maxHeartbeats 400000 in
theorem drawDirect_any (v : Value) (l : List Int) (w : World) (hv : BytesIn w v l) (hm : l.length ≤ 1048576) :
    Calls Try.prog 26 #[v] w (DrawnR2 w) := by
  have Hv := Lib.hid hv; clear hv
  go_enter Try.func26, Try.ntmps26
  go_wp2_with fail
  refine (l6Open_any _ l _ Hv.out hm).mono ?_; rintro e w1 ⟨rfl, ⟨l', hr⟩, hb, hs⟩
  have Hs := Lib.hid hs; clear hs
  go_wp2_with fail
  refine (two91_any _ l' _ hr).mono ?_; rintro e w2 ⟨n, ad, cap, xs, x, y, rfl, hn2, hn6, hcap, h11, hbd, hx0, hx1, hy0, hy1, hown, hblk, ht⟩
  have H := Lib.hid (And.intro hown (And.intro hblk (And.intro ht hbd)))
  clear hown hblk ht hr hbd
  go_wp2
  refine bodyPost_ret (v := .tuple #[.int .i64 n, .slice ad xs.length cap, .int .i64 x, .int .i64 y]) (by simp [results, Try.results26, go_sem]) rfl ?_
  exact ⟨n, ad, cap, xs, x, y, rfl, hn2, hn6, hcap, h11, H.out.2.2.2, hx0, hx1, hy0, hy1, H.out.1, fun j hj => ⟨Nat.le_trans hb.size (H.out.2.1 j hj).1, (H.out.2.1 j hj).2⟩, hb.trans (H.out.2.2.1.below (fun j hj => by rw [hj]; exact Nat.le_refl _) hb.size)⟩

end Go.Proofs.Ytfdaaeapfeajjaa
