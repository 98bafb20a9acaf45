/- Draws: a number, a timetable and a town (DrawStopsAt). -/
import Derived.Test.YtfdaaeapfeajjaaDC
import Derived.Test.YtfdaaeapfeajjaaDTW
namespace Go.Proofs.Ytfdaaeapfeajjaa
open Go.RowKit

def DrawnSA (w : World) (e : Ending) (w' : World) : Prop :=
  ∃ (n : Int) (ad : Option Addr) (cap : Nat) (xs : List Rd) (t : Int), e = .returned (.tuple #[.int .i64 n, .slice ad xs.length cap, .int .i64 t]) ∧ 2 ≤ n ∧ n ≤ 6 ∧ xs.length ≤ cap ∧ xs.length ≤ 8 ∧ OwnRd w' ad xs ∧ -1 ≤ t ∧ t ≤ 6 ∧ Below w.heap.size w w'

set_option maxRecDepth 100000 in
set_option maxHeartbeats 1000000 in
theorem drawAt_any (v : Value) (l : List Int) (w : World) (hv : BytesIn w v l) (hm : l.length ≤ 1048576) :
    Calls Try.prog 18 #[v] w (DrawnSA w) := by
  have Hv := Lib.hid hv; clear hv
  go_enter Try.func18, Try.ntmps18
  go_wp2_with fail
  refine (l6Open_any _ l _ Hv.out hm).mono ?_; rintro e w1 ⟨rfl, ⟨l', hr⟩, hb, hs⟩
  have HB1 := Lib.hid hb; have HR1 := Lib.hid hr
  clear hb hr
  go_wp2_with fail
  refine (one91_any w.heap.size l' 0 _ HR1.out (by omega)).mono ?_; rintro e w2 ⟨n, ad, cap, xs, p, rfl, hn2, hn6, hcap, h8, hown, hblk, hr2, hp, ht2⟩
  have hng : ∀ j, inBlk ad j → ¬ j = w.heap.size := fun j hj e => by have := (hblk j hj).1; have := HR1.out.lt; omega
  have Hng := Lib.hid hng
  have hT := fun {a b : World} (ht : Touch (fun j => j = w.heap.size) a b) (h : w.heap.size ≤ a.heap.size) => ht.below (B := w.heap.size) (fun j hj => by rw [hj]; exact Nat.le_refl _) h
  have HB2 := Lib.hid (HB1.out.trans (hT ht2 HB1.out.size))
  have HR2 := Lib.hid hr2
  have HO2 := Lib.hid hown
  have Hcap := Lib.hid hcap
  clear hr2 ht2 hown hblk hng hcap
  go_wp2_with fail
  refine (town91_any w.heap.size l' p n _ HR2.out (by omega) hn2 hn6).mono ?_; rintro e w3 ⟨t, p', rfl, ht0, ht1, hr3, hp3, ht3⟩
  have HB3 := Lib.hid (HB2.out.trans (hT ht3 HB2.out.size))
  have HO3 := Lib.hid (HO2.out.touch ht3 Hng.out)
  clear hr3 ht3 hT
  go_wp2
  refine bodyPost_ret (v := .tuple #[.int .i64 n, .slice ad xs.length cap, .int .i64 t]) (by simp [results, Try.results18, go_sem]) rfl ?_
  exact ⟨n, ad, cap, xs, t, rfl, hn2, hn6, Hcap.out, h8, HO3.out, ht0, ht1, HB3.out⟩

end Go.Proofs.Ytfdaaeapfeajjaa
