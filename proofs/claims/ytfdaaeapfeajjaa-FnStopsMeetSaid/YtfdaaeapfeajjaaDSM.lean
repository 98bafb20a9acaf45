/- Draws: a number and two timetables (DrawStopsMeet). -/
import Derived.Test.YtfdaaeapfeajjaaDC
namespace Go.Proofs.Ytfdaaeapfeajjaa
open Go.RowKit

def DrawnSM (w : World) (e : Ending) (w' : World) : Prop :=
  ∃ (n : Int) (ad : Option Addr) (cap : Nat) (xs : List Rd) (ad' : Option Addr) (cap' : Nat) (ys : List Rd), e = .returned (.tuple #[.int .i64 n, .slice ad xs.length cap, .slice ad' ys.length cap']) ∧ 2 ≤ n ∧ n ≤ 6 ∧ xs.length ≤ 8 ∧ ys.length ≤ 8 ∧ OwnRd w' ad xs ∧ OwnRd w' ad' ys ∧ Below w.heap.size w w'

set_option maxRecDepth 100000 in
set_option maxHeartbeats 1000000 in
theorem drawMeet_any (v : Value) (l : List Int) (w : World) (hv : BytesIn w v l) (hm : l.length ≤ 1048576) :
    Calls Try.prog 23 #[v] w (DrawnSM w) := by
  have Hv := Lib.hid hv; clear hv
  go_enter Try.func23, Try.ntmps23
  go_wp2_with fail
  refine (l6Open_any _ l _ Hv.out hm).mono ?_; rintro e w1 ⟨rfl, ⟨l', hr⟩, hb, hs⟩
  have HB1 := Lib.hid hb; have HR1 := Lib.hid hr
  have hgl := hr.lt
  clear hb hr
  have hT := fun {a b : World} (ht : Touch (fun j => j = w.heap.size) a b) (h : w.heap.size ≤ a.heap.size) => ht.below (B := w.heap.size) (fun j hj => by rw [hj]; exact Nat.le_refl _) h
  go_wp2_with fail
  refine (pick_any w.heap.size l' 0 4 _ HR1.out (by omega) (by omega)).mono ?_; rintro e w2 ⟨⟨x, rfl, hx0, hx1⟩, hr2, hg2⟩
  have HB2 := Lib.hid (HB1.out.trans (hT (Touch.grown (S := fun j => j = w.heap.size) hg2 rfl) HB1.out.size))
  have HR2 := Lib.hid hr2
  have hx4 : x < 4 := by omega
  clear hr2 hg2 hx1
  go_wp2_with fail
  refine (pick_any w.heap.size l' (0 + 1) 100 _ HR2.out (by omega) (by omega)).mono ?_; rintro e w3 ⟨⟨t, rfl, ht0, ht1⟩, hr3, hg3⟩
  have HB3 := Lib.hid (HB2.out.trans (hT (Touch.grown (S := fun j => j = w.heap.size) hg3 rfl) HB2.out.size))
  have HR3 := Lib.hid hr3
  have hlt3 := hr3.lt
  have ht100 : t < 100 := by omega
  clear hr3 hg3 ht1
  go_wp2_with fail
  refine (stops91_any w.heap.size l' (0 + 1 + 1) (2 + x) t _ HR3.out (by omega) (by omega) (by omega) ht0 (by omega)).mono ?_
  rintro e w4 ⟨ad, cap, xs, p4, rfl, hcap, h8, hown, hblk, hr4, hp4, htt4⟩
  have hng : ∀ j, inBlk ad j → ¬ j = w.heap.size := fun j hj e => by have := (hblk j hj).1; omega
  have Hng := Lib.hid hng
  have HB4 := Lib.hid (HB3.out.trans (hT htt4 HB3.out.size))
  have HR4 := Lib.hid hr4
  have HO4 := Lib.hid hown
  clear hr4 htt4 hown hblk hng hcap
  go_wp2_with fail
  refine (pick_any w.heap.size l' p4 20 _ HR4.out (by omega) (by omega)).mono ?_; rintro e w5 ⟨⟨y, rfl, hy0, hy1⟩, hr5, hg5⟩
  have HB5 := Lib.hid (HB4.out.trans (hT (Touch.grown (S := fun j => j = w.heap.size) hg5 rfl) HB4.out.size))
  have HO5 := Lib.hid (HO4.out.touch (Touch.grown (S := fun j => j = w.heap.size) hg5 rfl) Hng.out)
  have HR5 := Lib.hid hr5
  have hy20 : y < 20 := by omega
  clear hr5 hg5 hy1
  go_wp2_with fail
  refine (stops91_any w.heap.size l' (p4 + 1) (2 + x) (t + y) _ HR5.out (by omega) (by omega) (by omega) (by omega) (by omega)).mono ?_
  rintro e w6 ⟨ad6, cap6, ys, p6, rfl, hcap6, h86, hown6, hblk6, hr6, hp6, htt6⟩
  have HB6 := Lib.hid (HB5.out.trans (hT htt6 HB5.out.size))
  have HO6 := Lib.hid (HO5.out.touch htt6 Hng.out)
  have HOy := Lib.hid hown6
  clear hr6 htt6 hown6 hblk6 hcap6 hT
  go_wp2
  refine bodyPost_ret (v := .tuple #[.int .i64 (2 + x), .slice ad xs.length cap, .slice ad6 ys.length cap6]) (by simp [results, Try.results23, go_sem]) rfl ?_
  exact ⟨2 + x, ad, cap, xs, ad6, cap6, ys, rfl, by omega, by omega, h8, h86, HO6.out, HOy.out, HB6.out⟩

end Go.Proofs.Ytfdaaeapfeajjaa
