/- Draws: a number, a timetable and two stops (DrawStopsPart). -/
import Derived.Test.YtfdaaeapfeajjaaDC
import Derived.Test.YtfdaaeapfeajjaaHD
namespace Go.Proofs.Ytfdaaeapfeajjaa
open Go.RowKit

def DrawnSP (w : World) (e : Ending) (w' : World) : Prop :=
  ∃ (n : Int) (ad : Option Addr) (cap : Nat) (xs : List Rd) (f t : Int), e = .returned (.tuple #[.int .i64 n, .slice ad xs.length cap, .int .i64 f, .int .i64 t]) ∧ 2 ≤ n ∧ n ≤ 6 ∧ xs.length ≤ cap ∧ xs.length ≤ 8 ∧ OwnRd w' ad xs ∧ (-1 ≤ f ∧ f ≤ 3) ∧ (f ≤ t ∧ t ≤ f + 3) ∧ Below w.heap.size w w'

set_option maxRecDepth 100000 in
set_option maxHeartbeats 1000000 in
theorem drawPart_any (v : Value) (l : List Int) (w : World) (hv : BytesIn w v l) (hm : l.length ≤ 1048576) :
    Calls Try.prog 15 #[v] w (DrawnSP w) := by
  have Hv := Lib.hid hv; clear hv
  go_enter Try.func15, Try.ntmps15
  go_wp2_with fail
  refine (l6Open_any _ l _ Hv.out hm).mono ?_; rintro e w1 ⟨rfl, ⟨l', hr⟩, hb, hs⟩
  have HB1 := Lib.hid hb; have HR1 := Lib.hid hr
  have hgl := hr.lt
  clear hb hr
  have hT := fun {a b : World} (ht : Touch (fun j => j = w.heap.size) a b) (h : w.heap.size ≤ a.heap.size) => ht.below (B := w.heap.size) (fun j hj => by rw [hj]; exact Nat.le_refl _) h
  go_wp2_with fail
  refine (one91_any w.heap.size l' 0 _ HR1.out (by omega)).mono ?_; rintro e w2 ⟨n, ad, cap, xs, p, rfl, hn2, hn6, hcap, h8, hown, hblk, hr2, hp, ht2⟩
  have hng : ∀ j, inBlk ad j → ¬ j = w.heap.size := fun j hj e => by have := (hblk j hj).1; omega
  have Hng := Lib.hid hng
  have HB2 := Lib.hid (HB1.out.trans (hT ht2 HB1.out.size))
  have HR2 := Lib.hid hr2
  have HO2 := Lib.hid hown
  have Hcap := Lib.hid hcap
  clear hr2 ht2 hown hblk hng hcap
  go_wp2_with fail
  refine (pick_any w.heap.size l' p 4 _ HR2.out (by omega) (by omega)).mono ?_; rintro e w3 ⟨⟨x, rfl, hx0, hx1⟩, hr3, hg3⟩
  have HB3 := Lib.hid (HB2.out.trans (hT (Touch.grown (S := fun j => j = w.heap.size) hg3 rfl) HB2.out.size))
  have HO3 := Lib.hid (HO2.out.touch (Touch.grown (S := fun j => j = w.heap.size) hg3 rfl) Hng.out)
  have HR3 := Lib.hid hr3
  have hxb : x < 4 := by omega
  clear hr3 hg3 hx1
  go_wp2_with fail
  refine (pick_any w.heap.size l' (p + 1) 16 _ HR3.out (by omega) (by omega)).mono ?_; rintro e w4 ⟨⟨y, rfl, hy0, hy1⟩, hr4, hg4⟩
  have HB4 := Lib.hid (HB3.out.trans (hT (Touch.grown (S := fun j => j = w.heap.size) hg4 rfl) HB3.out.size))
  have HO4 := Lib.hid (HO3.out.touch (Touch.grown (S := fun j => j = w.heap.size) hg4 rfl) Hng.out)
  have HR4 := Lib.hid hr4
  have hyb : y < 16 := by omega
  clear hr4 hg4 hy1
  obtain ⟨q, hq, hq0, hq1⟩ : ∃ q : Int, Int.tdiv y 15 = q ∧ 0 ≤ q ∧ q ≤ 1 := by
    rcases (by omega : y < 15 ∨ y = 15) with h | h
    · exact ⟨0, Int.tdiv_eq_zero_of_lt hy0 h, by omega, by omega⟩
    · subst h; exact ⟨1, by decide, by omega, by omega⟩
  have hwq : wrap64 (Int.tdiv y 15) = q := by rw [hq]; exact wrap64_ok (by omega) (by omega)
  go_wp2_with fail
  refine (pick_any w.heap.size l' (p + 1 + 1) 4 _ HR4.out (by omega) (by omega)).mono ?_; rintro e w5 ⟨⟨z, rfl, hz0, hz1⟩, hr5, hg5⟩
  have HB5 := Lib.hid (HB4.out.trans (hT (Touch.grown (S := fun j => j = w.heap.size) hg5 rfl) HB4.out.size))
  have HO5 := Lib.hid (HO4.out.touch (Touch.grown (S := fun j => j = w.heap.size) hg5 rfl) Hng.out)
  have HR5 := Lib.hid hr5
  have hzb : z < 4 := by omega
  clear hr5 hg5 hz1
  go_wp2
  refine bodyPost_ret (v := .tuple #[.int .i64 n, .slice ad xs.length cap, .int .i64 (x - q), .int .i64 (x - q + z)]) (by simp [results, Try.results15, go_sem]) rfl ?_
  exact ⟨n, ad, cap, xs, x - q, x - q + z, rfl, hn2, hn6, Hcap.out, h8, HO5.out, by omega, by omega, HB5.out⟩

end Go.Proofs.Ytfdaaeapfeajjaa
