/- Draws: a number, a way-bill, a stop (DrawBillStack). -/
import Derived.Test.YtmdcpigobfhckaaDBL
namespace Go.Proofs.Ytmdcpigobfhckaa
open Go.RowKit

/-- What a draw of a way-bill and a stop gives. -/
def DrawnB3 (w : World) (e : Ending) (w' : World) : Prop :=
  ∃ (n : Int) (ad : Option Addr) (cap : Nat) (xs : List Fr) (s : Int), e = .returned (.tuple #[.int .i64 n, .slice ad xs.length cap, .int .i64 s]) ∧ 1 ≤ n ∧ n ≤ 6 ∧ xs.length ≤ cap ∧ xs.length ≤ 12 ∧ OwnFr w' ad xs ∧ Below w.heap.size w w'

set_option maxHeartbeats 1000000 in
theorem drawSt_any (v : Value) (l : List Int) (w : World) (hv : BytesIn w v l) (hm : l.length ≤ 1048576) :
    Calls Try.prog 65 #[v] w (DrawnB3 w) := by
  have Hv := Lib.hid hv; clear hv
  go_enter Try.func65, Try.ntmps65
  go_wp2_with fail
  refine (l6Open_any _ l _ Hv.out hm).mono ?_; rintro e w1 ⟨rfl, ⟨l', hr⟩, hb, hs⟩
  have Hs := Lib.hid hs; clear hs
  have HB1 := Lib.hid hb; clear hb
  go_wp2_with fail
  refine (bill93_any _ l' 0 _ hr (by omega)).mono ?_; rintro e w2 ⟨n, ad, cap, xs, p', rfl, hn1, hn6, hcap, h12, hown, hblk, hr2, hp, ht, _⟩
  have hlt := hr.lt
  have hng : ∀ j, inBlk ad j → ¬ j = w.heap.size := fun j hj e => by have := (hblk j hj).1; omega
  have Hng := Lib.hid hng
  have HO2 := Lib.hid hown
  have HT2 := Lib.hid ht
  have HR2 := Lib.hid hr2
  clear hown hblk ht hr hr2 hng
  go_wp2_with fail
  refine (pick_any _ l' p' (n + 1) _ HR2.out (by omega) (by omega)).mono ?_; rintro e w3 ⟨⟨x, rfl, hx0, hx1⟩, hr3, hg3⟩
  have HO3 := Lib.hid (HO2.out.touch (Touch.grown (S := fun j => j = w.heap.size) hg3 rfl) Hng.out)
  have HT3 := Lib.hid (HT2.out.trans (Touch.grown hg3 rfl))
  have HR3 := Lib.hid hr3
  clear hr3 hg3
  go_wp2_with fail
  refine (pick_any _ l' (p' + 1) 20 _ HR3.out (by omega) (by omega)).mono ?_; rintro e w4 ⟨⟨c, rfl, hc0, hc1⟩, hr4, hg4⟩
  have HO4 := Lib.hid (HO3.out.touch (Touch.grown (S := fun j => j = w.heap.size) hg4 rfl) Hng.out)
  have HT4 := Lib.hid (HT3.out.trans (Touch.grown hg4 rfl))
  clear hr4 hg4
  go_wp2
  go_ret3
  exact ⟨n, ad, cap, xs, _, rfl, hn1, hn6, hcap, h12, HO4.out, HB1.out.trans (HT4.out.below (fun j hj => by rw [hj]; exact Nat.le_refl _) HB1.out.size)⟩

end Go.Proofs.Ytmdcpigobfhckaa
