/- Draws: runs and a number of teams (DrawRestMost). -/
import Derived.Test.YtmcapcclnkicbabDV
namespace Go.Proofs.Ytmcapcclnkicbab
open Go.RowKit

set_option maxRecDepth 100000 in
set_option maxHeartbeats 1000000 in
theorem drawRest_any (v : Value) (l : List Int) (w : World) (hv : BytesIn w v l) (hm : l.length ≤ 1048576) :
    Calls Try.prog 16 #[v] w (DrawnUR w) := by
  have Hv := Lib.hid hv; clear hv
  have Hq := Lib.hid (show ∀ b : Int, 0 ≤ b → b < 20 → ∃ q : Int, Int.tdiv b 19 = q ∧ 0 ≤ q ∧ q ≤ 1 from fun b h0 h1 => by
    rcases (by omega : b < 19 ∨ b = 19) with h | h
    · exact ⟨0, Int.tdiv_eq_zero_of_lt h0 h, by omega, by omega⟩
    · subst h; exact ⟨1, by decide, by omega, by omega⟩)
  go_enter Try.func16, Try.ntmps16
  go_wp2_with fail
  refine (l6Open_any _ l _ Hv.out hm).mono ?_; rintro e w1 ⟨rfl, ⟨l', hr⟩, hb, hs⟩
  have HB1 := Lib.hid hb
  have hg1 : w.heap.size < w1.heap.size := by omega
  clear hs hb
  generalize hgg : w.heap.size = g at *
  have Hgg := Lib.hid hgg; clear hgg
  go_wp2_with fail
  refine (runs91_any g l' 0 _ hr (by omega)).mono ?_; rintro e w2 ⟨ad, cap, xs, p1, rfl, hcap, h8, hown, hblk, hr1, hp1, ht1⟩
  have Hown := Lib.hid hown; have Hblk := Lib.hid hblk; have Hr1 := Lib.hid hr1; have HT1 := Lib.hid ht1
  clear hown hblk hr1 ht1 hr
  go_wp2_with fail
  refine (pick_any g l' p1 5 _ Hr1.out (by omega) (by omega)).mono ?_; rintro e w3 ⟨⟨a, rfl, ha0, ha1⟩, hr2, hg2⟩
  have ha5 : a < 5 := by omega
  have Hr2 := Lib.hid hr2; have HT2 := Lib.hid (HT1.out.trans (Touch.grown hg2 rfl))
  have HO2 := Lib.hid (Hown.out.touch (Touch.grown (S := fun j => j = g) hg2 rfl) (fun j hj e => by have := (Hblk.out j hj).1; omega))
  have hs2 := hg2.size
  clear ha1 hr2 hg2
  go_wp2_with fail
  refine (pick_any g l' (p1 + 1) 20 _ Hr2.out (by omega) (by omega)).mono ?_; rintro e w4 ⟨⟨c, rfl, hc0, hc1⟩, hr3, hg3⟩
  have hc5 : c < 20 := by omega
  have Hr3 := Lib.hid hr3; have HT3 := Lib.hid (HT2.out.trans (Touch.grown hg3 rfl))
  have HO3 := Lib.hid (HO2.out.touch (Touch.grown (S := fun j => j = g) hg3 rfl) (fun j hj e => by have := (Hblk.out j hj).1; omega))
  have hs3 := hg3.size
  clear hc1 hr3 hg3
  obtain ⟨q, hq, hq0, hq1⟩ := Hq.out c hc0 hc5
  have hwq : wrap64 (Int.tdiv c 19) = q := by rw [hq]; exact wrap64_ok (by omega) (by omega)
  have hw5 : wrap64 (q * 5) = q * 5 := wrap64_ok (by omega) (by omega)
  go_wp2_with fail
  refine (pick_any g l' (p1 + 1 + 1) 20 _ Hr3.out (by omega) (by omega)).mono ?_; rintro e w5 ⟨⟨d, rfl, hd0, hd1⟩, hr4, hg4⟩
  have hd5 : d < 20 := by omega
  have HT4 := Lib.hid (HT3.out.trans (Touch.grown hg4 rfl))
  have HO4 := Lib.hid (HO3.out.touch (Touch.grown (S := fun j => j = g) hg4 rfl) (fun j hj e => by have := (Hblk.out j hj).1; omega))
  have hs4 := hg4.size
  clear hd1 hr4 hg4
  obtain ⟨u, hu, hu0, hu1⟩ := Hq.out d hd0 hd5
  have hwu : wrap64 (Int.tdiv d 19) = u := by rw [hu]; exact wrap64_ok (by omega) (by omega)
  have hw12 : wrap64 (u * 12) = u * 12 := wrap64_ok (by omega) (by omega)
  go_wp2
  go_ret2
  refine ⟨ad, cap, xs, 1 + a - q * 5 + u * 12, ?_, hcap, h8, by omega, by omega, HO4.out, fun j hj => ⟨by have := (Hblk.out j hj).1; have := Hgg.out; omega, by have := (Hblk.out j hj).2; omega⟩, ?_⟩
  · rfl
  · rw [Hgg.out]; exact HB1.out.trans (HT4.out.below (fun j hj => by rw [hj]; exact Nat.le_refl _) (by omega))

end Go.Proofs.Ytmcapcclnkicbab
