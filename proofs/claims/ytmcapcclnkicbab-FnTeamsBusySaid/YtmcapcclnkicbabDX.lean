/- Draws: runs, a rest and a time (DrawTeamsBusy). -/
import Derived.Test.YtmcapcclnkicbabDV
namespace Go.Proofs.Ytmcapcclnkicbab
open Go.RowKit

/-- What is drawn, for a law: runs and two numbers. -/
def DrawnURT (w : World) (e : Ending) (w' : World) : Prop :=
  ∃ (ad : Option Addr) (cap : Nat) (xs : List Rn) (x t : Int), e = .returned (.tuple #[.slice ad xs.length cap, .int .i64 x, .int .i64 t]) ∧ xs.length ≤ cap ∧ xs.length ≤ 8 ∧ -1 ≤ x ∧ x ≤ 601 ∧ OwnRn w' ad xs ∧ (∀ j, inBlk ad j → w.heap.size ≤ j ∧ j < w'.heap.size) ∧ Below w.heap.size w w'

set_option maxRecDepth 100000 in
set_option maxHeartbeats 1000000 in
theorem drawBusy_any (v : Value) (l : List Int) (w : World) (hv : BytesIn w v l) (hm : l.length ≤ 1048576) :
    Calls Try.prog 12 #[v] w (DrawnURT w) := by
  have Hv := Lib.hid hv; clear hv
  have Hq := Lib.hid (show ∀ b : Int, 0 ≤ b → b < 20 → ∃ q : Int, Int.tdiv b 19 = q ∧ 0 ≤ q ∧ q ≤ 1 from fun b h0 h1 => by
    rcases (by omega : b < 19 ∨ b = 19) with h | h
    · exact ⟨0, Int.tdiv_eq_zero_of_lt h0 h, by omega, by omega⟩
    · subst h; exact ⟨1, by decide, by omega, by omega⟩)
  go_enter Try.func12, Try.ntmps12
  go_wp2_with fail
  refine (l6Open_any _ l _ Hv.out hm).mono ?_; rintro e w1 ⟨rfl, ⟨l', hr⟩, hb, hs⟩
  have HB1 := Lib.hid hb
  have hg1 : w.heap.size < w1.heap.size := by omega
  clear hs hb
  generalize hgg : w.heap.size = g at *
  have Hgg := Lib.hid hgg; clear hgg
  go_wp2_with fail
  refine (team91_any g l' 0 _ hr (by omega)).mono ?_; rintro e w2 ⟨ad, cap, xs, x, p1, rfl, hcap, h8, hx0, hx1, hown, hblk, hr1, hp1, ht1⟩
  have Hown := Lib.hid hown; have Hblk := Lib.hid hblk; have Hr1 := Lib.hid hr1; have HT1 := Lib.hid ht1
  clear hown hblk hr1 ht1 hr
  go_wp2_with fail
  refine (pick_any g l' p1 300 _ Hr1.out (by omega) (by omega)).mono ?_; rintro e w3 ⟨⟨a, rfl, ha0, ha1⟩, hr2, hg2⟩
  have ha5 : a < 300 := by omega
  have Hr2 := Lib.hid hr2; have HT2 := Lib.hid (HT1.out.trans (Touch.grown hg2 rfl))
  have HO2 := Lib.hid (Hown.out.touch (Touch.grown (S := fun j => j = g) hg2 rfl) (fun j hj e => by have := (Hblk.out j hj).1; omega))
  have hs2 := hg2.size
  clear ha1 hr2 hg2
  go_wp2_with fail
  refine (pick_any g l' (p1 + 1) 20 _ Hr2.out (by omega) (by omega)).mono ?_; rintro e w4 ⟨⟨c, rfl, hc0, hc1⟩, hr3, hg3⟩
  have hc5 : c < 20 := by omega
  have HT3 := Lib.hid (HT2.out.trans (Touch.grown hg3 rfl))
  have HO3 := Lib.hid (HO2.out.touch (Touch.grown (S := fun j => j = g) hg3 rfl) (fun j hj e => by have := (Hblk.out j hj).1; omega))
  have hs3 := hg3.size
  clear hc1 hr3 hg3
  obtain ⟨q, hq, hq0, hq1⟩ := Hq.out c hc0 hc5
  have hwq : wrap64 (Int.tdiv c 19) = q := by rw [hq]; exact wrap64_ok (by omega) (by omega)
  have hw5 : wrap64 (q * 301) = q * 301 := wrap64_ok (by omega) (by omega)
  go_wp2
  go_ret3
  refine ⟨ad, cap, xs, x, a - q * 301, ?_, hcap, h8, hx0, hx1, HO3.out, fun j hj => ⟨by have := (Hblk.out j hj).1; have := Hgg.out; omega, by have := (Hblk.out j hj).2; omega⟩, ?_⟩
  · rfl
  · rw [Hgg.out]; exact HB1.out.trans (HT3.out.below (fun j hj => by rw [hj]; exact Nat.le_refl _) (by omega))

end Go.Proofs.Ytmcapcclnkicbab
