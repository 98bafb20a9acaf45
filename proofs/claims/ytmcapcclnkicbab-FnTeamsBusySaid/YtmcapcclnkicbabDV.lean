/- Draws: runs and a rest (l91Team), and what the laws draw of them. -/
import Derived.Test.YtmcapcclnkicbabDU
namespace Go.Proofs.Ytmcapcclnkicbab
open Go.RowKit

set_option maxRecDepth 100000 in
set_option maxHeartbeats 1000000 in
theorem team91_any (g : Nat) (l : List Int) (p : Nat) (w : World) (h : Reader w g l p) (hp : p ≤ 900) :
    Calls Try.prog 19 #[.pointer (some ⟨g, 0, none⟩)] w fun e w' =>
      ∃ (ad : Option Addr) (cap : Nat) (xs : List Rn) (x : Int) (p' : Nat), e = .returned (.tuple #[.slice ad xs.length cap, .int .i64 x]) ∧ xs.length ≤ cap ∧ xs.length ≤ 8 ∧ -1 ≤ x ∧ x ≤ 601 ∧ OwnRn w' ad xs ∧
        (∀ j, inBlk ad j → w.heap.size ≤ j ∧ j < w'.heap.size) ∧ Reader w' g l p' ∧ p' ≤ p + 80 ∧ Touch (fun j => j = g) w w' := by
  have hgl := h.lt
  have Hr0 := Lib.hid h; clear h
  go_enter Try.func19, Try.ntmps19
  go_wp2_with fail
  refine (runs91_any g l p _ Hr0.out (by omega)).mono ?_; rintro e w1 ⟨ad, cap, xs, p1, rfl, hcap, h8, hown, hblk, hr1, hp1, ht1⟩
  have Hown := Lib.hid hown; have Hblk := Lib.hid hblk; have Hr1 := Lib.hid hr1; have HT1 := Lib.hid ht1
  clear hown hblk hr1 ht1
  go_wp2_with fail
  refine (rest91_any g l p1 _ Hr1.out (by omega)).mono ?_; rintro e w2 ⟨x, p2, rfl, hx0, hx1, hr2, hp2, ht2⟩
  have Hown2 := Lib.hid (Hown.out.touch ht2 (fun j hj e => by have := (Hblk.out j hj).1; omega))
  have Hs2 := Lib.hid ht2.size
  have Hr2 := Lib.hid hr2; have HT2 := Lib.hid (HT1.out.trans ht2)
  clear hr2 ht2
  go_wp2
  go_ret2
  exact ⟨ad, cap, xs, x, p2, rfl, hcap, h8, hx0, hx1, Hown2.out, fun j hj => ⟨(Hblk.out j hj).1, Nat.lt_of_lt_of_le (Hblk.out j hj).2 Hs2.out⟩, Hr2.out, by omega, HT2.out⟩

/-- What is drawn, for a law: runs and a number. -/
def DrawnUR (w : World) (e : Ending) (w' : World) : Prop :=
  ∃ (ad : Option Addr) (cap : Nat) (xs : List Rn) (x : Int), e = .returned (.tuple #[.slice ad xs.length cap, .int .i64 x]) ∧ xs.length ≤ cap ∧ xs.length ≤ 8 ∧ -4 ≤ x ∧ x ≤ 601 ∧ OwnRn w' ad xs ∧ (∀ j, inBlk ad j → w.heap.size ≤ j ∧ j < w'.heap.size) ∧ Below w.heap.size w w'

set_option maxHeartbeats 400000 in
theorem drawLeast_any (v : Value) (l : List Int) (w : World) (hv : BytesIn w v l) (hm : l.length ≤ 1048576) :
    Calls Try.prog 7 #[v] w (DrawnUR w) := by
  have Hv := Lib.hid hv; clear hv
  go_enter Try.func7, Try.ntmps7
  go_wp2_with fail
  refine (l6Open_any _ l _ Hv.out hm).mono ?_; rintro e w1 ⟨rfl, ⟨l', hr⟩, hb, hs⟩
  have Hs := Lib.hid hs; clear hs
  go_wp2_with fail
  refine (team91_any _ l' 0 _ hr (by omega)).mono ?_; rintro e w2 ⟨ad, cap, xs, x, p', rfl, hcap, h8, hx0, hx1, hown, hblk, _, _, ht⟩
  have H := Lib.hid (And.intro hown (And.intro hblk ht))
  clear hown hblk ht hr
  go_wp2
  go_ret2
  exact ⟨ad, cap, xs, x, rfl, hcap, h8, by omega, hx1, H.out.1, fun j hj => ⟨Nat.le_trans hb.size (H.out.2.1 j hj).1, (H.out.2.1 j hj).2⟩, hb.trans (H.out.2.2.below (fun j hj => by rw [hj]; exact Nat.le_refl _) hb.size)⟩

set_option maxHeartbeats 400000 in
theorem drawPeak_any (v : Value) (l : List Int) (w : World) (hv : BytesIn w v l) (hm : l.length ≤ 1048576) :
    Calls Try.prog 14 #[v] w (DrawnUR w) := by
  have Hv := Lib.hid hv; clear hv
  go_enter Try.func14, Try.ntmps14
  go_wp2_with fail
  refine (l6Open_any _ l _ Hv.out hm).mono ?_; rintro e w1 ⟨rfl, ⟨l', hr⟩, hb, hs⟩
  have Hs := Lib.hid hs; clear hs
  go_wp2_with fail
  refine (team91_any _ l' 0 _ hr (by omega)).mono ?_; rintro e w2 ⟨ad, cap, xs, x, p', rfl, hcap, h8, hx0, hx1, hown, hblk, _, _, ht⟩
  have H := Lib.hid (And.intro hown (And.intro hblk ht))
  clear hown hblk ht hr
  go_wp2
  go_ret2
  exact ⟨ad, cap, xs, x, rfl, hcap, h8, by omega, hx1, H.out.1, fun j hj => ⟨Nat.le_trans hb.size (H.out.2.1 j hj).1, (H.out.2.1 j hj).2⟩, hb.trans (H.out.2.2.below (fun j hj => by rw [hj]; exact Nat.le_refl _) hb.size)⟩

end Go.Proofs.Ytmcapcclnkicbab
