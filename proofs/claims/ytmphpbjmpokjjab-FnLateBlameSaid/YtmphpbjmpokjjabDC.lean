/- Draws: a number and a timetable. -/
import Derived.Test.YtmphpbjmpokjjabDB
namespace Go.Proofs.Ytmphpbjmpokjjab
open Go.RowKit

/-- What a drawn number and timetable are. -/
def DrawnOne (g : Nat) (l : List Int) (p : Nat) (w : World) (e : Ending) (w' : World) : Prop :=
  ∃ (n : Int) (ad : Option Addr) (cap : Nat) (xs : List Rd) (p' : Nat), e = .returned (.tuple #[.int .i64 n, .slice ad xs.length cap]) ∧ 2 ≤ n ∧ n ≤ 6 ∧ xs.length ≤ cap ∧ xs.length ≤ 8 ∧ OwnRd w' ad xs ∧
    (∀ j, inBlk ad j → w.heap.size ≤ j ∧ j < w'.heap.size) ∧ Reader w' g l p' ∧ p' ≤ p + 42 ∧ Touch (fun j => j = g) w w'

set_option maxRecDepth 100000 in
set_option maxHeartbeats 400000 in
theorem one91_any (g : Nat) (l : List Int) (p : Nat) (w : World) (h : Reader w g l p) (hp : p ≤ 100) :
    Calls Try.prog 53 #[.pointer (some ⟨g, 0, none⟩)] w (DrawnOne g l p w) := by
  have Hr := Lib.hid h; clear h
  go_enter Try.func53, Try.ntmps53
  go_wp2_with fail
  refine (pick_any g l p 5 _ Hr.out (by omega) (by omega)).mono ?_; rintro e w1 ⟨⟨x, rfl, hx0, hx1⟩, hr1, hg1⟩
  have hx5 : x < 5 := by omega
  clear hx1
  have HT1 := Lib.hid (Touch.grown (S := fun j => j = g) hg1 rfl)
  have Hr1 := Lib.hid hr1
  clear hr1 hg1
  go_wp2_with fail
  refine (pick_any g l (p + 1) 700 _ Hr1.out (by omega) (by omega)).mono ?_; rintro e w2 ⟨⟨y, rfl, hy0, hy1⟩, hr2, hg2⟩
  have hy7 : y < 700 := by omega
  clear hy1
  have HT2 := Lib.hid (HT1.out.trans (Touch.grown hg2 rfl))
  have Hr2 := Lib.hid hr2
  clear hr2 hg2
  go_wp2_with fail
  refine (stops91_any g l (p + 1 + 1) (2 + x) y _ Hr2.out (by omega) (by omega) (by omega) (by omega) (by omega)).mono ?_
  rintro e w3 ⟨ad, cap, xs, p', rfl, hcap, h8, hown, hblk, hr3, hp3, ht3⟩
  have H := Lib.hid (And.intro hown (And.intro hblk (And.intro hr3 ht3)))
  clear hown hblk hr3 ht3
  go_wp2
  go_ret2
  exact ⟨2 + x, ad, cap, xs, p', rfl, by omega, by omega, hcap, h8, H.out.1, fun j hj => ⟨Nat.le_trans HT2.out.size (H.out.2.1 j hj).1, (H.out.2.1 j hj).2⟩, H.out.2.2.1, by omega, HT2.out.trans H.out.2.2.2⟩

/-- What is drawn, for the law. -/
def DrawnNS (w : World) (e : Ending) (w' : World) : Prop :=
  ∃ (n : Int) (ad : Option Addr) (cap : Nat) (xs : List Rd), e = .returned (.tuple #[.int .i64 n, .slice ad xs.length cap]) ∧ 2 ≤ n ∧ n ≤ 6 ∧ xs.length ≤ cap ∧ xs.length ≤ 8 ∧ OwnRd w' ad xs ∧ Below w.heap.size w w'



end Go.Proofs.Ytmphpbjmpokjjab
