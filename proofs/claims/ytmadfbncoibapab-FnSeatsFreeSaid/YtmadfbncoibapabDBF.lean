/- Draws: two stops (l92Stretch), what SeatsFree is asked (DrawSeatsFree). -/
import Derived.Test.YtmadfbncoibapabDBB
namespace Go.Proofs.Ytmadfbncoibapab
open Go.RowKit

theorem stretch92_any (g : Nat) (l : List Int) (p : Nat) (n : Int) (w : World) (h : Reader w g l p) (hp : p ≤ 2000) (hn : 1 ≤ n) (hn6 : n ≤ 6) :
    Calls Try.prog 51 #[.pointer (some ⟨g, 0, none⟩), .int .i64 n] w fun e w' =>
      ∃ (x y : Int) (p' : Nat), e = .returned (.tuple #[.int .i64 x, .int .i64 y]) ∧ 0 ≤ x ∧ x ≤ 6 ∧ 0 ≤ y ∧ y ≤ 13 ∧ Reader w' g l p' ∧ p' ≤ p + 3 ∧ Touch (fun j => j = g) w w' := by
  have Hr0 := Lib.hid h; clear h
  go_enter Try.func51, Try.ntmps51
  go_wp2_with fail
  refine (pick_any g l p n _ Hr0.out (by omega) (by omega)).mono ?_; rintro e w1 ⟨⟨x, rfl, hx0, hx1⟩, hr1, hg1⟩
  have HT1 := Lib.hid (Touch.grown (S := fun j => j = g) hg1 rfl)
  have Hr1 := Lib.hid hr1
  have hxn : x < n := by omega
  clear hr1 hg1 hx1
  go_wp2_with fail
  refine (pick_any g l (p + 1) 20 _ Hr1.out (by omega) (by omega)).mono ?_; rintro e w2 ⟨⟨c, rfl, hc0, hc1⟩, hr2, hg2⟩
  have HT2 := Lib.hid (HT1.out.trans (Touch.grown hg2 rfl))
  have Hr2 := Lib.hid hr2
  clear hr2 hg2 hc1
  by_cases q0 : c = 0
  · subst q0
    go_wp2
    go_ret2
    exact ⟨x, x, _, rfl, hx0, by omega, hx0, by omega, Hr2.out, by omega, HT2.out⟩
  · have q0' : (c == 0) = false := by simpa using q0
    by_cases q1 : c = 1
    · subst q1
      go_wp2
      go_ret2
      exact ⟨x, n + 1, _, rfl, hx0, by omega, by omega, by omega, Hr2.out, by omega, HT2.out⟩
    · have q1' : (c == 1) = false := by simpa using q1
      clear q0 q1
      go_wp2_with fail
      refine (pick_any g l (p + 1 + 1) (n - x) _ Hr2.out (by omega) (by omega)).mono ?_; rintro e w3 ⟨⟨y, rfl, hy0, hy1⟩, hr3, hg3⟩
      have HT3 := Lib.hid (HT2.out.trans (Touch.grown hg3 rfl))
      have Hr3 := Lib.hid hr3
      have hyn : y < n - x := by omega
      clear hr3 hg3 hy1
      go_wp2
      go_ret2
      exact ⟨x, x + 1 + y, _, rfl, hx0, by omega, by omega, by omega, Hr3.out, by omega, HT3.out⟩

/-- What is drawn for SeatsFree. -/
def DrawnB5 (w : World) (e : Ending) (w' : World) : Prop :=
  ∃ (n : Int) (ad : Addr) (cap : Nat) (xs : List Bk) (x y : Int) (m : Bool), e = .returned (.tuple #[.int .i64 n, .slice (some ad) xs.length cap, .int .i64 x, .int .i64 y, .bool m]) ∧ 1 ≤ n ∧ n ≤ 6 ∧ xs.length ≤ cap ∧ xs.length ≤ 12 ∧ 0 ≤ x ∧ x ≤ 6 ∧ 0 ≤ y ∧ y ≤ 13 ∧ OwnBk w' (some ad) xs ∧ Below w.heap.size w w'
set_option maxHeartbeats 1000000 in
theorem drawFree_any (v : Value) (l : List Int) (w : World) (hv : BytesIn w v l) (hm : l.length ≤ 1048576) :
    Calls Try.prog 11 #[v] w (DrawnB5 w) := by
  have Hv := Lib.hid hv; clear hv
  go_enter Try.func11, Try.ntmps11
  go_wp2_with fail
  refine (l6Open_any _ l _ Hv.out hm).mono ?_; rintro e w1 ⟨rfl, ⟨l', hr⟩, hb, hs⟩
  have Hs := Lib.hid hs; clear hs
  have HB1 := Lib.hid hb; clear hb
  go_wp2_with fail
  refine (books92_any _ l' 0 _ hr (by omega)).mono ?_; rintro e w2 ⟨n, ad, cap, xs, p', rfl, hn1, hn6, hcap, h12, hown, hblk, hr2, hp, ht, hnn⟩
  obtain ⟨ad, rfl⟩ : ∃ a, ad = some a := by cases ad with | none => exact absurd rfl hnn | some a => exact ⟨a, rfl⟩
  have hlt := hr.lt
  have hng : ∀ j, inBlk (some ad) j → ¬ j = w.heap.size := fun j hj e => by have := (hblk j hj).1; omega
  have Hng := Lib.hid hng
  have HO2 := Lib.hid hown
  have HT2 := Lib.hid ht
  have HR2 := Lib.hid hr2
  clear hown hblk ht hr hr2 hng hnn
  go_wp2_with fail
  refine (stretch92_any _ l' p' n _ HR2.out (by omega) hn1 hn6).mono ?_; rintro e w3 ⟨x, y, p3, rfl, hx0, hx6, hy0, hy13, hr3, hp3, ht3⟩
  have HO3 := Lib.hid (HO2.out.touch ht3 Hng.out)
  have HT3 := Lib.hid (HT2.out.trans ht3)
  have HR3 := Lib.hid hr3
  clear hr3 ht3
  go_wp2_with fail
  refine (pick_any _ l' p3 3 _ HR3.out (by omega) (by omega)).mono ?_; rintro e w4 ⟨⟨c, rfl, hc0, hc1⟩, hr4, hg4⟩
  have HO4 := Lib.hid (HO3.out.touch (Touch.grown (S := fun j => j = w.heap.size) hg4 rfl) Hng.out)
  have HT4 := Lib.hid (HT3.out.trans (Touch.grown (S := fun j => j = w.heap.size) hg4 rfl))
  clear hr4 hg4 hc1
  obtain ⟨m, hm'⟩ : ∃ m : Bool, decide (c > 0) = m := ⟨_, rfl⟩
  go_wp2
  refine bodyPost_ret (v := .tuple #[.int .i64 n, .slice (some ad) xs.length cap, .int .i64 x, .int .i64 y, .bool m]) (by simp [results, Try.results11, go_sem]) rfl ?_
  exact ⟨n, ad, cap, xs, x, y, m, rfl, hn1, hn6, hcap, h12, hx0, hx6, hy0, hy13, HO4.out, HB1.out.trans (HT4.out.below (fun j hj => by rw [hj]; exact Nat.le_refl _) HB1.out.size)⟩
theorem seatsOf_any (m : Bool) (w : World) : Calls Try.prog 15 #[.bool m] w (Quiet (.int .i64 (seatsB m : Nat)) w) := by
  cases m
  · go_enter Try.func15, Try.ntmps15
    go_wp2
    go_ret
    exact ⟨rfl, 0, rfl⟩
  · go_enter Try.func15, Try.ntmps15
    go_wp2
    go_ret
    exact ⟨rfl, 0, rfl⟩

end Go.Proofs.Ytmadfbncoibapab
