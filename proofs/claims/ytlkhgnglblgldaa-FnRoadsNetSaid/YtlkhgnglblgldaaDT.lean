/- Draws: roads that are often whole (l91Whole), and what the laws draw of them. -/
import Derived.Test.YtlkhgnglblgldaaDR
namespace Go.Proofs.Ytlkhgnglblgldaa
open Go.RowKit

def DwRel (g : Nat) (l : List Int) (n : Int) (w : World) (v iv : Value) (wr : World) : Prop :=
  ∃ (i : Nat) (ad : Addr) (cap : Nat) (xs : List Rd) (p' : Nat), 1 ≤ i ∧ (i : Int) ≤ n ∧ iv = .int .i64 i ∧ v = .slice (some ad) xs.length cap ∧ xs.length ≤ cap ∧ xs.length ≤ 20 ∧ RdB xs ∧
    OwnRz wr (some ad) xs ∧ (∀ j, inBlk (some ad) j → w.heap.size ≤ j ∧ j < wr.heap.size) ∧ Reader wr g l p' ∧ p' ≤ 200 + 3 * i ∧ Touch (fun j => j = g) w wr

/-- What drawn roads are, for a law. -/
def DrawnWh (g : Nat) (l : List Int) (w : World) (e : Ending) (w' : World) : Prop :=
  ∃ (n : Int) (ad : Option Addr) (cap : Nat) (xs : List Rd), e = .returned (.tuple #[.int .i64 n, .slice ad xs.length cap]) ∧ 2 ≤ n ∧ n ≤ 6 ∧ xs.length ≤ cap ∧ xs.length ≤ 20 ∧ RdB xs ∧ OwnRz w' ad xs ∧
    (∀ j, inBlk ad j → w.heap.size ≤ j ∧ j < w'.heap.size) ∧ Touch (fun j => j = g) w w'

theorem addR_len16 (n : Int) (l : List Rd) (r : Rd) : (addR n l r).length ≤ 16 := addR_short n l r

set_option maxRecDepth 100000 in
set_option maxHeartbeats 2000000 in
theorem whole91_any (g : Nat) (l : List Int) (w : World) (h : Reader w g l 0) :
    Calls Try.prog 64 #[.pointer (some ⟨g, 0, none⟩)] w (DrawnWh g l w) := by
  have hgl := h.lt
  have Hr0 := Lib.hid h; clear h
  go_enter Try.func64, Try.ntmps64
  go_wp2_with fail
  refine (roads91_any g l 0 _ Hr0.out (by omega)).mono ?_; rintro e w1 ⟨n, ad0, cap0, xs0, p1, rfl, hn2, hn6, hcap, h11, hbd, hown, hblk, hr1, hp1, ht1, hne⟩
  obtain ⟨ad1, rfl⟩ : ∃ a, ad0 = some a := by cases ad0 with
    | none => exact absurd rfl hne
    | some a => exact ⟨a, rfl⟩
  have H1 := Lib.hid (And.intro hcap (And.intro hbd (And.intro hown (And.intro hblk (And.intro hr1 ht1)))))
  clear hne hcap hbd hown hblk hr1 ht1
  go_wp2
  go_loopw [5, 6] (fun v iv wr => DwRel g l n w v iv wr) (fun _ i _ => 20 - (intOf i).toNat)
  case atStart => exact ⟨1, ad1, cap0, xs0, p1, Nat.le_refl _, by omega, rfl, rfl, H1.out.1, by omega, H1.out.2.1, H1.out.2.2.1, H1.out.2.2.2.1, H1.out.2.2.2.2.1, by omega, H1.out.2.2.2.2.2⟩
  case round =>
    obtain ⟨i, ad, cap, xs, p', hi1, hin, rfl, rfl, hcap, h20, hbd, hown, hblk, hrd, hp', htc⟩ := hrel
    have Hown := Lib.hid hown; have Hblk := Lib.hid hblk; have Hrd := Lib.hid hrd; have Htc := Lib.hid htc; have Hcap := Lib.hid hcap; have Hbd := Lib.hid hbd
    clear hown hblk hrd htc hcap hbd
    have Hkeep := Lib.hid (show ∀ w2, Touch (fun j => j = g) wr w2 → OwnRz w2 (some ad) xs ∧ ∀ j, inBlk (some ad) j → w.heap.size ≤ j ∧ j < w2.heap.size from fun w2 ht => ⟨Hown.out.touch ht (fun j hj e => by have := (Hblk.out j hj).1; omega), fun j hj => ⟨(Hblk.out j hj).1, Nat.lt_of_lt_of_le (Hblk.out j hj).2 ht.size⟩⟩)
    by_cases hgo : (i : Int) < n
    · go_wp2_with fail
      refine (pick_any g l p' 10 _ Hrd.out (by omega) (by omega)).mono ?_; rintro e w3 ⟨⟨c, rfl, hc0, hc1⟩, hr3, hg3⟩
      have ht3 := Touch.grown (S := fun j => j = g) hg3 rfl
      have HK3 := Lib.hid (Hkeep.out _ ht3)
      have HT3 := Lib.hid (Htc.out.trans ht3)
      have HS3 := Lib.hid ht3
      have HR3 := Lib.hid hr3
      clear hc1 hr3 hg3 ht3
      rcases (by omega : c = 0 ∨ c > 0) with rfl | hcp
      · go_wp2
        go_ret2
        exact ⟨n, _, cap, xs, rfl, hn2, hn6, Hcap.out, h20, Hbd.out, HK3.out.1, HK3.out.2, HT3.out⟩
      · go_wp2_with fail
        refine (pick_any g l (p' + 1) (i : Int) _ HR3.out (by omega) (by omega)).mono ?_; rintro e w4 ⟨⟨a, rfl, ha0, ha1⟩, hr4, hg4⟩
        have ht4 := HS3.out.trans (Touch.grown (S := fun j => j = g) hg4 rfl)
        have HS4 := Lib.hid ht4
        have HT4 := Lib.hid (Htc.out.trans ht4)
        have HR4 := Lib.hid hr4
        have ha2 : a < (i : Int) := by omega
        clear ha1 hr4 hg4 ht4
        go_wp2_with fail
        refine (pick_any g l (p' + 1 + 1) 9 _ HR4.out (by omega) (by omega)).mono ?_; rintro e w5 ⟨⟨d, rfl, hd0, hd1⟩, hr5, hg5⟩
        have ht5 := HS4.out.trans (Touch.grown (S := fun j => j = g) hg5 rfl)
        have HK5 := Lib.hid (Hkeep.out _ ht5)
        have HT5 := Lib.hid (Htc.out.trans ht5)
        have HR5 := Lib.hid hr5
        have hd2 : d < 9 := by omega
        clear hd1 hr5 hg5 ht5
        have Hadd := Lib.hid (fun w' (h : OwnRz w' (some ad) xs) => radd1_any n ad cap xs ⟨a, (i : Int), 1 + d⟩ w' (h.ins Hcap.out) (by omega))
        have HBd := Lib.hid (addR_bd (n := n) Hbd.out (show -1000 ≤ a ∧ a ≤ 1000 ∧ -1000 ≤ (i : Int) ∧ (i : Int) ≤ 1000 ∧ -1000 ≤ 1 + d ∧ 1 + d ≤ 1000 by omega))
        have hlen := addR_len16 n xs ⟨a, (i : Int), 1 + d⟩
        generalize addR n xs ⟨a, (i : Int), 1 + d⟩ = ys at *
        generalize addROk n xs ⟨a, (i : Int), 1 + d⟩ = ok at *
        go_wp2_with fail
        refine (Hadd.out _ HK5.out.1).mono ?_; rintro e wq ⟨ad2, cap2, rfl, hcap2, hrow2, hb2⟩
        have hs5 := HT5.out.size
        have HTq := Lib.hid (HT5.out.belowB (hb2.mono hs5))
        have HRq := Lib.hid (HR5.out.belowB hb2 HR5.out.lt)
        have HKq := Lib.hid (show OwnRz wq (some ad) xs ∧ ∀ j, inBlk (some ad) j → w.heap.size ≤ j ∧ j < wq.heap.size from ⟨HK5.out.1.below hb2, fun j hj => ⟨(HK5.out.2 j hj).1, Nat.lt_of_lt_of_le (HK5.out.2 j hj).2 hb2.size⟩⟩)
        have HYq := Lib.hid (show OwnRz wq (some ad2) ys ∧ ∀ j, inBlk (some ad2) j → w.heap.size ≤ j ∧ j < wq.heap.size from by
          obtain ⟨_, _, he, _, ho, hb⟩ := hrow2.row
          cases he
          exact ⟨ho, fun j hj => ⟨Nat.le_trans hs5 (hb j hj).1, (hb j hj).2⟩⟩)
        have Hcap2 := Lib.hid hcap2
        clear hrow2 hb2 hcap2
        cases ok with
        | false =>
          go_wp2
          exact ⟨⟨i + 1, ad, cap, xs, _, by omega, by omega, by go_num, rfl, Hcap.out, h20, Hbd.out, HKq.out.1, HKq.out.2, HRq.out, by omega, HTq.out⟩, by simp [intOf]; omega⟩
        | true =>
          go_wp2
          exact ⟨⟨i + 1, ad2, cap2, ys, _, by omega, by omega, by go_num, rfl, Hcap2.out, by omega, HBd.out, HYq.out.1, HYq.out.2, HRq.out, by omega, HTq.out⟩, by simp [intOf]; omega⟩
    · go_wp2
      go_ret2
      exact ⟨n, _, cap, xs, rfl, hn2, hn6, Hcap.out, h20, Hbd.out, Hown.out, Hblk.out, Htc.out⟩

/-- What is drawn, for a law: roads. -/
def DrawnR1 (w : World) (e : Ending) (w' : World) : Prop :=
  ∃ (n : Int) (ad : Option Addr) (cap : Nat) (xs : List Rd), e = .returned (.tuple #[.int .i64 n, .slice ad xs.length cap]) ∧ 2 ≤ n ∧ n ≤ 6 ∧ xs.length ≤ cap ∧ xs.length ≤ 20 ∧ RdB xs ∧ OwnRz w' ad xs ∧ (∀ j, inBlk ad j → w.heap.size ≤ j ∧ j < w'.heap.size) ∧ Below w.heap.size w w'

set_option maxHeartbeats 400000 in
theorem drawNet_any (v : Value) (l : List Int) (w : World) (hv : BytesIn w v l) (hm : l.length ≤ 1048576) :
    Calls Try.prog 28 #[v] w (DrawnR1 w) := by
  have Hv := Lib.hid hv; clear hv
  go_enter Try.func28, Try.ntmps28
  go_wp2_with fail
  refine (l6Open_any _ l _ Hv.out hm).mono ?_; rintro e w1 ⟨rfl, ⟨l', hr⟩, hb, hs⟩
  have Hs := Lib.hid hs; clear hs
  go_wp2_with fail
  refine (whole91_any _ l' _ hr).mono ?_; rintro e w2 ⟨n, ad, cap, xs, rfl, hn2, hn6, hcap, h11, hbd, hown, hblk, ht⟩
  have H := Lib.hid (And.intro hown (And.intro hblk (And.intro ht hbd)))
  clear hown hblk ht hr hbd
  go_wp2
  go_ret2
  exact ⟨n, ad, cap, xs, rfl, hn2, hn6, hcap, h11, H.out.2.2.2, H.out.1, fun j hj => ⟨Nat.le_trans hb.size (H.out.2.1 j hj).1, (H.out.2.1 j hj).2⟩, hb.trans (H.out.2.2.1.below (fun j hj => by rw [hj]; exact Nat.le_refl _) hb.size)⟩

end Go.Proofs.Ytlkhgnglblgldaa
