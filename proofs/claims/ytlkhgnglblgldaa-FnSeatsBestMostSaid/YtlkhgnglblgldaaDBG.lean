/- Draws: what SeatsBest is asked (DrawSeatsBest). -/
import Derived.Test.YtlkhgnglblgldaaDBB
namespace Go.Proofs.Ytlkhgnglblgldaa
open Go.RowKit

def DgRel (xs : List Bk) (w : World) (v iv : Value) (wr : World) : Prop :=
  ∃ (i : Nat) (ad : Addr) (cap : Nat) (ys : List Bk), i ≤ xs.length ∧ iv = .int .i64 i ∧ v = .slice (some ad) ys.length cap ∧ ys.length ≤ cap ∧ ys.length ≤ i ∧
    RowBk wr w.heap.size (.slice (some ad) ys.length cap) ys ∧ Below w.heap.size w wr

set_option maxRecDepth 100000 in
set_option maxHeartbeats 1000000 in
theorem drawBest_any (v : Value) (l : List Int) (w : World) (hv : BytesIn w v l) (hm : l.length ≤ 1048576) :
    Calls Try.prog 9 #[v] w (DrawnB2 w) := by
  have Hv := Lib.hid hv; clear hv
  go_enter Try.func9, Try.ntmps9
  go_wp2_with fail
  refine (l6Open_any _ l _ Hv.out hm).mono ?_; rintro e w1 ⟨rfl, ⟨l', hr⟩, hb, hs⟩
  have Hs := Lib.hid hs; clear hs
  have HB1 := Lib.hid hb; clear hb
  go_wp2_with fail
  refine (books92_any _ l' 0 _ hr (by omega)).mono ?_; rintro e w2 ⟨n, ad, cap, xs, p', rfl, hn1, hn6, hcap, h12, hown, hblk, hr2, hp, ht, hnn⟩
  have hng : ∀ j, inBlk ad j → ¬ j = w.heap.size := fun j hj e => by have := (hblk j hj).1; have := hr.lt; omega
  have HT2 := Lib.hid ht
  have Hng := Lib.hid hng
  have HO2 := Lib.hid hown
  have HR2 := Lib.hid hr2
  clear hown hblk ht hr hr2 hng hnn
  go_wp2_with fail
  refine (pick_any _ l' p' 6 _ HR2.out (by omega) (by omega)).mono ?_; rintro e w4 ⟨⟨c, rfl, hc0, hc1⟩, hr4, hg4⟩
  have HO4 := Lib.hid (HO2.out.touch (Touch.grown (S := fun j => j = w.heap.size) hg4 rfl) Hng.out)
  have HT4 := Lib.hid (HT2.out.trans (Touch.grown (S := fun j => j = w.heap.size) hg4 rfl))
  have HB4 := Lib.hid (HB1.out.trans (HT4.out.below (fun j hj => by rw [hj]; exact Nat.le_refl _) HB1.out.size))
  have hxs := HO4.out
  have Hx4 := Lib.hid (hxs.ins hcap)
  clear hr4 hg4 hc1 hxs
  by_cases q0 : c = 0
  · subst q0
    go_wp2
    go_ret2
    exact ⟨n, ad, cap, xs, rfl, hn1, hn6, hcap, h12, HO4.out, HB4.out⟩
  · have q0' : (c == 0) = false := by simpa using q0
    clear q0
    have HO := Lib.hid (RowBk.made w4 w4.heap.size (Nat.le_refl _))
    have hB0 : Below w4.heap.size w4 (w4.alloc (.cells #[] 31)) := (Below.refl _ _).alloc (Nat.le_refl _) _
    have HB0 := Lib.hid hB0
    have Hcap := Lib.hid hcap
    clear hB0 hcap
    go_wp2
    go_loopw [7, 8] (fun v iv wr => DgRel xs w4 v iv wr) (fun _ i _ => xs.length - (intOf i).toNat)
    case atStart => exact ⟨0, _, _, [], Nat.zero_le _, rfl, rfl, Nat.le_refl _, Nat.le_refl _, HO.out, HB0.out⟩
    case round =>
      clear HO HB0
      obtain ⟨i, ao, co, ys, hi, rfl, rfl, hco, hyl, hrow, hb⟩ := hrel
      by_cases hlt : i < xs.length
      · have hk' : (i : Int) < (xs.length : Int) := by omega
        have hk0 : (0 : Int) ≤ (i : Int) := Int.natCast_nonneg _
        have hX := Hx4.out.below hb
        obtain ⟨_, _, he, _, ha⟩ := hX
        cases he
        obtain ⟨b, o, rfl, hb0, hrw⟩ := ha (by intro h; simp [h] at hlt)
        obtain ⟨c0, c1, c2⟩ := hrw i hlt
        have HB := Lib.hid hb
        have HRow := Lib.hid hrow
        clear hrow hb ha hrw
        generalize (xs.getD i bk0).a = ra at *
        generalize (xs.getD i bk0).b = rb at *
        generalize (xs.getD i bk0).m = rm at *
        have wn : W64 n := by unfold W64; omega
        have hb5 : Below wr.heap.size wr (wr.alloc (.cells #[.int .i64 ra, .int .i64 rb, .bool true] 31)) := (Below.refl _ _).alloc (Nat.le_refl _) _
        have HB5 := Lib.hid (HB.out.trans (hb5.mono HB.out.size))
        have HR5 := Lib.hid (HRow.out.below hb5)
        have Hbook := Lib.hid (fun w' (h : RowBk w' w4.heap.size (.slice (some ao) ys.length co) ys) => book1_any n ao co ys ⟨ra, rb, true⟩ w' wn (h.inB hco) (by omega))
        have Hlen := Lib.hid (bookL_len n ys ⟨ra, rb, true⟩)
        have Hne := Lib.hid (show validB n (ys ++ [⟨ra, rb, true⟩]) = true → 0 < (bookL n ys ⟨ra, rb, true⟩).length from fun h => by rw [bookL_yes h]; simp)
        clear hb5
        go_wp2_with fail
        generalize wr.alloc (.cells #[.int .i64 ra, .int .i64 rb, .bool true] 31) = w5 at *
        refine (Hbook.out _ HR5.out).mono ?_; intro e wq hrow
        generalize bookL n ys ⟨ra, rb, true⟩ = zs at *
        generalize validB n (ys ++ [⟨ra, rb, true⟩]) = ok at *
        obtain ⟨ad2, cap2, rfl, hcap2, hrow2, hb2'⟩ := hrow.any
        have HBq := Lib.hid (HB5.out.trans (hb2'.mono HB5.out.size))
        have HOq := Lib.hid (RowBk.below HR5.out hb2')
        have hYq := hrow2.mono HB5.out.size
        clear hrow hrow2 hb2' c0 c1 c2
        cases ok with
        | false =>
          clear hYq
          go_wp2
          exact ⟨⟨i + 1, ao, co, ys, hlt, by go_num, rfl, hco, by omega, HOq.out, HBq.out⟩, by simp [intOf]; omega⟩
        | true =>
          obtain ⟨bq, rfl, _⟩ := hYq.first (Hne.out rfl)
          have HYq := Lib.hid hYq
          clear hYq
          go_wp2
          exact ⟨⟨i + 1, ⟨bq, 0, none⟩, cap2, zs, hlt, by go_num, rfl, hcap2, by have := Hlen.out; omega, HYq.out, HBq.out⟩, by simp [intOf]; omega⟩
      · obtain rfl : i = xs.length := by omega
        obtain ⟨ad', cap', he, hc', ho, hblk⟩ := hrow.row
        cases he
        have HF := Lib.hid (And.intro ho hblk)
        have HBf := Lib.hid (HB4.out.trans (hb.mono HB4.out.size))
        clear hrow ho hblk hb
        go_wp2
        go_ret2
        exact ⟨n, some ao, co, ys, rfl, hn1, hn6, hco, by omega, HF.out.1, HBf.out⟩

end Go.Proofs.Ytlkhgnglblgldaa
