/- RoadsLength, of the model and of the program. -/
import Derived.Test.YtapdhakhpgnpeaaW5
namespace Go.Proofs.Ytapdhakhpgnpeaa
open Go.RowKit

/-- The Miles of the first k roads. -/
def lenTo (l : List Rd) : Nat → Int
  | 0 => 0
  | k + 1 => lenTo l k + (l.getD k rd0).m

theorem lenTo_bd {n : Int} {l : List Rd} (h : validR n l = true) : ∀ (k : Nat), k ≤ l.length → 0 ≤ lenTo l k ∧ lenTo l k ≤ 99 * (k : Int)
  | 0, _ => by simp [lenTo]
  | k + 1, hk => by
    have ih := lenTo_bd h k (by omega)
    have := (fits_iff n _).1 ((okAt_iff n l k).1 (okTo_at n l (valid_bounds h).2.2.2 (show k < l.length by omega))).1
    simp only [lenTo]; omega

/-- What RoadsLength is. -/
def lengthOf (n : Int) (l : List Rd) : Int := if validR n l = true then lenTo l l.length else -1

def LenRel (l : List Rd) (w : World) (s i : Value) (wr : World) : Prop := ∃ k : Nat, k ≤ l.length ∧ i = .int .i64 k ∧ s = .int .i64 (lenTo l k) ∧ Below w.heap.size w wr

set_option maxHeartbeats 400000 in
theorem specLength_any (n : Int) (v : Value) (l : List Rd) (w : World) (hv : RoadsIn w v l) (hl : l.length ≤ 1048576) :
    Calls Try.prog 34 #[.int .i64 n, v] w (Gives (.int .i64 (lengthOf n l)) w) := by
  have h2 := specValid_any n v l w hv hl
  obtain ⟨ad, cap, rfl, ha⟩ := hv
  have Ha := Lib.hid ha; clear ha
  have H2 := Lib.hid h2; clear h2
  cases hz : validR n l with
  | false =>
    have hd : lengthOf n l = -1 := by unfold lengthOf; rw [hz]; rfl
    have Hd := Lib.hid hd; clear hd
    have Hz := Lib.hid hz; rw [hz] at H2; clear hz
    go_enter Try.func34, Try.ntmps34
    go_wp2_with fail
    refine (H2.out).mono ?_
    rintro e w' ⟨rfl, hb⟩
    go_wp2
    go_ret
    exact ⟨ret_int Hd.out.symm, hb⟩
  | true =>
    have hd : lengthOf n l = lenTo l l.length := by unfold lengthOf; rw [hz]; rfl
    have Hd := Lib.hid hd; clear hd
    have Hz := Lib.hid hz; rw [hz] at H2; clear hz
    go_enter Try.func34, Try.ntmps34
    go_wp2_with fail
    refine (H2.out).mono ?_
    rintro e w' ⟨rfl, hb⟩
    go_wp2
    go_loopw [5, 6] (fun s i wr => LenRel l w s i wr) (fun _ i _ => l.length - (intOf i).toNat)
    case atStart => exact ⟨0, Nat.zero_le _, rfl, rfl, hb⟩
    case round =>
      obtain ⟨k, hk, rfl, rfl, hbel⟩ := hrel
      by_cases hlt : k < l.length
      · obtain ⟨bb, o, rfl, hb0, hrw⟩ := Ha.out (by intro h; simp [h] at hlt)
        obtain ⟨_, _, c2⟩ := (hrw.below hbel hb0) k hlt
        have Hrw := Lib.hid hrw; clear hrw
        have hbd := lenTo_bd Hz.out k (by omega)
        have hbd2 := lenTo_bd Hz.out (k + 1) (by omega)
        have hs : lenTo l (k + 1) = lenTo l k + (l.getD k rd0).m := rfl
        rw [hs] at hbd2
        have Hs := Lib.hid hs; clear hs
        have h16 := (valid_bounds Hz.out).2.2.1
        have hx := getD_eq l hlt
        have Hx := Lib.hid hx; clear hx
        generalize (l.getD k rd0).m = rm at *
        generalize lenTo l k = sk at *
        obtain ⟨g1, g2⟩ := hbd2
        go_wp2
        refine ⟨⟨k + 1, hlt, by go_num, by rw [Hs.out], hbel⟩, by simp [intOf]; omega⟩
      · obtain rfl : k = l.length := by omega
        go_wp2
        go_ret
        exact ⟨ret_int Hd.out.symm, hbel⟩

set_option maxHeartbeats 400000 in
theorem length2_any (n : Int) (v : Value) (l : List Rd) (w : World) (hv : RoadsIn w v l) (hl : l.length ≤ 1048576) (hw : RdWf l) :
    Calls Try.prog 35 #[.int .i64 n, v] w (Gives (.int .i64 (lengthOf n l)) w) := by
  have h2 := roadsValid_any n v l w hv hl hw
  obtain ⟨ad, cap, rfl, ha⟩ := hv
  have Ha := Lib.hid ha; clear ha
  have H2 := Lib.hid h2; clear h2
  cases hz : validR n l with
  | false =>
    have hd : lengthOf n l = -1 := by unfold lengthOf; rw [hz]; rfl
    have Hd := Lib.hid hd; clear hd
    have Hz := Lib.hid hz; rw [hz] at H2; clear hz
    go_enter Try.func35, Try.ntmps35
    go_wp2_with fail
    refine (H2.out).mono ?_
    rintro e w' ⟨rfl, hb⟩
    go_wp2
    go_ret
    exact ⟨ret_int Hd.out.symm, hb⟩
  | true =>
    have hd : lengthOf n l = lenTo l l.length := by unfold lengthOf; rw [hz]; rfl
    have Hd := Lib.hid hd; clear hd
    have Hz := Lib.hid hz; rw [hz] at H2; clear hz
    go_enter Try.func35, Try.ntmps35
    go_wp2_with fail
    refine (H2.out).mono ?_
    rintro e w' ⟨rfl, hb⟩
    go_wp2
    go_loopw [5, 14] (fun s i wr => LenRel l w s i wr) (fun _ i _ => l.length - (intOf i).toNat)
    case atStart => exact ⟨0, Nat.zero_le _, rfl, rfl, hb⟩
    case round =>
      obtain ⟨k, hk, rfl, rfl, hbel⟩ := hrel
      by_cases hlt : k < l.length
      · obtain ⟨bb, o, rfl, hb0, hrw⟩ := Ha.out (by intro h; simp [h] at hlt)
        obtain ⟨c0, c1, c2⟩ := (hrw.below hbel hb0) k hlt
        have Hrw := Lib.hid hrw; clear hrw
        have hbd2 := lenTo_bd Hz.out (k + 1) (by omega)
        have hs : lenTo l (k + 1) = lenTo l k + (l.getD k rd0).m := rfl
        rw [hs] at hbd2
        have Hs := Lib.hid hs; clear hs
        have h16 := (valid_bounds Hz.out).2.2.1
        generalize (l.getD k rd0).m = rm at *
        generalize (l.getD k rd0).a = ra at *
        generalize (l.getD k rd0).b = rb at *
        generalize lenTo l k = sk at *
        obtain ⟨g1, g2⟩ := hbd2
        go_wp2
        refine ⟨⟨k + 1, hlt, by go_num, by rw [Hs.out], hbel.alloc hbel.size _⟩, by simp [intOf]; omega⟩
      · obtain rfl : k = l.length := by omega
        go_wp2
        go_ret
        exact ⟨ret_int Hd.out.symm, hbel⟩

end Go.Proofs.Ytapdhakhpgnpeaa
