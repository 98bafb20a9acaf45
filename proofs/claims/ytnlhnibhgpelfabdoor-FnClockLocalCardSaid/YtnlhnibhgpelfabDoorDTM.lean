/- Draws: times (l91Time), DrawClockText, DrawClockLocal. -/
import Derived.Test.YtnlhnibhgpelfabDoorDK
import Derived.Test.YtnlhnibhgpelfabDoorHD
namespace Go.Proofs.YtnlhnibhgpelfabDoor
open Go.RowKit

theorem Reader.drew1 {w : World} {g : Nat} {l : List Int} {p : Nat} (h : Reader w g l p) : Reader w.drew g l p := h
theorem lit_after {w w' : World} {g b : Nat} {k : Nat} {v : Value} (hg : w.grownBy w' (some g)) (hn : b ≠ g) (hc : w.cell? ⟨b, k, none⟩ = some v) (hb : b < w.heap.size) : w'.cell? ⟨b, k, none⟩ = some v := by
  rw [World.cell?_of_block (a := ⟨b, k, none⟩) (hg.block b hb (fun e => by injection e with e; exact hn e))]; exact hc

def lit5 : Nat → Int
  | 0 => -1
  | 1 => 10000
  | 2 => 10001
  | 3 => 1439
  | _ => 1440
theorem lit5_at (w : World) (k : Nat) (h : (k : Int) < 5) : (w.alloc (.cells #[.int .i64 (-1), .int .i64 10000, .int .i64 10001, .int .i64 1439, .int .i64 1440] 3)).cell? ⟨w.heap.size, k, none⟩ = some (.int .i64 (lit5 k)) := by
  rcases (show k = 0 ∨ k = 1 ∨ k = 2 ∨ k = 3 ∨ k = 4 by omega) with rfl | rfl | rfl | rfl | rfl <;> simp [lit5]
theorem lit5_bd (k : Nat) : (-1 : Int) ≤ lit5 k ∧ lit5 k ≤ 10001 := by
  unfold lit5; split <;> omega

def TimeOut (g : Nat) (l : List Int) (p : Nat) (w : World) (e : Ending) (w' : World) : Prop :=
  ∃ (t : Int) (p' : Nat), e = .returned (.int .i64 t) ∧ -1 ≤ t ∧ t ≤ 10001 ∧ Reader w' g l p' ∧ p' ≤ p + 3 ∧ Touch (fun j => j = g) w w'

set_option maxRecDepth 100000 in
set_option maxHeartbeats 1000000 in
theorem time91_any (g : Nat) (l : List Int) (p : Nat) (w : World) (h : Reader w g l p) (hp : p ≤ 900000) :
    Calls Tryd.prog 16 #[.pointer (some ⟨g, 0, none⟩)] w (TimeOut g l p w) := by
  have H := Lib.hid h; clear h
  go_enter Tryd.func16, Tryd.ntmps16
  go_wp2_with fail
  refine (pick_any g l p 16 _ H.out (by omega) (by omega)).mono ?_; rintro e w1 ⟨⟨z, rfl, hz0, hz1⟩, hr1, hg1⟩
  have HT1 := Lib.hid (Touch.grown (S := fun j => j = g) hg1 rfl)
  have HR1 := Lib.hid hr1
  clear hr1 hg1 hz1
  by_cases q : z = 0
  · subst q
    have hgl := HR1.out.lt
    have HA := Lib.hid (show Below w1.heap.size w1 (w1.alloc (.cells #[.int .i64 (-1), .int .i64 10000, .int .i64 10001, .int .i64 1439, .int .i64 1440] 3)) from (Below.refl _ _).alloc (Nat.le_refl _) _)
    go_wp2_with fail
    refine (pick_any g l (p + 1) 5 _ (HR1.out.belowB HA.out hgl) (by omega) (by omega)).mono ?_; rintro e w2 ⟨⟨k, rfl, hk0, hk1⟩, hr2, hg2⟩
    obtain ⟨k, rfl⟩ : ∃ j : Nat, k = (j : Int) := ⟨k.toNat, by omega⟩
    have hk5 : (k : Int) < 5 := by omega
    have d := lit_after (b := w1.heap.size) (k := k) hg2 (Nat.ne_of_gt hgl) (lit5_at w1 k hk5) (by simp)
    have HT2 := Lib.hid ((HT1.out.belowB (HA.out.mono HT1.out.size)).trans (Touch.grown (S := fun j => j = g) hg2 rfl))
    have HR2 := Lib.hid hr2
    have Hb := Lib.hid (lit5_bd k)
    generalize lit5 k = y at *
    clear hr2 hg2 hk1
    go_wp2
    go_ret
    exact ⟨y, p + 1 + 1, rfl, Hb.out.1, Hb.out.2, HR2.out, by omega, HT2.out⟩
  · have q' : (z == 0) = false := by simpa using q
    go_wp2_with fail
    refine (pick_any g l (p + 1) 100 _ HR1.out (by omega) (by omega)).mono ?_; rintro e w2 ⟨⟨a, rfl, ha0, ha1⟩, hr2, hg2⟩
    have HT2 := Lib.hid (HT1.out.trans (Touch.grown (S := fun j => j = g) hg2 rfl))
    have HR2 := Lib.hid hr2
    have ha2 : a ≤ 99 := by omega
    clear hr2 hg2 ha1
    go_wp2_with fail
    refine (pick_any g l (p + 1 + 1) 40 _ HR2.out (by omega) (by omega)).mono ?_; rintro e w3 ⟨⟨b, rfl, hb0, hb1⟩, hr3, hg3⟩
    have HT3 := Lib.hid (HT2.out.trans (Touch.grown (S := fun j => j = g) hg3 rfl))
    have HR3 := Lib.hid hr3
    have hb2 : b ≤ 39 := by omega
    clear hr3 hg3 hb1
    have hp0 : 0 ≤ a * b := Int.mul_nonneg ha0 hb0
    have hp1 : a * b ≤ 3861 := by
      have h1 : a * b ≤ 99 * b := Int.mul_le_mul_of_nonneg_right ha2 hb0
      omega
    have hw : wrap64 (a * b) = a * b := wrap64_ok (by omega) (by omega)
    go_wp2
    go_ret
    exact ⟨a * b, p + 1 + 1 + 1, rfl, by omega, by omega, HR3.out, by omega, HT3.out⟩

def DrawnT (w : World) (e : Ending) (w' : World) : Prop := ∃ t : Int, e = .returned (.int .i64 t) ∧ -1 ≤ t ∧ t ≤ 10001 ∧ Below w.heap.size w w'

set_option maxHeartbeats 1000000 in
theorem drawClockText_any (v : Value) (l : List Int) (w : World) (hv : BytesIn w v l) (hm : l.length ≤ 1048576) :
    Calls Tryd.prog 6 #[v] w (DrawnT w) := by
  have Hv := Lib.hid hv; clear hv
  go_enter Tryd.func6, Tryd.ntmps6
  go_wp2_with fail
  refine (l6Open_any _ l _ Hv.out hm).mono ?_; rintro e w1 ⟨rfl, ⟨l', hr⟩, hb, hs⟩
  have HB1 := Lib.hid hb
  have HR := Lib.hid hr
  clear hb hr
  go_wp2_with fail
  refine (time91_any _ l' 0 _ HR.out (by omega)).mono ?_; rintro e w2 ⟨t, p', rfl, h0, h1, hr2, hp2, ht2⟩
  have HB2 := Lib.hid (HB1.out.trans (ht2.below (B := w.heap.size) (fun j hj => by rw [hj]; exact Nat.le_refl _) HB1.out.size))
  clear hr2 ht2
  go_wp2
  go_ret
  exact ⟨t, rfl, h0, h1, HB2.out⟩

end Go.Proofs.YtnlhnibhgpelfabDoor
