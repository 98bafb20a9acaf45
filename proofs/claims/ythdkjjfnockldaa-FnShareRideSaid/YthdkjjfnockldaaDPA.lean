/- Draws: an amount (l92Amount), a road in parts and an amount (DrawShareMake, DrawShareDue). -/
import Derived.Test.YthdkjjfnockldaaDPT
namespace Go.Proofs.Ythdkjjfnockldaa
open Go.RowKit

theorem lit_aft {w w' : World} {g b : Nat} {k : Nat} {v : Value} (hg : w.grownBy w' (some g)) (hn : b ≠ g) (hc : w.cell? ⟨b, k, none⟩ = some v) (hb : b < w.heap.size) : w'.cell? ⟨b, k, none⟩ = some v := by
  rw [World.cell?_of_block (a := ⟨b, k, none⟩) (hg.block b hb (fun e => by injection e with e; exact hn e))]; exact hc
def lit4 : Nat → Int
  | 0 => -1
  | 1 => 0
  | 2 => 1000000
  | _ => 1000001
theorem lit4_at (w : World) (k : Nat) (h : (k : Int) < 4) : (w.alloc (.cells #[.int .i64 (-1), .int .i64 0, .int .i64 1000000, .int .i64 1000001] 3)).cell? ⟨w.heap.size, k, none⟩ = some (.int .i64 (lit4 k)) := by
  rcases (show k = 0 ∨ k = 1 ∨ k = 2 ∨ k = 3 by omega) with rfl | rfl | rfl | rfl <;> simp [lit4]
theorem lit4_bd (k : Nat) : (-1 : Int) ≤ lit4 k ∧ lit4 k ≤ 1000001 := by
  unfold lit4; split <;> omega

def AmtOut (g : Nat) (l : List Int) (p : Nat) (w : World) (e : Ending) (w' : World) : Prop :=
  ∃ (t : Int) (p' : Nat), e = .returned (.int .i64 t) ∧ -1 ≤ t ∧ t ≤ 1000001 ∧ Reader w' g l p' ∧ p' ≤ p + 2 ∧ Touch (fun j => j = g) w w'

set_option maxRecDepth 100000 in
set_option maxHeartbeats 1000000 in
theorem amount92_any (g : Nat) (l : List Int) (p : Nat) (w : World) (h : Reader w g l p) (hp : p ≤ 900000) :
    Calls Try.prog 72 #[.pointer (some ⟨g, 0, none⟩)] w (AmtOut g l p w) := by
  have H := Lib.hid h; clear h
  go_enter Try.func72, Try.ntmps72
  go_wp2_with fail
  refine (pick_any g l p 16 _ H.out (by omega) (by omega)).mono ?_; rintro e w1 ⟨⟨z, rfl, hz0, hz1⟩, hr1, hg1⟩
  have HT1 := Lib.hid (Touch.grown (S := fun j => j = g) hg1 rfl)
  have HR1 := Lib.hid hr1
  clear hr1 hg1 hz1
  by_cases q : z = 0
  · subst q
    have hgl := HR1.out.lt
    have HA := Lib.hid (show Below w1.heap.size w1 (w1.alloc (.cells #[.int .i64 (-1), .int .i64 0, .int .i64 1000000, .int .i64 1000001] 3)) from (Below.refl _ _).alloc (Nat.le_refl _) _)
    go_wp2_with fail
    refine (pick_any g l (p + 1) 4 _ (HR1.out.belowB HA.out hgl) (by omega) (by omega)).mono ?_; rintro e w2 ⟨⟨k, rfl, hk0, hk1⟩, hr2, hg2⟩
    obtain ⟨k, rfl⟩ : ∃ j : Nat, k = (j : Int) := ⟨k.toNat, by omega⟩
    have hk5 : (k : Int) < 4 := by omega
    have d := lit_aft (b := w1.heap.size) (k := k) hg2 (Nat.ne_of_gt hgl) (lit4_at w1 k hk5) (by simp)
    have HT2 := Lib.hid ((HT1.out.belowB (HA.out.mono HT1.out.size)).trans (Touch.grown (S := fun j => j = g) hg2 rfl))
    have HR2 := Lib.hid hr2
    have Hb := Lib.hid (lit4_bd k)
    generalize lit4 k = y at *
    clear hr2 hg2 hk1
    go_wp2
    go_ret
    exact ⟨y, p + 1 + 1, rfl, Hb.out.1, Hb.out.2, HR2.out, by omega, HT2.out⟩
  · have q' : (z == 0) = false := by simpa using q
    go_wp2_with fail
    refine (pick_any g l (p + 1) 200 _ HR1.out (by omega) (by omega)).mono ?_; rintro e w2 ⟨⟨a, rfl, ha0, ha1⟩, hr2, hg2⟩
    have HT2 := Lib.hid (HT1.out.trans (Touch.grown (S := fun j => j = g) hg2 rfl))
    have HR2 := Lib.hid hr2
    clear hr2 hg2
    go_wp2
    go_ret
    exact ⟨a, p + 1 + 1, rfl, by omega, by omega, HR2.out, by omega, HT2.out⟩

def DrawnPA (w : World) (e : Ending) (w' : World) : Prop := ∃ (v : Value) (xs : List Pt) (a : Int), e = .returned (.tuple #[v, .int .i64 a]) ∧ PtIn w' v xs ∧ xs.length ≤ 8 ∧ -1 ≤ a ∧ a ≤ 1000001 ∧ Below w.heap.size w w'

set_option maxRecDepth 100000 in
set_option maxHeartbeats 1000000 in
theorem drawShareMake_any (v : Value) (l : List Int) (w0 : World) (hv : BytesIn w0 v l) (hm : l.length ≤ 1048576) :
    Calls Try.prog 39 #[v] w0 (DrawnPA w0) := by
  have Hv := Lib.hid hv; clear hv
  go_enter Try.func39, Try.ntmps39
  go_wp2_with fail
  refine (l6Open_any _ l _ Hv.out hm).mono ?_; rintro e w1 ⟨rfl, ⟨l', hr⟩, hb, hs⟩
  have HB1 := Lib.hid hb; have HR1 := Lib.hid hr
  clear hb hr
  obtain ⟨g, hg⟩ : ∃ g, w0.heap.size = g := ⟨_, rfl⟩
  rw [hg] at HR1
  have Hg := Lib.hid (Nat.le_of_eq hg)
  rw [hg]
  clear hg
  go_wp2_with fail
  refine (parts92_any g l' 0 _ HR1.out (by omega)).mono ?_; rintro e w2 ⟨ad, cap, xs, p, rfl, hcp, hx8, hown, hblk, hr2, hp, htt⟩
  have hp40 : p ≤ 40 := by omega
  have HO2 := Lib.hid (And.intro hown (fun j hj => Nat.lt_of_lt_of_le HR1.out.lt (hblk j hj).1))
  have HR2 := Lib.hid hr2
  have HB2 := Lib.hid (HB1.out.trans (htt.below (fun j hj => by rw [hj]; exact Hg.out) HB1.out.size))
  have Hcx := Lib.hid (And.intro hcp hx8)
  clear hown hblk hr2 hp htt hcp hx8
  go_wp2_with fail
  refine (amount92_any g l' p _ HR2.out (by omega)).mono ?_; rintro e w3 ⟨a, p', rfl, ha0, ha1, _, _, htt⟩
  have HF := Lib.hid (And.intro ((HO2.out.1.touch htt (fun j hj e => by have := HO2.out.2 j hj; omega)).ins Hcx.out.1) (HB2.out.trans (htt.below (fun j hj => by rw [hj]; exact Hg.out) HB2.out.size)))
  have HA := Lib.hid (And.intro ha0 ha1)
  clear htt ha0 ha1
  go_wp2
  go_ret2
  exact ⟨_, xs, a, rfl, HF.out.1, Hcx.out.2, HA.out.1, HA.out.2, HF.out.2⟩

set_option maxRecDepth 100000 in
set_option maxHeartbeats 1000000 in
theorem drawShareDue_any (v : Value) (l : List Int) (w0 : World) (hv : BytesIn w0 v l) (hm : l.length ≤ 1048576) :
    Calls Try.prog 42 #[v] w0 (DrawnPA w0) := by
  have Hv := Lib.hid hv; clear hv
  go_enter Try.func42, Try.ntmps42
  go_wp2_with fail
  refine (drawShareMake_any _ l _ Hv.out hm).mono ?_; rintro e w1 ⟨v1, xs, a, rfl, h⟩
  have HF := Lib.hid h
  clear h
  go_wp2
  go_ret2
  exact ⟨v1, xs, a, rfl, HF.out⟩

end Go.Proofs.Ythdkjjfnockldaa
