/- Draws: a text that is often a clock (DrawClockFrom). -/
import Derived.Test.YtnlhnibhgpelfabDoorDTM
import Derived.Test.YtnlhnibhgpelfabDoorCD
namespace Go.Proofs.YtnlhnibhgpelfabDoor
open Go.RowKit

/-- A block of seven short texts. -/
def Lit7 (w : World) (b : Nat) : Prop := b < w.heap.size ∧ ∀ k : Nat, (k : Int) < 7 → ∃ s : ByteArray, w.cell? ⟨b, k, none⟩ = some (.string s) ∧ s.size ≤ 6

theorem lit7_at (w : World) (s0 s1 s2 s3 s4 s5 s6 : ByteArray) (h0 : s0.size ≤ 6) (h1 : s1.size ≤ 6) (h2 : s2.size ≤ 6) (h3 : s3.size ≤ 6) (h4 : s4.size ≤ 6) (h5 : s5.size ≤ 6) (h6 : s6.size ≤ 6) :
    Lit7 (w.alloc (.cells #[.string s0, .string s1, .string s2, .string s3, .string s4, .string s5, .string s6] 9)) w.heap.size := by
  refine ⟨by simp, fun k hk => ?_⟩
  rcases (show k = 0 ∨ k = 1 ∨ k = 2 ∨ k = 3 ∨ k = 4 ∨ k = 5 ∨ k = 6 by omega) with rfl | rfl | rfl | rfl | rfl | rfl | rfl
  · exact ⟨s0, by simp, h0⟩
  · exact ⟨s1, by simp, h1⟩
  · exact ⟨s2, by simp, h2⟩
  · exact ⟨s3, by simp, h3⟩
  · exact ⟨s4, by simp, h4⟩
  · exact ⟨s5, by simp, h5⟩
  · exact ⟨s6, by simp, h6⟩

set_option maxHeartbeats 1000000 in
theorem of7_any (g : Nat) (l : List Int) (p b : Nat) (w : World) (h : Reader w g l p) (hp : p ≤ 900000) (hb : Lit7 w b) (hn : b ≠ g) :
    Calls Tryd.prog 25 #[.pointer (some ⟨g, 0, none⟩), .slice (some ⟨b, 0, none⟩) 7 7] w fun e w' => ∃ s, e = .returned (.string s) ∧ s.size ≤ 6 ∧ Touch (fun j => j = g) w w' := by
  have H := Lib.hid h; clear h
  have Hb := Lib.hid hb; clear hb
  go_enter Tryd.func25, Tryd.ntmps25
  go_wp2_with fail
  refine (pick_any g l p 7 _ H.out (by omega) (by omega)).mono ?_; rintro e w2 ⟨⟨k, rfl, hk0, hk1⟩, hr2, hg2⟩
  obtain ⟨k, rfl⟩ : ∃ j : Nat, k = (j : Int) := ⟨k.toNat, by omega⟩
  have hk7 : (k : Int) < 7 := by omega
  obtain ⟨s, hc, hs⟩ := Hb.out.2 k hk7
  have d := lit_after (b := b) (k := k) hg2 hn hc Hb.out.1
  have HT2 := Lib.hid (Touch.grown (S := fun j => j = g) hg2 rfl)
  clear hr2 hg2 hk1 hc
  go_wp2
  go_ret
  exact ⟨s, rfl, hs, HT2.out⟩

theorem touchB {g : Nat} {a b : World} (ht : Touch (fun j => j = g) a b) (h : g ≤ a.heap.size) : Below g a b := ht.below (B := g) (fun j hj => by rw [hj]; exact Nat.le_refl _) h

set_option maxRecDepth 100000 in
set_option maxHeartbeats 1000000 in
theorem drawClockFrom_any (v : Value) (l : List Int) (w : World) (hv : BytesIn w v l) (hm : l.length ≤ 1048576) :
    Calls Tryd.prog 10 #[v] w fun e w' => ∃ s : ByteArray, e = .returned (.string s) ∧ s.size ≤ 6 ∧ Below w.heap.size w w' := by
  have Hv := Lib.hid hv; clear hv
  go_enter Tryd.func10, Tryd.ntmps10
  go_wp2_with fail
  refine (l6Open_any _ l _ Hv.out hm).mono ?_; rintro e w1 ⟨rfl, ⟨l', hr⟩, hb, hs⟩
  have HB1 := Lib.hid hb; have HR1 := Lib.hid hr
  clear hb hr
  go_wp2_with fail
  refine (pick_any w.heap.size l' 0 1440 _ HR1.out (by omega) (by omega)).mono ?_; rintro e w2 ⟨⟨z, rfl, hz0, hz1⟩, hr2, hg2⟩
  have HB2 := Lib.hid (HB1.out.trans (touchB (Touch.grown (S := fun j => j = w.heap.size) hg2 rfl) HB1.out.size))
  have HR2 := Lib.hid hr2
  have ht := clockT_yes (t := z) hz0 (by omega)
  have hsz : (clockT z).size = 5 := by rw [ht]; exact clockB_size _
  clear hr2 hg2 ht hz1
  go_wp2_with fail
  refine (text1_any _ _).mono ?_; rintro e w3 ⟨rfl, hb3⟩
  have HR3 := Lib.hid (HR2.out.belowB hb3 HR2.out.lt)
  have HB3 := Lib.hid (HB2.out.trans (hb3.mono HB2.out.size))
  clear hb3
  have hsz1 : (clockT z ++ ⟨#[32]⟩).size ≤ 6 := by rw [ByteArray.size_append, hsz]; decide
  generalize clockT z = s at *
  go_wp2_with fail
  refine (pick_any w.heap.size l' (0 + 1) 4 _ HR3.out (by omega) (by omega)).mono ?_; rintro e w4 ⟨⟨y, rfl, hy0, hy1⟩, hr4, hg4⟩
  have HB4 := Lib.hid (HB3.out.trans (touchB (Touch.grown (S := fun j => j = w.heap.size) hg4 rfl) HB3.out.size))
  have HR4 := Lib.hid hr4
  clear hr4 hg4 hy1
  by_cases q : y = 0
  · subst q
    have hgl := HR4.out.lt
    go_wp2_with fail
    refine (of7_any w.heap.size l' (0 + 1 + 1) _ _ (HR4.out.belowB ((Below.refl _ _).alloc (Nat.le_refl _) _) hgl) (by omega) (lit7_at w4 _ _ _ _ _ _ _ (by decide) (by decide) (by decide) (by decide) (by decide) (by decide) hsz1) (Nat.ne_of_gt hgl)).mono ?_; rintro e w5 ⟨s5, rfl, hs5, ht5⟩
    have HB5 := Lib.hid (HB4.out.trans (((Below.refl _ _).alloc (Nat.le_of_lt hgl) _).trans (touchB ht5 (by simp; omega))))
    clear ht5
    go_wp2
    go_ret
    exact ⟨s5, rfl, hs5, HB5.out⟩
  · have q' : (y == 0) = false := by simpa using q
    go_wp2
    go_ret
    exact ⟨s, rfl, by omega, HB4.out⟩

end Go.Proofs.YtnlhnibhgpelfabDoor
