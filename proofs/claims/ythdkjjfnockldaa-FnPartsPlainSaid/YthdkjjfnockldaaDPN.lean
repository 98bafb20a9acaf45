/- Draws: a road in parts (DrawPartsPlain). -/
import Derived.Test.YthdkjjfnockldaaDPX
namespace Go.Proofs.Ythdkjjfnockldaa
open Go.RowKit

set_option maxRecDepth 100000 in
set_option maxHeartbeats 1000000 in
theorem drawPartsPlain_any (v : Value) (l : List Int) (w0 : World) (hv : BytesIn w0 v l) (hm : l.length ≤ 1048576) :
    Calls Try.prog 29 #[v] w0 (DrawnPX w0) := by
  have Hv := Lib.hid hv; clear hv
  go_enter Try.func29, Try.ntmps29
  go_wp2_with fail
  refine (l6Open_any _ l _ Hv.out hm).mono ?_; rintro e w1 ⟨rfl, ⟨l', hr⟩, hb, hs⟩
  have HB1 := Lib.hid hb; have HR1 := Lib.hid hr
  clear hb hr
  obtain ⟨g, hg⟩ : ∃ g, w0.heap.size = g := ⟨_, rfl⟩
  rw [hg] at HR1
  have Hg := Lib.hid (Nat.le_of_eq hg)
  rw [hg]
  clear hg
  go_wp2_with fail
  refine (pick_any g l' 0 16 _ HR1.out (by omega) (by omega)).mono ?_; rintro e w2 ⟨⟨z, rfl, hz0, hz1⟩, hr2, hg2⟩
  have HR2 := Lib.hid hr2
  have HB2 := Lib.hid (HB1.out.trans ((Touch.grown (S := fun j => j = g) hg2 rfl).below (fun j hj => by rw [hj]; exact Hg.out) HB1.out.size))
  clear hr2 hg2 hz1
  by_cases q : z = 0
  · subst q
    go_wp2_with fail
    refine (pick_any g l' (0 + 1) 20 _ HR2.out (by omega) (by omega)).mono ?_; rintro e w3 ⟨⟨c, rfl, hc0, hc1⟩, hr3, hg3⟩
    have HB3 := Lib.hid (HB2.out.trans ((Touch.grown (S := fun j => j = g) hg3 rfl).below (fun j hj => by rw [hj]; exact Hg.out) HB2.out.size))
    have hc20 : c < 20 := by omega
    have hw : wrap64 (30 + c) = 30 + c := wrap64_ok (by omega) (by omega)
    clear hr3 hg3 hc1
    have HF := Lib.hid (show PtIn (w3.alloc (.cells #[.int .i64 1, .int .i64 60, .int .i64 1, .int .i64 (30 + c)] 41)) (.slice (some ⟨w3.heap.size, 0, none⟩) 2 2) [⟨1, 60⟩, ⟨1, 30 + c⟩] from ⟨_, 2, rfl, Nat.le_refl _, fun _ => ⟨_, 0, rfl, by simp, fun i hi => by
      simp only [List.length_cons, List.length_nil] at hi
      rcases (by omega : i = 0 ∨ i = 1) with rfl | rfl <;> constructor <;> simp⟩⟩)
    have HB4 := Lib.hid (HB3.out.trans ((Below.refl w3.heap.size w3).alloc (Nat.le_refl _) (.cells #[.int .i64 1, .int .i64 60, .int .i64 1, .int .i64 (30 + c)] 41) |>.mono HB3.out.size))
    go_wp2
    go_ret
    exact ⟨_, _, rfl, HF.out, by simp, HB4.out⟩
  · have q' : (z == 0) = false := by simpa using q
    go_wp2_with fail
    refine (parts92_any g l' (0 + 1) _ HR2.out (by omega)).mono ?_; intro e w3 h3
    obtain ⟨v3, xs, rfl, hx, h8, hb3⟩ := drawn_px HB2.out Hg.out h3
    have HF := Lib.hid (And.intro hx (And.intro h8 hb3))
    clear h3 hx h8 hb3
    go_wp2
    go_ret
    exact ⟨_, xs, rfl, HF.out⟩

end Go.Proofs.Ythdkjjfnockldaa
