/- Draws: a road in parts (DrawPartsMiles, DrawPartsLength, DrawPartsTurn). -/
import Derived.Test.YthdkjjfnockldaaDPT
namespace Go.Proofs.Ythdkjjfnockldaa
open Go.RowKit

/-- What is drawn: a road in parts. -/
def DrawnPX (w : World) (e : Ending) (w' : World) : Prop := ∃ (v : Value) (xs : List Pt), e = .returned v ∧ PtIn w' v xs ∧ xs.length ≤ 8 ∧ Below w.heap.size w w'
theorem drawn_px {w0 w w' : World} {g p : Nat} {l : List Int} {e : Ending} (hb : Below w0.heap.size w0 w) (hg : w0.heap.size ≤ g) (h : DrawnP g l p w e w') : DrawnPX w0 e w' := by
  obtain ⟨ad, cap, xs, p', rfl, hc, h8, ho, _, _, _, ht⟩ := h
  exact ⟨_, xs, rfl, ho.ins hc, h8, hb.trans (ht.below (fun j hj => by rw [hj]; exact hg) hb.size)⟩

set_option maxRecDepth 100000 in
set_option maxHeartbeats 1000000 in
theorem drawPartsMiles_any (v : Value) (l : List Int) (w0 : World) (hv : BytesIn w0 v l) (hm : l.length ≤ 1048576) :
    Calls Try.prog 14 #[v] w0 (DrawnPX w0) := by
  have Hv := Lib.hid hv; clear hv
  go_enter Try.func14, Try.ntmps14
  go_wp2_with fail
  refine (l6Open_any _ l _ Hv.out hm).mono ?_; rintro e w1 ⟨rfl, ⟨l', hr⟩, hb, hs⟩
  have HB1 := Lib.hid hb; have HR1 := Lib.hid hr
  clear hb hr
  obtain ⟨g, hg⟩ : ∃ g, w0.heap.size = g := ⟨_, rfl⟩
  rw [hg] at HR1
  have Hg := Lib.hid hg
  rw [hg]
  clear hg
  go_wp2_with fail
  refine (parts92_any g l' 0 _ HR1.out (by omega)).mono ?_; intro e w2 h2
  obtain ⟨v2, xs, rfl, hx, h8, hb2⟩ := drawn_px HB1.out (Nat.le_of_eq Hg.out) h2
  have HF := Lib.hid (And.intro hx (And.intro h8 hb2))
  clear h2 hx h8 hb2
  go_wp2
  go_ret
  exact ⟨_, xs, rfl, HF.out⟩

set_option maxRecDepth 100000 in
set_option maxHeartbeats 1000000 in
theorem drawPartsLength_any (v : Value) (l : List Int) (w0 : World) (hv : BytesIn w0 v l) (hm : l.length ≤ 1048576) :
    Calls Try.prog 21 #[v] w0 (DrawnPX w0) := by
  have Hv := Lib.hid hv; clear hv
  go_enter Try.func21, Try.ntmps21
  go_wp2_with fail
  refine (l6Open_any _ l _ Hv.out hm).mono ?_; rintro e w1 ⟨rfl, ⟨l', hr⟩, hb, hs⟩
  have HB1 := Lib.hid hb; have HR1 := Lib.hid hr
  clear hb hr
  obtain ⟨g, hg⟩ : ∃ g, w0.heap.size = g := ⟨_, rfl⟩
  rw [hg] at HR1
  have Hg := Lib.hid hg
  rw [hg]
  clear hg
  go_wp2_with fail
  refine (parts92_any g l' 0 _ HR1.out (by omega)).mono ?_; intro e w2 h2
  obtain ⟨v2, xs, rfl, hx, h8, hb2⟩ := drawn_px HB1.out (Nat.le_of_eq Hg.out) h2
  have HF := Lib.hid (And.intro hx (And.intro h8 hb2))
  clear h2 hx h8 hb2
  go_wp2
  go_ret
  exact ⟨_, xs, rfl, HF.out⟩

set_option maxRecDepth 100000 in
set_option maxHeartbeats 1000000 in
theorem drawPartsTurn_any (v : Value) (l : List Int) (w0 : World) (hv : BytesIn w0 v l) (hm : l.length ≤ 1048576) :
    Calls Try.prog 33 #[v] w0 (DrawnPX w0) := by
  have Hv := Lib.hid hv; clear hv
  go_enter Try.func33, Try.ntmps33
  go_wp2_with fail
  refine (l6Open_any _ l _ Hv.out hm).mono ?_; rintro e w1 ⟨rfl, ⟨l', hr⟩, hb, hs⟩
  have HB1 := Lib.hid hb; have HR1 := Lib.hid hr
  clear hb hr
  obtain ⟨g, hg⟩ : ∃ g, w0.heap.size = g := ⟨_, rfl⟩
  rw [hg] at HR1
  have Hg := Lib.hid hg
  rw [hg]
  clear hg
  go_wp2_with fail
  refine (parts92_any g l' 0 _ HR1.out (by omega)).mono ?_; intro e w2 h2
  obtain ⟨v2, xs, rfl, hx, h8, hb2⟩ := drawn_px HB1.out (Nat.le_of_eq Hg.out) h2
  have HF := Lib.hid (And.intro hx (And.intro h8 hb2))
  clear h2 hx h8 hb2
  go_wp2
  go_ret
  exact ⟨_, xs, rfl, HF.out⟩

end Go.Proofs.Ythdkjjfnockldaa
