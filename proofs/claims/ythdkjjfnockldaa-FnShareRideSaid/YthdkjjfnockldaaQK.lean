/- The program's functions on proprietors: parts. -/
import Derived.Test.YthdkjjfnockldaaQV
import Derived.Test.YthdkjjfnockldaaQC
import Derived.Test.YthdkjjfnockldaaQD
import Derived.Test.YthdkjjfnockldaaQE
import Derived.Test.YthdkjjfnockldaaQF
import Derived.Test.YthdkjjfnockldaaQG
import Derived.Test.YthdkjjfnockldaaIO
namespace Go.Proofs.Ythdkjjfnockldaa
open Go.RowKit

theorem milesAt (b o cap : Nat) (l : List Pt) (w : World) (hz : validP l = true) (hb : b < w.heap.size) (hl : PtAt w b o l) :
    Comes Try.prog 77 #[.pointer (some ⟨w.heap.size, 0, none⟩)] (encO (ownAt l)) (fun j => j < w.heap.size + 1) (List.range (ownP l).length) (w.alloc (.cells #[.slice (some ⟨b, o, none⟩) l.length cap] 23)) :=
  miles_comes w.heap.size b o cap l _ _ (news1 w _ _ 0 _ rfl) (by simp) (by simp; omega) (show b < w.heap.size + 1 by omega) (fun j hj => by simp; omega) hz (hl.below ((Below.refl _ _).alloc (Nat.le_refl _) _) hb)

theorem workedM (b o cap : Nat) (l : List Pt) (w : World) (hz : validP l = true) (hb : b < w.heap.size) (hl : PtAt w b o l) :
    Calls Try.prog 50 #[.func (.func 77) #[] #[.pointer (some ⟨w.heap.size, 0, none⟩)]] (w.alloc (.cells #[.slice (some ⟨b, o, none⟩) l.length cap] 23))
      (IntsOne (cnt6 (ownP l)) (w.alloc (.cells #[.slice (some ⟨b, o, none⟩) l.length cap] 23))) := by
  have h := worked_any (ownAt l) (ownAt_ok hz) _ _ _ _ _ (enters_of Try.func77 (by kernel_rfl) rfl) (milesAt b o cap l w hz hb hl) (fun j hj => by simp; omega) (by rw [List.length_range]; exact ownP_len hz)
  rwa [ownP_all] at h

theorem plainM (b o cap : Nat) (l : List Pt) (w : World) (hz : validP l = true) (hb : b < w.heap.size) (hl : PtAt w b o l) :
    Calls Try.prog 58 #[.func (.func 77) #[] #[.pointer (some ⟨w.heap.size, 0, none⟩)]] (w.alloc (.cells #[.slice (some ⟨b, o, none⟩) l.length cap] 23))
      fun e w' => ∃ (ad : Option Addr) (cap2 : Nat), e = .returned (.slice ad (plainL (ownP l)).length cap2) ∧ RowPt w' (w.heap.size + 1) (.slice ad (plainL (ownP l)).length cap2) (plainL (ownP l)) ∧ Below (w.heap.size + 1) (w.alloc (.cells #[.slice (some ⟨b, o, none⟩) l.length cap] 23)) w' := by
  have h := plain_any (ownAt l) _ _ _ _ _ (enters_of Try.func77 (by kernel_rfl) rfl) (milesAt b o cap l w hz hb hl) (fun j hj => by simp; omega) (by rw [List.length_range]; exact ownP_len hz)
  rw [ownP_all, World.size_alloc] at h
  exact h

set_option maxHeartbeats 400000 in
/-- What is no road fails. -/
theorem milesP2_any (v : Value) (l : List Pt) (w : World) (hv : PtIn w v l) (hm : l.length ≤ 1048576) :
    Calls Try.prog 15 #[v] w (IntsOk (milesX l) (validP l) w) := by
  have Hval := Lib.hid (valid2_any v l w hv hm)
  cases hz : validP l with
  | false =>
    have hx : milesX l = [] := by unfold milesX; rw [hz]; rfl
    have Hx := Lib.hid hx; clear hx
    rw [hz] at Hval
    clear hv
    go_enter Try.func15, Try.ntmps15
    go_wp2_with fail
    refine Hval.out.mono ?_; rintro e w1 ⟨rfl, hb1⟩
    have HB := Lib.hid hb1; clear hb1
    go_wp2
    go_ret2
    rw [Hx.out]
    exact IntsOk.no HB.out.size (by simp) (HB.out.alloc HB.out.size _)
  | true =>
    have hx : milesX l = cnt6 (ownP l) := by unfold milesX; rw [hz]; rfl
    have Hx := Lib.hid hx; clear hx
    rw [hz] at Hval
    obtain ⟨b, o, cap, rfl, _, hb, hl⟩ := hv.full hz
    have Hz := Lib.hid hz
    go_enter Try.func15, Try.ntmps15
    go_wp2_with fail
    refine Hval.out.mono ?_; rintro e w1 ⟨rfl, hb1⟩
    have hb2 : b < w1.heap.size := Nat.lt_of_lt_of_le hb hb1.size
    have Hw := Lib.hid (workedM b o cap l w1 Hz.out hb2 (hl.below hb1 hb))
    have HB := Lib.hid hb1; clear hb1 hl
    go_wp2_with fail
    refine (milesOf_any _ _ _ _).mono ?_; rintro e w' ⟨rfl, rfl⟩
    go_wp2_with fail
    refine Hw.out.mono ?_; rintro e w2 ⟨ad, cp, rfl, hcp, hown, hblk, hb3⟩
    have hs3 := hb3.size
    have hsz := HB.out.size
    simp only [World.size_alloc] at hs3 hb3 hblk
    have HB2 := Lib.hid (HB.out.trans ((((Below.refl w1.heap.size w1).alloc (Nat.le_refl _) _).trans (hb3.mono (Nat.le_succ _))).mono hsz))
    have Hown := Lib.hid hown
    have Hblk := Lib.hid hblk
    clear hb3 hown hblk
    go_wp2
    go_ret2
    rw [Hx.out]
    exact ⟨ad, cp, rfl, hcp, Hown.out, fun j hj => ⟨by have := (Hblk.out j hj).1; omega, (Hblk.out j hj).2⟩, HB2.out⟩

end Go.Proofs.Ythdkjjfnockldaa
