/- GatesDrop of the program. -/
import Derived.Test.YthhllpnbmelidaaGDE
import Derived.Test.YthhllpnbmelidaaGCL
import Derived.Test.YthhllpnbmelidaaGM
import Derived.Test.YthhllpnbmelidaaGO
namespace Go.Proofs.Ythhllpnbmelidaa
open Go.RowKit
set_option linter.unusedVariables false
set_option linter.unusedSimpArgs false

theorem deleteG2 (B g cap k : Nat) (l : List Gt) (w : World) (h : RowGt w B (.slice (some ⟨g, 0, none⟩) l.length cap) l) (hk : k < l.length) (hl : l.length ≤ 1048577) :
    Calls Try.prog 74 #[.slice (some ⟨g, 0, none⟩) l.length cap, .int .i64 (k : Nat), .int .i64 ((k : Int) + 1)] w fun e w' => ∃ v, e = .returned v ∧ RowGt w' B v (dropG l k) ∧ Touch (fun j => j = g) w w' := by
  obtain ⟨m, hm⟩ : ∃ m, l.length = k + 1 + m := ⟨l.length - (k + 1), by omega⟩
  have h1 := deleteG_any B g cap k m l w h hm hl
  rw [← hm] at h1
  exact h1.mono fun e w' h => ⟨_, h.1, h.2.1, h.2.2⟩
theorem RowGt.form {w : World} {B : Nat} {v : Value} {l : List Gt} (h : RowGt w B v l) (hl : 0 < l.length) : ∃ g cap, v = .slice (some ⟨g, 0, none⟩) l.length cap ∧ B ≤ g := by
  unfold RowGt at h
  have h2 := h.2
  rcases h2 with ⟨_, h0⟩ | ⟨g, cap, _, he, hg, _⟩
  · omega
  · exact ⟨g, cap, he, hg⟩

set_option maxRecDepth 100000 in
set_option maxHeartbeats 2000000 in
theorem drop2_any (v : Value) (l : List Gt) (x : Int) (w : World) (hv : GtIn w v l) (hm : l.length ≤ 1048576) (wx : W64 x) :
    Calls Try.prog 33 #[v, .int .i64 x] w (GtOut (dropGX l x) (dropGOk l x) w) := by
  have HV := Lib.hid (gv2_any v l w hv (by omega))
  cases hz : validG l with
  | false =>
    have hok : dropGOk l x = false := by unfold dropGOk; rw [hz]; rfl
    have hx : dropGX l x = [] := by unfold dropGX; rw [hok]; rfl
    rw [hok, hx]
    rw [hz] at HV
    obtain ⟨a, cap, rfl, _, _⟩ := hv
    clear hok hx hz
    go_enter Try.func33, Try.ntmps33
    go_wp2_with fail
    refine HV.out.mono ?_; rintro e w1 ⟨rfl, hb1⟩
    have HB1 := Lib.hid hb1
    clear hb1
    go_wp2
    go_ret2
    exact GtOut.no HB1.out.size (by simp) (HB1.out.alloc HB1.out.size _)
  | true =>
    rw [hz] at HV
    cases hin : inB x 0 ((l.length : Int) - 1) with
    | false =>
      have hok : dropGOk l x = false := by unfold dropGOk; rw [hin, hz]; rfl
      have hx : dropGX l x = [] := by unfold dropGX; rw [hok]; rfl
      rw [hok, hx]
      have hno : ¬ (0 ≤ x ∧ x ≤ (l.length : Int) - 1) := fun h => by rw [(inB_iff _ _ _).2 h] at hin; cases hin
      obtain ⟨a, cap, rfl, _, _⟩ := hv
      clear hok hx hz hin
      by_cases h0 : x < 0
      · go_enter Try.func33, Try.ntmps33
        go_wp2_with fail
        refine HV.out.mono ?_; rintro e w1 ⟨rfl, hb1⟩
        have HB1 := Lib.hid hb1
        clear hb1
        go_wp2
        go_ret2
        exact GtOut.no HB1.out.size (by simp) (HB1.out.alloc HB1.out.size _)
      · have h1 : (l.length : Int) ≤ x := by omega
        go_enter Try.func33, Try.ntmps33
        go_wp2_with fail
        refine HV.out.mono ?_; rintro e w1 ⟨rfl, hb1⟩
        have HB1 := Lib.hid hb1
        clear hb1
        go_wp2
        go_ret2
        exact GtOut.no HB1.out.size (by simp) (HB1.out.alloc HB1.out.size _)
    | true =>
      obtain ⟨q0, q1⟩ := (inB_iff _ _ _).1 hin
      obtain ⟨k, rfl⟩ : ∃ k : Nat, x = k := ⟨x.toNat, by omega⟩
      have hk : k < l.length := by omega
      have hok : dropGOk l (k : Int) = true := by unfold dropGOk; rw [hin, hz]; rfl
      have hx : dropGX l (k : Int) = dropG l k := by unfold dropGX; rw [if_pos hok, Int.toNat_natCast]
      rw [hok, hx]
      obtain ⟨a, cap, rfl, hcap, ha⟩ := hv
      obtain ⟨b, o, rfl, hb0, hat⟩ := ha (by rintro rfl; simp at hk)
      have HCl := Lib.hid (fun (w1 : World) (hb : Below w.heap.size w w1) => cloneGt_any b o cap l w1 (Nat.lt_of_lt_of_le hb0 hb.size) (hat.below hb hb0) hm)
      have hwr : IntKind.i64.wrap ((k : Int) + 1) = (k : Int) + 1 := IntWalk.i64_in _ (by omega)
      have hk1 : (k : Int) < (l.length : Int) := by omega
      clear hok hx hz hin ha hat
      go_enter Try.func33, Try.ntmps33
      go_wp2_with fail
      refine HV.out.mono ?_; rintro e w1 ⟨rfl, hb1⟩
      have HB1 := Lib.hid hb1
      clear hb1
      go_wp2_with fail
      refine (HCl.out _ HB1.out).mono ?_; rintro e w2 ⟨v2, rfl, hr2, hb2⟩
      obtain ⟨g, cap2, rfl, hg2⟩ := hr2.form (by omega)
      have HB2 := Lib.hid (HB1.out.trans (hb2.mono HB1.out.size))
      have HDl := Lib.hid (deleteG2 _ g cap2 k l w2 hr2 hk (by omega))
      have hs1 := HB1.out.size
      clear hr2 hb2
      go_wp2_with fail
      refine HDl.out.mono ?_; rintro e w3 ⟨v3, rfl, hr3, ht3⟩
      have HB3 := Lib.hid (HB2.out.trans (ht3.below (B := w.heap.size) (by rintro j rfl; omega) HB2.out.size))
      obtain ⟨adv, capv, rfl, hcv, hov, hblk⟩ := hr3.row
      have HO := Lib.hid (And.intro hcv (And.intro hov hblk))
      clear hcv hov hblk hr3 ht3 HDl
      generalize dropG l k = xs at *
      go_wp2
      go_ret2
      exact ⟨adv, capv, rfl, HO.out.1, HO.out.2.1, fun j hj => ⟨Nat.le_trans hs1 (HO.out.2.2 j hj).1, (HO.out.2.2 j hj).2⟩, HB3.out⟩

end Go.Proofs.Ythhllpnbmelidaa
