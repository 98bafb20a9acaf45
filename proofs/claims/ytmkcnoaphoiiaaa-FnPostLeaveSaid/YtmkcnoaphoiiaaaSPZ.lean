/- The model's StopsBack, as a row with its capacity. -/
import Derived.Test.YtmkcnoaphoiiaaaSL
import Derived.Test.YtmkcnoaphoiiaaaSN
import Derived.Test.YtmkcnoaphoiiaaaZR
namespace Go.Proofs.Ytmkcnoaphoiiaaa
open Go.RowKit

def C1zRel (n : Int) (l : List Rd) (k : Int) (w : World) (v iv : Value) (wr : World) : Prop :=
  ∃ i : Nat, i ≤ l.length ∧ iv = .int .i64 ((i : Int) - 1) ∧ OwnS wr w.heap.size v (backTo l k i) ∧ (i = l.length ∨ (validS n l = true ∧ 0 ≤ k ∧ k ≤ 20000)) ∧ Below w.heap.size w wr

set_option maxRecDepth 100000 in
set_option maxHeartbeats 1600000 in
theorem back1z_any (n : Int) (v : Value) (l : List Rd) (k : Int) (w : World) (hv : RoadsIn w v l) (hm : l.length ≤ 1048576) (wk : W64 k) :
    Calls Try.prog 73 #[.int .i64 n, v, .int .i64 k] w (TzOut (backL n l k) (backOk n l k) w) := by
  have Hv0 := Lib.hid hv
  obtain ⟨a, cap, rfl, ha⟩ := hv
  have Ha := Lib.hid ha; clear ha
  obtain ⟨i0, hi0, hz0, hz1, hz2⟩ := info_parts stopInfo
  have hb0 : Below w.heap.size w (w.alloc (.cells #[] 77)) := (Below.refl _ _).alloc (Nat.le_refl _) _
  have Hb0 := Lib.hid hb0; clear hb0
  have Hown0 := Lib.hid (OwnS.made w w.heap.size (Nat.le_refl _))
  go_enter Try.func73, Try.ntmps73
  go_wp2
  go_loopw [8, 9] (fun v iv wr => C1zRel n l k w v iv wr) (fun _ i _ => (intOf i + 1).toNat)
  case atStart => exact ⟨l.length, Nat.le_refl _, rfl, by rw [backTo_end]; exact Hown0.out, .inl rfl, Hb0.out⟩
  case round =>
    obtain ⟨i, hi, rfl, hown, hval, hbel⟩ := hrel
    by_cases hgo : 0 < i ∧ validS n l = true ∧ 0 ≤ k ∧ k ≤ 20000
    · obtain ⟨hlt0, hz, hk0, hk1⟩ := hgo
      obtain ⟨i, rfl⟩ : ∃ j, i = j + 1 := ⟨i - 1, by omega⟩
      have hlt : i < l.length := by omega
      have hii : (((i + 1 : Nat) : Int) - 1) = (i : Int) := by omega
      rw [hii]
      clear hii hlt0
      have hlti : (i : Int) < (l.length : Int) := by omega
      have hii0 : (0 : Int) ≤ (i : Int) := Int.natCast_nonneg _
      have hin : inB k 0 20000 = true := (inB_iff _ _ _).2 ⟨hk0, hk1⟩
      obtain ⟨b, o, rfl, hlt0, hrw⟩ := Ha.out (by rintro rfl; simp at hlt)
      obtain ⟨_, _, x0, x1, x2, _⟩ := validS_at hz hlt
      have h8 := (validS_iff.1 hz).1.2.2.2
      have htake := backTo_step l k hlt
      have hlat : bacR k (l.getD i rd0) = ⟨(l.getD i rd0).a, k - (l.getD i rd0).m, k - (l.getD i rd0).b⟩ := by
        unfold bacR
        rw [IntWalk.i64_in _ (by omega), IntWalk.i64_in _ (by omega)]
      have Htake := Lib.hid htake; clear htake
      have Hlat := Lib.hid hlat; clear hlat
      have hxl : (backTo l k (i + 1)).length = l.length - (i + 1) := backTo_len l k (i + 1)
      have Hxl := Lib.hid hxl; clear hxl
      have Hz := Lib.hid hz; clear hz
      have Hrw := Lib.hid hrw; clear hrw
      have Hlt := Lib.hid hlt; clear hlt
      have Hown := Lib.hid hown; clear hown
      have hi8 : i ≤ 8 := by omega
      clear hval
      go_wp2_with fail
      refine (valid1_isL n _ l _ (Hv0.out.below hbel) hm Hz.out).mono ?_; rintro e w1 ⟨rfl, hb1⟩
      have hbel1 := hbel.trans (hb1.mono hbel.size)
      have hown1 := Hown.out.below hb1
      go_wp2_with fail
      refine (l6In_any _ _ _ _).mono ?_; rintro e w' ⟨rfl, rfl⟩
      rw [hin]
      obtain ⟨c0, c1, c2⟩ := (Hrw.out.below hbel1 hlt0) i Hlt.out
      generalize (l.getD i rd0).a = xa at *
      generalize (l.getD i rd0).b = xb at *
      generalize (l.getD i rd0).m = xm at *
      unfold OwnS at hown1
      have hs1 := hbel1.size
      clear hb1 hbel
      go_wp2_with (at_builtin; (refine wpList_append_own _ rfl _ _ 57 rfl w.heap.size 77 i0 _ 3 24 Try.underlying57 hi0 hz0 hz1 hz2 rfl (by omega) _ _ (encR (backTo l k (i + 1))) rfl ((hown1.alloc _).alloc _) ⟨w1.heap.size + 1, 0, none⟩ 1 1 [.int .i64 xa, .int .i64 (k - xm), .int .i64 (k - xb)] rfl rfl (news2 w1 _ #[.int .i64 xa, .int .i64 (k - xm), .int .i64 (k - xb)] 77) (by simp [Value.oneCell']) (by rw [Hxl.out]; unfold maxLen; omega) (by rw [Hxl.out]; omega) (by simp; omega) ?_; intro v' w2 hown2 hgrow _))
      have B6 : Below w.heap.size w w2 := (((hbel1.alloc hs1 _).alloc (by simp; omega) _).grown hgrow (by simp; omega) (fun j hj => (hown1.lt j hj).1))
      have hown7 : OwnS w2 w.heap.size v' (backTo l k i) := by
        rw [Htake.out, Hlat.out]
        exact OwnS.snoc hown2
      have Hown7 := Lib.hid hown7
      have HB6 := Lib.hid B6
      clear hown7 B6 hown2 hgrow hown1 hbel1
      go_wp2
      exact ⟨⟨i, by have := Hlt.out; omega, rfl, Hown7.out, .inr ⟨Hz.out, hk0, hk1⟩, HB6.out⟩, by first | (simp [intOf]; done) | (simp [intOf]; omega)⟩
    · have hF : (validS n (backTo l k i) = true → backOk n l k = true ∧ backTo l k 0 = backTo l k i) ∧ (validS n (backTo l k i) = false → backOk n l k = false) := by
        rcases hval with h0 | ⟨h1, h2, h3⟩
        · subst h0
          have hnil : validS n (backTo l k l.length) = false := validS_small (by rw [backTo_len]; simp)
          refine ⟨fun h => (by rw [hnil] at h; cases h), fun _ => ?_⟩
          cases hz : validS n l with
          | false => unfold backOk; rw [hz]; rfl
          | true =>
            have h2 := (validS_iff.1 hz).1.2.2.1
            have hk : ¬ (0 ≤ k ∧ k ≤ 20000) := fun h => hgo ⟨by omega, hz, h.1, h.2⟩
            unfold backOk; rw [back_far hz wk hk]; simp
        · have hil : i = 0 := by
            by_cases h : 0 < i
            · exact absurd ⟨h, h1, h2, h3⟩ hgo
            · omega
          subst hil
          exact ⟨fun h => ⟨by unfold backOk; rw [h1, h]; rfl, rfl⟩, fun h => by unfold backOk; rw [h]; simp⟩
      have HF := Lib.hid hF; clear hF
      by_cases hlt : 0 < i
      · have hlti : (0 : Int) ≤ (i : Int) - 1 := by omega
        have hlti1 : (1 : Int) ≤ (i : Int) := by omega
        cases hz : validS n l with
        | false =>
          have Hz := Lib.hid hz; clear hz hval hgo hlt
          have Hown := Lib.hid hown; clear hown
          go_wp2_with fail
          refine (valid1_isL n _ l _ (Hv0.out.below hbel) hm Hz.out).mono ?_; rintro e w1 ⟨rfl, hb1⟩
          have hbel1 := hbel.trans (hb1.mono hbel.size)
          have hown1 := Hown.out.below hb1
          clear hb1 hbel
          obtain ⟨ad, cp, rfl, hcx, hrd, hblk⟩ := RowTz.row hown1
          have Hcx := Lib.hid hcx; clear hcx
          have hlen : (backTo l k i).length ≤ 1048576 := by rw [backTo_len]; omega
          have Hrd := Lib.hid hrd
          have Hblk := Lib.hid hblk
          have HB := Lib.hid hbel1
          have Hlen := Lib.hid hlen
          clear hrd hblk hlen
          cases hx : validS n (backTo l k i) with
          | true =>
            obtain ⟨hok, hL⟩ := HF.out.1 hx
            have Hk := Lib.hid (And.intro hok (show backL n l k = backTo l k i by unfold backL; rw [if_pos hok, hL]))
            have Hx := Lib.hid hx
            clear hok hL hx
            go_wp2_with fail
            refine (valid1_isL n _ (backTo l k i) _ (Hrd.out.ins Hcx.out).roads Hlen.out Hx.out).mono ?_; rintro e w9 ⟨rfl, hb9⟩
            go_wp2
            go_ret2
            rw [Hk.out.1, Hk.out.2]
            exact ⟨ad, cp, rfl, Hcx.out, Hrd.out.below hb9, fun j hj => ⟨(Hblk.out j hj).1, Nat.lt_of_lt_of_le (Hblk.out j hj).2 hb9.size⟩, HB.out.trans (hb9.mono HB.out.size)⟩
          | false =>
            have hok := HF.out.2 hx
            have Hk := Lib.hid (And.intro hok (show backL n l k = [] by unfold backL; rw [hok]; rfl))
            have Hx := Lib.hid hx
            clear hok hx
            go_wp2_with fail
            refine (valid1_isL n _ (backTo l k i) _ (Hrd.out.ins Hcx.out).roads Hlen.out Hx.out).mono ?_; rintro e w9 ⟨rfl, hb9⟩
            have hb10 := HB.out.trans (hb9.mono HB.out.size)
            go_wp2
            go_ret2
            rw [Hk.out.1, Hk.out.2]
            exact TzOut.no hb10.size (by simp) (hb10.alloc hb10.size _)
        | true =>
          have hk : ¬ (0 ≤ k ∧ k ≤ 20000) := fun h => hgo ⟨hlt, hz, h.1, h.2⟩
          have hin := inB_no hk
          have Hz := Lib.hid hz; clear hz hval hgo hlt hk
          have Hown := Lib.hid hown; clear hown
          go_wp2_with fail
          refine (valid1_isL n _ l _ (Hv0.out.below hbel) hm Hz.out).mono ?_; rintro e w1 ⟨rfl, hb1⟩
          have hbel1 := hbel.trans (hb1.mono hbel.size)
          have hown1 := Hown.out.below hb1
          clear hb1 hbel
          go_wp2_with fail
          refine (l6In_any _ _ _ _).mono ?_; rintro e w' ⟨rfl, rfl⟩
          rw [hin]
          clear hin
          obtain ⟨ad, cp, rfl, hcx, hrd, hblk⟩ := RowTz.row hown1
          have Hcx := Lib.hid hcx; clear hcx
          have hlen : (backTo l k i).length ≤ 1048576 := by rw [backTo_len]; omega
          have Hrd := Lib.hid hrd
          have Hblk := Lib.hid hblk
          have HB := Lib.hid hbel1
          have Hlen := Lib.hid hlen
          clear hrd hblk hlen
          cases hx : validS n (backTo l k i) with
          | true =>
            obtain ⟨hok, hL⟩ := HF.out.1 hx
            have Hk := Lib.hid (And.intro hok (show backL n l k = backTo l k i by unfold backL; rw [if_pos hok, hL]))
            have Hx := Lib.hid hx
            clear hok hL hx
            go_wp2_with fail
            refine (valid1_isL n _ (backTo l k i) _ (Hrd.out.ins Hcx.out).roads Hlen.out Hx.out).mono ?_; rintro e w9 ⟨rfl, hb9⟩
            go_wp2
            go_ret2
            rw [Hk.out.1, Hk.out.2]
            exact ⟨ad, cp, rfl, Hcx.out, Hrd.out.below hb9, fun j hj => ⟨(Hblk.out j hj).1, Nat.lt_of_lt_of_le (Hblk.out j hj).2 hb9.size⟩, HB.out.trans (hb9.mono HB.out.size)⟩
          | false =>
            have hok := HF.out.2 hx
            have Hk := Lib.hid (And.intro hok (show backL n l k = [] by unfold backL; rw [hok]; rfl))
            have Hx := Lib.hid hx
            clear hok hx
            go_wp2_with fail
            refine (valid1_isL n _ (backTo l k i) _ (Hrd.out.ins Hcx.out).roads Hlen.out Hx.out).mono ?_; rintro e w9 ⟨rfl, hb9⟩
            have hb10 := HB.out.trans (hb9.mono HB.out.size)
            go_wp2
            go_ret2
            rw [Hk.out.1, Hk.out.2]
            exact TzOut.no hb10.size (by simp) (hb10.alloc hb10.size _)
      · have hlti : ¬ (0 : Int) ≤ (i : Int) - 1 := by omega
        have hlti1 : ¬ (1 : Int) ≤ (i : Int) := by omega
        clear hval hgo
        obtain ⟨ad, cp, rfl, hcx, hrd, hblk⟩ := RowTz.row hown
        have Hcx := Lib.hid hcx; clear hcx
        have hlen : (backTo l k i).length ≤ 1048576 := by rw [backTo_len]; omega
        have Hrd := Lib.hid hrd
        have Hblk := Lib.hid hblk
        have HB := Lib.hid hbel
        have Hlen := Lib.hid hlen
        clear hrd hblk hlen
        cases hx : validS n (backTo l k i) with
        | true =>
          obtain ⟨hok, hL⟩ := HF.out.1 hx
          have Hk := Lib.hid (And.intro hok (show backL n l k = backTo l k i by unfold backL; rw [if_pos hok, hL]))
          have Hx := Lib.hid hx
          clear hok hL hx
          go_wp2_with fail
          refine (valid1_isL n _ (backTo l k i) _ (Hrd.out.ins Hcx.out).roads Hlen.out Hx.out).mono ?_; rintro e w9 ⟨rfl, hb9⟩
          go_wp2
          go_ret2
          rw [Hk.out.1, Hk.out.2]
          exact ⟨ad, cp, rfl, Hcx.out, Hrd.out.below hb9, fun j hj => ⟨(Hblk.out j hj).1, Nat.lt_of_lt_of_le (Hblk.out j hj).2 hb9.size⟩, HB.out.trans (hb9.mono HB.out.size)⟩
        | false =>
          have hok := HF.out.2 hx
          have Hk := Lib.hid (And.intro hok (show backL n l k = [] by unfold backL; rw [hok]; rfl))
          have Hx := Lib.hid hx
          clear hok hx
          go_wp2_with fail
          refine (valid1_isL n _ (backTo l k i) _ (Hrd.out.ins Hcx.out).roads Hlen.out Hx.out).mono ?_; rintro e w9 ⟨rfl, hb9⟩
          have hb10 := HB.out.trans (hb9.mono HB.out.size)
          go_wp2
          go_ret2
          rw [Hk.out.1, Hk.out.2]
          exact TzOut.no hb10.size (by simp) (hb10.alloc hb10.size _)

end Go.Proofs.Ytmkcnoaphoiiaaa
