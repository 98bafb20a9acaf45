/- StopsLater: the model's. -/
import Derived.Test.YtfdaaeapfeajjaaSK
namespace Go.Proofs.Ytfdaaeapfeajjaa
open Go.RowKit

theorem valid1_isL (n : Int) (v : Value) (l : List Rd) (w : World) (hv : RoadsIn w v l) (hl : l.length ≤ 1048576) {x : Bool} (hz : validS n l = x) :
    Calls Try.prog 44 #[.int .i64 n, v] w (Gives (.bool x) w) := by
  have := valid1_any n v l w hv hl; rwa [hz] at this

theorem inB_no {x lo hi : Int} (h : ¬ (lo ≤ x ∧ x ≤ hi)) : inB x lo hi = false := Bool.eq_false_iff.2 (fun e => h ((inB_iff _ _ _).1 e))

def L1Rel (n : Int) (l : List Rd) (k : Int) (w : World) (v iv : Value) (wr : World) : Prop :=
  ∃ i : Nat, i ≤ l.length ∧ iv = .int .i64 i ∧ OwnS wr w.heap.size v (laterW (l.take i) k) ∧ (i = 0 ∨ (validS n l = true ∧ -10000 ≤ k ∧ k ≤ 10000)) ∧ Below w.heap.size w wr

theorem StopsOut.no {w w' : World} {g : Nat} (hg : w.heap.size ≤ g) (hl : g < w'.heap.size) (hb : Below w.heap.size w w') : StopsOut [] false w (.returned (.tuple #[.slice (some ⟨g, 0, none⟩) 0 0, .bool false])) w' :=
  ⟨some ⟨g, 0, none⟩, 0, rfl, fun h => absurd rfl h, fun j hj => by obtain ⟨o, ho⟩ := hj; cases ho; exact ⟨hg, hl⟩, hb⟩

set_option maxRecDepth 100000 in
set_option maxHeartbeats 1600000 in
theorem later1_any (n : Int) (v : Value) (l : List Rd) (k : Int) (w : World) (hv : RoadsIn w v l) (hm : l.length ≤ 1048576) (wk : W64 k) :
    Calls Try.prog 11 #[.int .i64 n, v, .int .i64 k] w (StopsOut (laterL n l k) (laterOk n l k) w) := by
  have Hv0 := Lib.hid hv
  obtain ⟨a, cap, rfl, ha⟩ := hv
  have Ha := Lib.hid ha; clear ha
  obtain ⟨i0, hi0, hz0, hz1, hz2⟩ := info_parts stopInfo
  have hb0 : Below w.heap.size w (w.alloc (.cells #[] 35)) := (Below.refl _ _).alloc (Nat.le_refl _) _
  have Hb0 := Lib.hid hb0; clear hb0
  have Hown0 := Lib.hid (OwnS.made w w.heap.size (Nat.le_refl _))
  go_enter Try.func11, Try.ntmps11
  go_wp2
  go_loopw [8, 9] (fun v iv wr => L1Rel n l k w v iv wr) (fun _ i _ => l.length - (intOf i).toNat)
  case atStart => exact ⟨0, Nat.zero_le _, rfl, Hown0.out, .inl rfl, Hb0.out⟩
  case round =>
    obtain ⟨i, hi, rfl, hown, hval, hbel⟩ := hrel
    by_cases hgo : i < l.length ∧ validS n l = true ∧ -10000 ≤ k ∧ k ≤ 10000
    · obtain ⟨hlt, hz, hk0, hk1⟩ := hgo
      have hlti : (i : Int) < (l.length : Int) := by omega
      have hin : inB k (-10000) 10000 = true := (inB_iff _ _ _).2 ⟨hk0, hk1⟩
      obtain ⟨b, o, rfl, hlt0, hrw⟩ := Ha.out (by rintro rfl; simp at hlt)
      obtain ⟨_, _, x0, x1, x2, _⟩ := validS_at hz hlt
      have h8 := (validS_iff.1 hz).1.2.2.2
      have htake := laterW_take l k hlt
      have hlat : latR k (l.getD i rd0) = ⟨(l.getD i rd0).a, (l.getD i rd0).b + k, (l.getD i rd0).m + k⟩ := by
        unfold latR
        rw [IntWalk.i64_in _ (by omega), IntWalk.i64_in _ (by omega)]
      have Htake := Lib.hid htake; clear htake
      have Hlat := Lib.hid hlat; clear hlat
      have hxl : (laterW (l.take i) k).length = i := by rw [laterW_len]; simp; omega
      have Hxl := Lib.hid hxl; clear hxl
      have Hz := Lib.hid hz; clear hz
      have Hrw := Lib.hid hrw; clear hrw
      have Hlt := Lib.hid hlt; clear hlt
      have Hown := Lib.hid hown; clear hown
      have hi8 : i ≤ 8 := by omega
      clear hval
      go_wp2_with fail
      refine (valid1_isL n _ l _ (Hv0.out.below hbel) hm Hz.out).mono ?_; rintro e w1 ⟨rfl, hb1⟩
      have hbel1 := hbel.trans (hb1.mono hbel.size)
      have hown1 := Hown.out.below hb1
      go_wp2_with fail
      refine (l6In_any _ _ _ _).mono ?_; rintro e w' ⟨rfl, rfl⟩
      rw [hin]
      obtain ⟨c0, c1, c2⟩ := (Hrw.out.below hbel1 hlt0) i Hlt.out
      generalize (l.getD i rd0).a = xa at *
      generalize (l.getD i rd0).b = xb at *
      generalize (l.getD i rd0).m = xm at *
      unfold OwnS at hown1
      have hs1 := hbel1.size
      clear hb1 hbel
      go_wp2_with (at_builtin; (refine wpList_append_own _ rfl _ _ 23 rfl w.heap.size 35 i0 _ 3 24 Try.underlying23 hi0 hz0 hz1 hz2 rfl (by omega) _ _ (encR (laterW (l.take i) k)) rfl ((hown1.alloc _).alloc _) ⟨w1.heap.size + 1, 0, none⟩ 1 1 [.int .i64 xa, .int .i64 (xb + k), .int .i64 (xm + k)] rfl rfl (news2 w1 _ #[.int .i64 xa, .int .i64 (xb + k), .int .i64 (xm + k)] 35) (by simp [Value.oneCell']) (by rw [Hxl.out]; unfold maxLen; omega) (by rw [Hxl.out]; omega) (by simp; omega) ?_; intro v' w2 hown2 hgrow _))
      have B6 : Below w.heap.size w w2 := (((hbel1.alloc hs1 _).alloc (by simp; omega) _).grown hgrow (by simp; omega) (fun j hj => (hown1.lt j hj).1))
      have hown7 : OwnS w2 w.heap.size v' (laterW (l.take (i + 1)) k) := by
        rw [Htake.out, Hlat.out]
        exact OwnS.snoc hown2
      have Hown7 := Lib.hid hown7
      have HB6 := Lib.hid B6
      clear hown7 B6 hown2 hgrow hown1 hbel1
      go_wp2
      exact ⟨⟨i + 1, Hlt.out, by go_num, Hown7.out, .inr ⟨Hz.out, hk0, hk1⟩, HB6.out⟩, by simp [intOf]; have := Hlt.out; omega⟩
    · have hF : (validS n (laterW (l.take i) k) = true → laterOk n l k = true ∧ laterW l k = laterW (l.take i) k) ∧ (validS n (laterW (l.take i) k) = false → laterOk n l k = false) := by
        rcases hval with h0 | ⟨h1, h2, h3⟩
        · subst h0
          have hnil : validS n (laterW (l.take 0) k) = false := validS_small (by rw [laterW_len]; simp)
          refine ⟨fun h => (by rw [hnil] at h; cases h), fun _ => ?_⟩
          cases hz : validS n l with
          | false => unfold laterOk; rw [hz]; rfl
          | true =>
            have h2 := (validS_iff.1 hz).1.2.2.1
            have hk : ¬ (-10000 ≤ k ∧ k ≤ 10000) := fun h => hgo ⟨by omega, hz, h.1, h.2⟩
            unfold laterOk; rw [later_far hz wk hk]; simp
        · have hil : i = l.length := by
            by_cases h : i < l.length
            · exact absurd ⟨h, h1, h2, h3⟩ hgo
            · omega
          subst hil
          rw [List.take_length]
          exact ⟨fun h => ⟨by unfold laterOk; rw [h1, h]; rfl, rfl⟩, fun h => by unfold laterOk; rw [h]; simp⟩
      have HF := Lib.hid hF; clear hF
      by_cases hlt : i < l.length
      · have hlti : (i : Int) < (l.length : Int) := by omega
        cases hz : validS n l with
        | false =>
          have Hz := Lib.hid hz; clear hz hval hgo hlt
          have Hown := Lib.hid hown; clear hown
          go_wp2_with fail
          refine (valid1_isL n _ l _ (Hv0.out.below hbel) hm Hz.out).mono ?_; rintro e w1 ⟨rfl, hb1⟩
          have hbel1 := hbel.trans (hb1.mono hbel.size)
          have hown1 := Hown.out.below hb1
          clear hb1 hbel
          obtain ⟨ad, cp, rfl, hrd, hblk⟩ := hown1.row
          have hlen : (laterW (l.take i) k).length ≤ 1048576 := by rw [laterW_len]; simp; omega
          have Hrd := Lib.hid hrd
          have Hblk := Lib.hid hblk
          have HB := Lib.hid hbel1
          have Hlen := Lib.hid hlen
          clear hrd hblk hlen
          cases hx : validS n (laterW (l.take i) k) with
          | true =>
            obtain ⟨hok, hL⟩ := HF.out.1 hx
            have Hk := Lib.hid (And.intro hok (show laterL n l k = laterW (l.take i) k by unfold laterL; rw [if_pos hok, hL]))
            have Hx := Lib.hid hx
            clear hok hL hx
            go_wp2_with fail
            refine (valid1_isL n _ (laterW (l.take i) k) _ Hrd.out.ins Hlen.out Hx.out).mono ?_; rintro e w9 ⟨rfl, hb9⟩
            go_wp2
            go_ret2
            rw [Hk.out.1, Hk.out.2]
            exact ⟨ad, cp, rfl, Hrd.out.below hb9, fun j hj => ⟨(Hblk.out j hj).1, Nat.lt_of_lt_of_le (Hblk.out j hj).2 hb9.size⟩, HB.out.trans (hb9.mono HB.out.size)⟩
          | false =>
            have hok := HF.out.2 hx
            have Hk := Lib.hid (And.intro hok (show laterL n l k = [] by unfold laterL; rw [hok]; rfl))
            have Hx := Lib.hid hx
            clear hok hx
            go_wp2_with fail
            refine (valid1_isL n _ (laterW (l.take i) k) _ Hrd.out.ins Hlen.out Hx.out).mono ?_; rintro e w9 ⟨rfl, hb9⟩
            have hb10 := HB.out.trans (hb9.mono HB.out.size)
            go_wp2
            go_ret2
            rw [Hk.out.1, Hk.out.2]
            exact StopsOut.no hb10.size (by simp) (hb10.alloc hb10.size _)
        | true =>
          have hk : ¬ (-10000 ≤ k ∧ k ≤ 10000) := fun h => hgo ⟨hlt, hz, h.1, h.2⟩
          have hin := inB_no hk
          have Hz := Lib.hid hz; clear hz hval hgo hlt hk
          have Hown := Lib.hid hown; clear hown
          go_wp2_with fail
          refine (valid1_isL n _ l _ (Hv0.out.below hbel) hm Hz.out).mono ?_; rintro e w1 ⟨rfl, hb1⟩
          have hbel1 := hbel.trans (hb1.mono hbel.size)
          have hown1 := Hown.out.below hb1
          clear hb1 hbel
          go_wp2_with fail
          refine (l6In_any _ _ _ _).mono ?_; rintro e w' ⟨rfl, rfl⟩
          rw [hin]
          clear hin
          obtain ⟨ad, cp, rfl, hrd, hblk⟩ := hown1.row
          have hlen : (laterW (l.take i) k).length ≤ 1048576 := by rw [laterW_len]; simp; omega
          have Hrd := Lib.hid hrd
          have Hblk := Lib.hid hblk
          have HB := Lib.hid hbel1
          have Hlen := Lib.hid hlen
          clear hrd hblk hlen
          cases hx : validS n (laterW (l.take i) k) with
          | true =>
            obtain ⟨hok, hL⟩ := HF.out.1 hx
            have Hk := Lib.hid (And.intro hok (show laterL n l k = laterW (l.take i) k by unfold laterL; rw [if_pos hok, hL]))
            have Hx := Lib.hid hx
            clear hok hL hx
            go_wp2_with fail
            refine (valid1_isL n _ (laterW (l.take i) k) _ Hrd.out.ins Hlen.out Hx.out).mono ?_; rintro e w9 ⟨rfl, hb9⟩
            go_wp2
            go_ret2
            rw [Hk.out.1, Hk.out.2]
            exact ⟨ad, cp, rfl, Hrd.out.below hb9, fun j hj => ⟨(Hblk.out j hj).1, Nat.lt_of_lt_of_le (Hblk.out j hj).2 hb9.size⟩, HB.out.trans (hb9.mono HB.out.size)⟩
          | false =>
            have hok := HF.out.2 hx
            have Hk := Lib.hid (And.intro hok (show laterL n l k = [] by unfold laterL; rw [hok]; rfl))
            have Hx := Lib.hid hx
            clear hok hx
            go_wp2_with fail
            refine (valid1_isL n _ (laterW (l.take i) k) _ Hrd.out.ins Hlen.out Hx.out).mono ?_; rintro e w9 ⟨rfl, hb9⟩
            have hb10 := HB.out.trans (hb9.mono HB.out.size)
            go_wp2
            go_ret2
            rw [Hk.out.1, Hk.out.2]
            exact StopsOut.no hb10.size (by simp) (hb10.alloc hb10.size _)
      · have hlti : ¬ (i : Int) < (l.length : Int) := by omega
        clear hval hgo
        obtain ⟨ad, cp, rfl, hrd, hblk⟩ := hown.row
        have hlen : (laterW (l.take i) k).length ≤ 1048576 := by rw [laterW_len]; simp; omega
        have Hrd := Lib.hid hrd
        have Hblk := Lib.hid hblk
        have HB := Lib.hid hbel
        have Hlen := Lib.hid hlen
        clear hrd hblk hlen
        cases hx : validS n (laterW (l.take i) k) with
        | true =>
          obtain ⟨hok, hL⟩ := HF.out.1 hx
          have Hk := Lib.hid (And.intro hok (show laterL n l k = laterW (l.take i) k by unfold laterL; rw [if_pos hok, hL]))
          have Hx := Lib.hid hx
          clear hok hL hx
          go_wp2_with fail
          refine (valid1_isL n _ (laterW (l.take i) k) _ Hrd.out.ins Hlen.out Hx.out).mono ?_; rintro e w9 ⟨rfl, hb9⟩
          go_wp2
          go_ret2
          rw [Hk.out.1, Hk.out.2]
          exact ⟨ad, cp, rfl, Hrd.out.below hb9, fun j hj => ⟨(Hblk.out j hj).1, Nat.lt_of_lt_of_le (Hblk.out j hj).2 hb9.size⟩, HB.out.trans (hb9.mono HB.out.size)⟩
        | false =>
          have hok := HF.out.2 hx
          have Hk := Lib.hid (And.intro hok (show laterL n l k = [] by unfold laterL; rw [hok]; rfl))
          have Hx := Lib.hid hx
          clear hok hx
          go_wp2_with fail
          refine (valid1_isL n _ (laterW (l.take i) k) _ Hrd.out.ins Hlen.out Hx.out).mono ?_; rintro e w9 ⟨rfl, hb9⟩
          have hb10 := HB.out.trans (hb9.mono HB.out.size)
          go_wp2
          go_ret2
          rw [Hk.out.1, Hk.out.2]
          exact StopsOut.no hb10.size (by simp) (hb10.alloc hb10.size _)

end Go.Proofs.Ytfdaaeapfeajjaa
