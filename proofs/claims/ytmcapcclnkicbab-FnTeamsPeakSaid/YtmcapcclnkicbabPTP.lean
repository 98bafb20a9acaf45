/- The law FnTeamsPeak holds at every input. No condition. -/
import Derived.Test.YtmcapcclnkicbabVM
import Derived.Test.YtmcapcclnkicbabDV
import Derived.Test.YtmcapcclnkicbabDQ
namespace Go.Proofs.Ytmcapcclnkicbab.lawFnTeamsPeak
open Go.ChangeShapes Go.WideShapes Go.ChangeAt Go.RowKit
set_option linter.unusedVariables false

def foundTo (l : List Rn) (m : Int) : Nat → Bool
  | 0 => false
  | i + 1 => foundTo l m i || ((l.getD i rn0).a == m)
theorem found_at {l : List Rn} {m : Int} {j : Nat} (h : (l.getD j rn0).a = m) : ∀ {i : Nat}, j < i → foundTo l m i = true
  | i + 1, hj => by
    unfold foundTo
    by_cases e : j = i
    · subst e; rw [h]; simp
    · rw [found_at h (by omega)]; rfl

def F1Rel (l : List Rn) (m : Int) (w : World) (fv iv : Value) (wr : World) : Prop := ∃ i : Nat, i ≤ l.length ∧ fv = .bool (foundTo l m i) ∧ iv = .int .i64 i ∧ wr = w
def F2Rel (m : Int) (w : World) (tv : Value) (wr : World) : Prop := ∃ t : Int, 0 ≤ t ∧ t ≤ m ∧ tv = .int .i64 t ∧ Below w.heap.size w wr

set_option maxRecDepth 100000 in
set_option maxHeartbeats 2000000 in
theorem walk (v : Value) (l : List Int) (w : World) (hv : BytesIn w v l) (hm : l.length ≤ maxLen) :
    Calls Try.prog 5 #[v] w fun e w' => e = .returned (.bool true) ∧ Below w.heap.size w w' := by
  have Hv := Lib.hid hv
  obtain ⟨av, cv, rfl, hcv, _, _⟩ := hv
  clear hcv
  by_cases hl : l.length ≤ 1048576
  · have hl' : ¬ (1048576 : Int) < (l.length : Int) := by omega
    go_enter Try.func5, Try.ntmps5
    go_wp2_with fail
    refine (drawPeak_any _ l _ Hv.out hl).mono ?_; rintro e w1 ⟨ad, cap, xs, rest, rfl, hcap, h8, ht0, ht1, hown, hblk, hb1⟩
    have Hx1 := Lib.hid (hown.ins hcap)
    have HB1 := Lib.hid hb1
    have hx : xs.length ≤ 1048576 := by omega
    clear hown hblk hb1
    cases hok : peakOk xs rest with
    | false =>
      have He := Lib.hid (peakV_no hok); clear hok
      go_wp2_with fail
      refine (peak2_any _ xs rest _ Hx1.out hx).mono ?_; rintro e w2 ⟨rfl, hb2⟩
      have Hx2 := Lib.hid (Hx1.out.below hb2)
      have HB2 := Lib.hid (HB1.out.trans (hb2.mono HB1.out.size))
      clear hb2
      rw [He.out]
      go_wp2_with fail
      refine (peak1_any _ xs rest _ Hx2.out hx).gives.mono ?_; rintro e w3 ⟨rfl, hb3⟩
      have HB3 := Lib.hid (HB2.out.trans (hb3.mono HB2.out.size))
      clear hb3
      rw [He.out]
      go_wp2
      go_ret
      exact ⟨rfl, HB3.out⟩
    | true =>
      have He := Lib.hid (peakV_yes hok)
      have hz : okR xs rest = true ∧ 0 < xs.length := by simpa [peakOk] using hok
      clear hok
      obtain ⟨hz, h0⟩ := hz
      obtain ⟨j, hj, hbj⟩ := best_is xs rest xs.length (Nat.le_refl _) h0
      have hj' : j < xs.length := by omega
      have hat := validU_at (okR_iff.1 hz).1 hj'
      rw [← hbj] at hat
      have hfound := found_at (l := xs) hbj.symm hj'
      have Hfirst := Lib.hid (fun t => peak_first (t := t) hz h0)
      have hleast := peak_least hz h0
      have Hbt := Lib.hid (show ∀ t : Int, 0 ≤ t → t ≤ 10000 → busyV xs rest t = (busyU xs rest t : Nat) from fun t h1 h2 => if_pos ⟨hz, (isT_iff _).2 ⟨h1, h2⟩⟩)
      have hm0 : 0 ≤ bestTo xs rest xs.length := hat.1
      have hm1 : bestTo xs rest xs.length ≤ 10000 := by omega
      have Hm := Lib.hid (Hbt.out _ hm0 hm1)
      clear hat hj hbj hj' hz
      generalize hbm : bestTo xs rest xs.length = m at *
      clear hbm
      generalize busyU xs rest m = n2 at *
      have Hfound := Lib.hid hfound; have Hleast := Lib.hid hleast
      clear hfound hleast
      go_wp2_with fail
      refine (peak2_any _ xs rest _ Hx1.out hx).mono ?_; rintro e w2 ⟨rfl, hb2⟩
      have Hx2 := Lib.hid (Hx1.out.below hb2)
      have HB2 := Lib.hid (HB1.out.trans (hb2.mono HB1.out.size))
      clear hb2
      rw [He.out]
      go_wp2_with fail
      refine (peak1_any _ xs rest _ Hx2.out hx).gives.mono ?_; rintro e w3 ⟨rfl, hb3⟩
      have Hx3 := Lib.hid (Hx2.out.below hb3)
      have HB3 := Lib.hid (HB2.out.trans (hb3.mono HB2.out.size))
      clear hb3
      rw [He.out]
      have hq : (m != m) = false := by simp
      go_wp2_with fail
      refine (teamsBusy2_any _ xs rest m _ Hx3.out hx).mono ?_; rintro e w4 ⟨rfl, hb4⟩
      have Hx4 := Lib.hid (Hx3.out.below hb4)
      have HB4 := Lib.hid (HB3.out.trans (hb4.mono HB3.out.size))
      clear hb4
      rw [Hm.out]
      go_wp2
      go_loopw [10, 11] (fun fv iv wr => F1Rel xs m w4 fv iv wr) (fun _ i _ => xs.length - (intOf i).toNat)
      case atStart => exact ⟨0, Nat.zero_le _, rfl, rfl, rfl⟩
      case round =>
        obtain ⟨i, hi, rfl, rfl, hwr⟩ := hrel
        obtain rfl : w4 = wr := hwr.symm
        by_cases hlt : i < xs.length
        · have hlt' : (i : Int) < (xs.length : Int) := by omega
          have hi0 : (0 : Int) ≤ (i : Int) := Int.natCast_nonneg _
          obtain ⟨a', c', hva, _, ha⟩ := Hx4.out
          obtain ⟨b, o, rfl, hb0, hrw⟩ := ha (by rintro rfl; simp at hlt)
          cases hva
          obtain ⟨c0, c1⟩ := hrw i hlt
          have Hs := Lib.hid (show foundTo xs m (i + 1) = (foundTo xs m i || ((xs.getD i rn0).a == m)) from rfl)
          clear hrw ha
          generalize (xs.getD i rn0).a = xa at *
          generalize (xs.getD i rn0).b = xb at *
          generalize foundTo xs m i = f at *
          cases f with
          | true =>
            go_wp2
            exact ⟨⟨i + 1, hlt, by rw [Hs.out]; rfl, by go_num, rfl⟩, by simp [intOf]; omega⟩
          | false =>
            go_wp2
            exact ⟨⟨i + 1, hlt, by rw [Hs.out]; simp, by go_num, rfl⟩, by simp [intOf]; omega⟩
        · obtain rfl : i = xs.length := by omega
          rw [Hfound.out]
          have hmx : ∃ s : Int, 0 ≤ s ∧ s ≤ m ∧ (if (0 : Int) < m - 100 then m - 100 else 0) = s := by
            by_cases h : (0 : Int) < m - 100
            · exact ⟨m - 100, by omega, by omega, if_pos h⟩
            · exact ⟨0, by omega, by omega, if_neg h⟩
          by_cases hmm : (0 : Int) < m - 100
          · go_wp2
            go_loopw [12] (fun tv wr => F2Rel m w4 tv wr) (fun t _ => (m - intOf t).toNat)
            case atStart => exact ⟨m - 100, by omega, by omega, rfl, Below.refl _ _⟩
            case round =>
              obtain ⟨t, ht0, ht1, rfl, hbel⟩ := hrel
              by_cases htm : t < m
              · have hf := Hfirst.out t htm
                have hbt := Hbt.out t ht0 (by omega)
                have hwt : wrap64 (t + 1) = t + 1 := by unfold wrap64; omega
                go_wp2_with fail
                refine (teamsBusy2_any _ xs rest t _ (Hx4.out.below hbel) hx).mono ?_; rintro e w5 ⟨rfl, hb5⟩
                have hbel2 := hbel.trans (hb5.mono hbel.size)
                clear hb5
                rw [hbt]
                clear hbt
                have hge : ¬ ((busyU xs rest t : Nat) : Int) ≥ (n2 : Int) := by omega
                generalize busyU xs rest t = n1 at *
                go_wp2
                exact ⟨⟨t + 1, by omega, by omega, by first | rfl | rw [hwt], hbel2⟩, by simp [intOf]; omega⟩
              · obtain rfl : t = m := by omega
                go_wp2_with fail
                refine (least2_any _ xs rest _ (Hx4.out.below hbel) hx).mono ?_; rintro e w6 ⟨rfl, hb6⟩
                have HB6 := Lib.hid (HB4.out.trans ((hbel.trans (hb6.mono hbel.size)).mono HB4.out.size))
                clear hb6 hbel
                rw [← Hleast.out]
                go_wp2
                go_ret
                exact ⟨ret_bool (by first | rfl | (simp; done)), HB6.out⟩
          · have hmm' : m - 100 ≤ 0 := by omega
            go_wp2
            go_loopw [12] (fun tv wr => F2Rel m w4 tv wr) (fun t _ => (m - intOf t).toNat)
            case atStart => exact ⟨0, by omega, by omega, rfl, Below.refl _ _⟩
            case round =>
              obtain ⟨t, ht0, ht1, rfl, hbel⟩ := hrel
              by_cases htm : t < m
              · have hf := Hfirst.out t htm
                have hbt := Hbt.out t ht0 (by omega)
                have hwt : wrap64 (t + 1) = t + 1 := by unfold wrap64; omega
                go_wp2_with fail
                refine (teamsBusy2_any _ xs rest t _ (Hx4.out.below hbel) hx).mono ?_; rintro e w5 ⟨rfl, hb5⟩
                have hbel2 := hbel.trans (hb5.mono hbel.size)
                clear hb5
                rw [hbt]
                clear hbt
                have hge : ¬ ((busyU xs rest t : Nat) : Int) ≥ (n2 : Int) := by omega
                generalize busyU xs rest t = n1 at *
                go_wp2
                exact ⟨⟨t + 1, by omega, by omega, by first | rfl | rw [hwt], hbel2⟩, by simp [intOf]; omega⟩
              · obtain rfl : t = m := by omega
                go_wp2_with fail
                refine (least2_any _ xs rest _ (Hx4.out.below hbel) hx).mono ?_; rintro e w6 ⟨rfl, hb6⟩
                have HB6 := Lib.hid (HB4.out.trans ((hbel.trans (hb6.mono hbel.size)).mono HB4.out.size))
                clear hb6 hbel
                rw [← Hleast.out]
                go_wp2
                go_ret
                exact ⟨ret_bool (by first | rfl | (simp; done)), HB6.out⟩
  · have hl' : (1048576 : Int) < (l.length : Int) := by omega
    go_enter Try.func5, Try.ntmps5
    go_wp2
    go_ret
    exact ⟨rfl, Below.refl _ _⟩

set_option maxRecDepth 100000 in
theorem lifted (os : Os) (started : os.Started) (H : Type) (enc : TypeId × Value → H) :
    ReturnsInHanded {} Try.checked os 5 .any (Rows.fnTeamsPeakSpec.pre6 enc Try.prog Try.f5 Rows.fnTeamsPeakRow.domain false) (Rows.fnTeamsPeakSpec.post enc Try.prog Try.f5 false true false false) := by
  refine returnsInHanded_of_change (C := Try.checked) own started (by kernel_rfl) Try.func5
    (ChangeSpec.witness6 (enc := enc) (C := Try.checked) false ⟨#[], #[.slice none 0 0], []⟩ 8 (by kernel_rfl) (by kernel_rfl) (by kernel_rfl) (by kernel_rfl)) ?_
  intro W base args ds gs before hval0 hW hcnd _
  have hval : ∀ (j : Nat) t v, Try.f5.params[j]? = some t → args[j]? = some v → Value.okWide Try.prog W .any base t v := hval0
  have hW' := hW
  obtain ⟨p, q, hA0, hV, rfl, hfz, hnd⟩ := hW
  have hA : DataW.TrodAll enc Try.prog W 0 (fun _ => true) true Try.f5.params.toList args.toList ds p := hA0
  rw [Try.params5] at hA hval
  obtain ⟨v0, vs0, d0, ds0, p0, q0, hargs, rfl, rfl, h0, r0⟩ := trodAll_cons hA
  obtain ⟨rfl, rfl, rfl⟩ := trodAll_nil r0
  obtain rfl : args = #[v0] := by cases args; simp_all
  obtain ⟨rfl, rfl⟩ := trodVars_none hV
  obtain ⟨a0, len0, cap0, rfl⟩ := okWide_slice Try.underlying22 (hval 0 22 v0 rfl rfl)
  have k0 := h0
  have lt0 : ∀ x ∈ p0, x.block < W.heap.size := by obtain ⟨m, hm⟩ := k0; exact DataW.trod_lt m _ _ _ hm
  obtain ⟨z0, hv0, hm0⟩ := open_byteS h0 rfl
  clear hA0 hval0
  refine (walk _ z0 W hv0 hm0).mono fun e W' ⟨he, bel⟩ => ?_
  subst he
  exact ⟨_, rfl, _, _, _, [], _, [], hW', trodAll_mk1 (shut_bool Try.underlying4 _), (trodAll_cons_mk (Below.trod laidOut (by kernel_rfl) (of_decide_eq_true (by kernel_rfl)) k0 bel lt0) trodAll_mk0), rfl, bel.frame _, fun h => by cases h⟩

theorem over : Rows.fnTeamsPeakRow.holds Try.pinned (OpenSpec.ofChange Rows.fnTeamsPeakSpec) :=
  OpenClaim.holds_of_wide 5 Try.f5 rfl rfl rfl rfl rfl rfl rfl ⟨rfl, rfl, rfl, rfl, rfl⟩ rfl rfl rfl rfl rfl (by kernel_rfl) Try.func5 (by kernel_rfl)
    (of_decide_eq_true (by kernel_rfl)) (by unfold Func.isWrapper; first | (rw [if_pos (by decide +kernel)]; kernel_rfl) | (rw [if_neg (by decide +kernel)]; exact ⟨rfl, rfl⟩))
    (fun os started H enc _ => lifted os started H enc)

theorem proved : Rows.FnTeamsPeakSaid := over
#print axioms proved
end Go.Proofs.Ytmcapcclnkicbab.lawFnTeamsPeak
