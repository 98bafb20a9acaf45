/- The law FnTeamsLeast holds at every input. No condition. -/
import Derived.Test.YtmcapcclnkicbabVM
import Derived.Test.YtmcapcclnkicbabDV
import Derived.Test.YtmcapcclnkicbabDQ
namespace Go.Proofs.Ytmcapcclnkicbab.lawFnTeamsLeast
open Go.ChangeShapes Go.WideShapes Go.ChangeAt Go.RowKit
set_option linter.unusedVariables false

theorem busyU_mono (l : List Rn) (rest t : Int) : busyU l rest t ≤ busyU l (rest + 1) t := by
  unfold busyU busyTo
  refine List.countP_mono_left fun x _ h => ?_
  simp only [Bool.and_eq_true, decide_eq_true_eq] at h ⊢
  omega
theorem mostTo_mono (l : List Rn) (rest : Int) (k : Nat) : mostTo l rest k ≤ mostTo l (rest + 1) k :=
  mostTo_le l rest fun i hi => Nat.le_trans (busyU_mono l rest _) (mostTo_ge l (rest + 1) hi)
theorem least_mono {l : List Rn} {rest : Int} (hz : okR l rest = true) (h : rest ≠ 600) : leastV l rest ≤ leastV l (rest + 1) := by
  obtain ⟨h1, h2, h3⟩ := okR_iff.1 hz
  unfold leastV
  rw [if_pos hz, if_pos (okR_iff.2 ⟨h1, by omega, by omega⟩)]
  have := mostTo_mono l rest l.length
  omega
theorem least_nonneg {l : List Rn} {rest : Int} (hz : okR l rest = true) : 0 ≤ leastV l rest := by
  unfold leastV
  rw [if_pos hz]
  omega

def PLRel (l : List Rn) (w : World) (iv : Value) (wr : World) : Prop := ∃ i : Nat, i ≤ l.length ∧ iv = .int .i64 i ∧ Below w.heap.size w wr

set_option maxRecDepth 100000 in
set_option maxHeartbeats 2000000 in
theorem walk (v : Value) (l : List Int) (w : World) (hv : BytesIn w v l) (hm : l.length ≤ maxLen) :
    Calls Try.prog 3 #[v] w fun e w' => e = .returned (.bool true) ∧ Below w.heap.size w w' := by
  have Hv := Lib.hid hv
  obtain ⟨av, cv, rfl, hcv, _, _⟩ := hv
  clear hcv
  by_cases hl : l.length ≤ 1048576
  · have hl' : ¬ (1048576 : Int) < (l.length : Int) := by omega
    go_enter Try.func3, Try.ntmps3
    go_wp2_with fail
    refine (drawLeast_any _ l _ Hv.out hl).mono ?_; rintro e w1 ⟨ad, cap, xs, rest, rfl, hcap, h8, ht0, ht1, hown, hblk, hb1⟩
    have Hx1 := Lib.hid (hown.ins hcap)
    have HB1 := Lib.hid hb1
    have hx : xs.length ≤ 1048576 := by omega
    clear hown hblk hb1
    have Hl := Lib.hid (fun w' (h : RnIn w' (.slice ad xs.length cap) xs) => least2_any _ xs rest w' h hx)
    have Hl1 := Lib.hid (fun w' (h : RnIn w' (.slice ad xs.length cap) xs) => least1_any _ xs rest w' h hx)
    cases hok : okR xs rest with
    | false =>
      have He := Lib.hid (show leastV xs rest = -1 from if_neg (by rw [hok]; simp)); clear hok
      go_wp2_with fail
      refine (Hl.out _ Hx1.out).mono ?_; rintro e w2 ⟨rfl, hb2⟩
      have Hx2 := Lib.hid (Hx1.out.below hb2)
      have HB2 := Lib.hid (HB1.out.trans (hb2.mono HB1.out.size))
      clear hb2
      rw [He.out]
      go_wp2_with fail
      refine (Hl1.out _ Hx2.out).gives.mono ?_; rintro e w3 ⟨rfl, hb3⟩
      have HB3 := Lib.hid (HB2.out.trans (hb3.mono HB2.out.size))
      clear hb3
      rw [He.out]
      go_wp2
      go_ret
      exact ⟨rfl, HB3.out⟩
    | true =>
      have Hle := Lib.hid (fun w' t (h : RnIn w' (.slice ad xs.length cap) xs) => teamsBusy2_any _ xs rest t w' h hx)
      have Hpk := Lib.hid (fun w' (h : RnIn w' (.slice ad xs.length cap) xs) => peak2_any _ xs rest w' h hx)
      have Hlt := Lib.hid (fun w' (h : RnIn w' (.slice ad xs.length cap) xs) => least2_any _ xs (rest + 1) w' h hx)
      have hbv : ∀ t : Int, busyV xs rest t ≤ leastV xs rest := fun t => by
        have h1 := busy_le_least hok t
        have h0 := least_nonneg hok
        unfold busyV; split <;> omega
      have Hbv := Lib.hid hbv
      have h0 := least_nonneg hok
      have hw1 : wrap64 (rest + 1) = rest + 1 := wrap64_ok (by omega) (by omega)
      have hw2 : IntKind.i64.wrap (rest + 1) = rest + 1 := IntWalk.i64_in _ (by omega)
      have hmo : rest = 600 ∨ leastV xs rest ≤ leastV xs (rest + 1) := by
        by_cases e : rest = 600
        · exact .inl e
        · exact .inr (least_mono hok e)
      have Hend := Lib.hid (show xs.length = 0 ∧ leastV xs rest = 0 ∧ peakV xs rest = .tuple #[.int .i64 0, .bool false] ∨ 0 < xs.length ∧ ∃ m : Int, peakV xs rest = .tuple #[.int .i64 m, .bool true] ∧ busyV xs rest m = leastV xs rest from by
        by_cases e : xs.length = 0
        · refine .inl ⟨e, ?_, peakV_no (by unfold peakOk; simp [e])⟩
          unfold leastV; rw [if_pos hok, e]; rfl
        · have e0 : 0 < xs.length := by omega
          refine .inr ⟨e0, _, peakV_yes (by unfold peakOk; simp [hok, e0]), ?_⟩
          rw [← peak_least hok e0]
          obtain ⟨j, hj, hbj⟩ := best_is xs rest xs.length (Nat.le_refl _) e0
          have hat := validU_at (okR_iff.1 hok).1 (show j < xs.length by omega)
          rw [← hbj] at hat
          exact if_pos ⟨hok, (isT_iff _).2 ⟨by omega, by omega⟩⟩)
      clear hbv hok
      generalize leastV xs (rest + 1) = m2 at *
      generalize leastV xs rest = m at *
      have hq : (m != m) = false := by simp
      go_wp2_with fail
      refine (Hl.out _ Hx1.out).mono ?_; rintro e w2 ⟨rfl, hb2⟩
      have Hx2 := Lib.hid (Hx1.out.below hb2)
      have HB2 := Lib.hid (HB1.out.trans (hb2.mono HB1.out.size))
      clear hb2
      go_wp2_with fail
      refine (Hl1.out _ Hx2.out).gives.mono ?_; rintro e w3 ⟨rfl, hb3⟩
      have Hx3 := Lib.hid (Hx2.out.below hb3)
      have HB3 := Lib.hid (HB2.out.trans (hb3.mono HB2.out.size))
      clear hb3
      go_wp2
      go_loopw [7] (fun iv wr => PLRel xs w3 iv wr) (fun i _ => xs.length - (intOf i).toNat)
      case atStart => exact ⟨0, Nat.zero_le _, rfl, Below.refl _ _⟩
      case round =>
        obtain ⟨i, hi, rfl, hbel⟩ := hrel
        have HBw := Lib.hid hbel
        by_cases hlt : i < xs.length
        · have hlt' : (i : Int) < (xs.length : Int) := by omega
          have Hxw := Lib.hid (Hx3.out.below hbel)
          obtain ⟨a', c', hva, _, ha⟩ := Hx3.out.below hbel
          obtain ⟨b, o, rfl, hb0, hrw⟩ := ha (by rintro rfl; simp at hlt)
          cases hva
          obtain ⟨c0, c1⟩ := hrw i hlt
          clear hrw ha hbel
          generalize (xs.getD i rn0).a = xa at *
          generalize (xs.getD i rn0).b = xb at *
          have hbt := Hbv.out xa
          go_wp2_with fail
          refine (Hle.out _ xa Hxw.out).mono ?_; rintro e w5 ⟨rfl, hb5⟩
          have hbel2 := HBw.out.trans (hb5.mono HBw.out.size)
          clear hb5
          have hgt : ¬ m < busyV xs rest xa := by omega
          generalize busyV xs rest xa = n1 at *
          go_wp2
          exact ⟨⟨i + 1, hlt, by go_num, hbel2⟩, by simp [intOf]; omega⟩
        · obtain hil : i = xs.length := by omega
          have Hxw := Lib.hid (Hx3.out.below hbel)
          clear hbel
          rcases Hend.out with ⟨e0, em, ep⟩ | ⟨e0, pk, ep, eb⟩
          · have Hil := Lib.hid (show (i : Int) = 0 by omega)
            have hx0 : ((xs.length : Int) == 0) = true := by rw [e0]; rfl
            have hm0 : (m == 0) = true := by simpa using em
            have Hxl := Lib.hid e0
            have Hep := Lib.hid ep
            clear e0 em ep hil
            go_wp2_with fail
            refine (Hpk.out _ Hxw.out).mono ?_; rintro e w6 ⟨rfl, hb6⟩
            have Hx6 := Lib.hid (Hxw.out.below hb6)
            have HB6 := Lib.hid (HBw.out.trans (hb6.mono HBw.out.size))
            clear hb6
            rw [Hep.out]
            go_wp2_with fail
            refine (Hlt.out _ Hx6.out).mono ?_; rintro e w7 ⟨rfl, hb7⟩
            have HB7 := Lib.hid (HB3.out.trans ((HB6.out.trans (hb7.mono HB6.out.size)).mono HB3.out.size))
            clear hb7
            by_cases h6 : rest = 600
            · have g6 : (rest == 600) = true := by simpa using h6
              clear h6 hmo
              go_wp2
              go_ret
              exact ⟨ret_bool (by first | rfl | (simp; done)), HB7.out⟩
            · have g6 : (rest == 600) = false := by simpa using h6
              have g7 : m ≤ m2 := by rcases hmo with h | h; exact absurd h h6; exact h
              clear h6 hmo
              go_wp2
              go_ret
              exact ⟨ret_bool (by first | rfl | (simp; omega)), HB7.out⟩
          · have hx0 : ((xs.length : Int) == 0) = false := by simp; rintro rfl; simp at e0
            have Hil := Lib.hid hil
            have Hep := Lib.hid ep
            have Heb := Lib.hid eb
            have hnl : ¬ (i : Int) < (xs.length : Int) := by omega
            clear e0 ep eb hil
            go_wp2_with fail
            refine (Hpk.out _ Hxw.out).mono ?_; rintro e w6 ⟨rfl, hb6⟩
            have Hx6 := Lib.hid (Hxw.out.below hb6)
            have HB6 := Lib.hid (HBw.out.trans (hb6.mono HBw.out.size))
            clear hb6
            rw [Hep.out]
            go_wp2_with fail
            refine (Hlt.out _ Hx6.out).mono ?_; rintro e w7 ⟨rfl, hb7⟩
            have Hx7 := Lib.hid (Hx6.out.below hb7)
            have HB7 := Lib.hid (HB6.out.trans (hb7.mono HB6.out.size))
            clear hb7
            go_wp2_with fail
            refine (Hle.out _ pk Hx7.out).mono ?_; rintro e w8 ⟨rfl, hb8⟩
            have HB8 := Lib.hid (HB3.out.trans ((HB7.out.trans (hb8.mono HB7.out.size)).mono HB3.out.size))
            clear hb8
            rw [Heb.out]
            by_cases h6 : rest = 600
            · have g6 : (rest == 600) = true := by simpa using h6
              clear h6 hmo
              go_wp2
              go_ret
              exact ⟨ret_bool (by first | rfl | (simp; done)), HB8.out⟩
            · have g6 : (rest == 600) = false := by simpa using h6
              have g7 : m ≤ m2 := by rcases hmo with h | h; exact absurd h h6; exact h
              clear h6 hmo
              go_wp2
              go_ret
              exact ⟨ret_bool (by first | rfl | (simp; omega)), HB8.out⟩
  · have hl' : (1048576 : Int) < (l.length : Int) := by omega
    go_enter Try.func3, Try.ntmps3
    go_wp2
    go_ret
    exact ⟨rfl, Below.refl _ _⟩

set_option maxRecDepth 100000 in
theorem lifted (os : Os) (started : os.Started) (H : Type) (enc : TypeId × Value → H) :
    ReturnsInHanded {} Try.checked os 3 .any (Rows.fnTeamsLeastSpec.pre6 enc Try.prog Try.f3 Rows.fnTeamsLeastRow.domain false) (Rows.fnTeamsLeastSpec.post enc Try.prog Try.f3 false true false false) := by
  refine returnsInHanded_of_change (C := Try.checked) own started (by kernel_rfl) Try.func3
    (ChangeSpec.witness6 (enc := enc) (C := Try.checked) false ⟨#[], #[.slice none 0 0], []⟩ 8 (by kernel_rfl) (by kernel_rfl) (by kernel_rfl) (by kernel_rfl)) ?_
  intro W base args ds gs before hval0 hW hcnd _
  have hval : ∀ (j : Nat) t v, Try.f3.params[j]? = some t → args[j]? = some v → Value.okWide Try.prog W .any base t v := hval0
  have hW' := hW
  obtain ⟨p, q, hA0, hV, rfl, hfz, hnd⟩ := hW
  have hA : DataW.TrodAll enc Try.prog W 0 (fun _ => true) true Try.f3.params.toList args.toList ds p := hA0
  rw [Try.params3] at hA hval
  obtain ⟨v0, vs0, d0, ds0, p0, q0, hargs, rfl, rfl, h0, r0⟩ := trodAll_cons hA
  obtain ⟨rfl, rfl, rfl⟩ := trodAll_nil r0
  obtain rfl : args = #[v0] := by cases args; simp_all
  obtain ⟨rfl, rfl⟩ := trodVars_none hV
  obtain ⟨a0, len0, cap0, rfl⟩ := okWide_slice Try.underlying22 (hval 0 22 v0 rfl rfl)
  have k0 := h0
  have lt0 : ∀ x ∈ p0, x.block < W.heap.size := by obtain ⟨m, hm⟩ := k0; exact DataW.trod_lt m _ _ _ hm
  obtain ⟨z0, hv0, hm0⟩ := open_byteS h0 rfl
  clear hA0 hval0
  refine (walk _ z0 W hv0 hm0).mono fun e W' ⟨he, bel⟩ => ?_
  subst he
  exact ⟨_, rfl, _, _, _, [], _, [], hW', trodAll_mk1 (shut_bool Try.underlying4 _), (trodAll_cons_mk (Below.trod laidOut (by kernel_rfl) (of_decide_eq_true (by kernel_rfl)) k0 bel lt0) trodAll_mk0), rfl, bel.frame _, fun h => by cases h⟩

theorem over : Rows.fnTeamsLeastRow.holds Try.pinned (OpenSpec.ofChange Rows.fnTeamsLeastSpec) :=
  OpenClaim.holds_of_wide 3 Try.f3 rfl rfl rfl rfl rfl rfl rfl ⟨rfl, rfl, rfl, rfl, rfl⟩ rfl rfl rfl rfl rfl (by kernel_rfl) Try.func3 (by kernel_rfl)
    (of_decide_eq_true (by kernel_rfl)) (by unfold Func.isWrapper; first | (rw [if_pos (by decide +kernel)]; kernel_rfl) | (rw [if_neg (by decide +kernel)]; exact ⟨rfl, rfl⟩))
    (fun os started H enc _ => lifted os started H enc)

theorem proved : Rows.FnTeamsLeastSaid := over
#print axioms proved
end Go.Proofs.Ytmcapcclnkicbab.lawFnTeamsLeast
