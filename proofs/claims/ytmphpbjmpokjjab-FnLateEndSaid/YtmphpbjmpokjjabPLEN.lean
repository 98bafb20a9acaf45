/- The law FnLateEnd holds at every input. No condition. -/
import Derived.Test.YtmphpbjmpokjjabOJ
import Derived.Test.YtmphpbjmpokjjabDLC
import Derived.Test.YtmphpbjmpokjjabKC
import Derived.Test.YtmphpbjmpokjjabLTG
import Derived.Test.YtmphpbjmpokjjabSUO
import Derived.Test.YtmphpbjmpokjjabDO
namespace Go.Proofs.Ytmphpbjmpokjjab.lawFnLateEnd
open Go.ChangeShapes Go.WideShapes Go.ChangeAt Go.RowKit
set_option linter.unusedVariables false

set_option maxRecDepth 100000 in
set_option maxHeartbeats 2000000 in
theorem walk (v : Value) (l : List Int) (w : World) (hv : BytesIn w v l) (hm : l.length ≤ maxLen) :
    Calls Try.prog 6 #[v] w fun e w' => e = .returned (.bool true) ∧ Below w.heap.size w w' := by
  have Hv := Lib.hid hv
  obtain ⟨av, cv, rfl, hcv, _, _⟩ := hv
  clear hcv
  by_cases hl : l.length ≤ 1048576
  · have hl' : ¬ (1048576 : Int) < (l.length : Int) := by omega
    go_enter Try.func6, Try.ntmps6
    go_wp2_with fail
    refine (drawLateEnd_any _ l _ Hv.out hl).mono ?_; rintro e w1 ⟨n, sv, xs, ls, st, u, ds, rfl, n2, n6, hx1, hx8, hu1, hd8, _, _, hb1⟩
    have HX1 := Lib.hid hx1
    have HU1 := Lib.hid hu1
    have HB1 := Lib.hid hb1
    have hx : xs.length ≤ 1048576 := by omega
    have H2 := Lib.hid (fun w' (h : RoadsIn w' sv xs) (hu : IntsIn w' u ds) => end2_any n sv xs ls st u ds w' h hx hu (by omega))
    have H1 := Lib.hid (fun w' (h : RoadsIn w' sv xs) (hu : IntsIn w' u ds) => end1_any n sv xs ls st u ds w' h hx hu (by omega))
    have HS := Lib.hid (fun w' (h : RoadsIn w' sv xs) => slackL2_any n sv xs ls w' h hx)
    clear hx1 hu1 hb1
    cases hok : okLate n xs ls st ds with
    | false =>
      have hno := endX_no hok
      rw [hno] at H2 H1
      clear hok hno HS
      go_wp2_with fail
      refine (H2.out _ HX1.out HU1.out).mono ?_; rintro e w2 ⟨rfl, hb2⟩
      have HX2 := Lib.hid (HX1.out.below hb2)
      have HU2 := Lib.hid (HU1.out.below hb2)
      have HB2 := Lib.hid (HB1.out.trans (hb2.mono HB1.out.size))
      clear hb2
      go_wp2_with fail
      refine (H1.out _ HX2.out HU2.out).mono ?_; rintro e w3 ⟨rfl, hb3⟩
      have HB3 := Lib.hid (HB2.out.trans (hb3.mono HB2.out.size))
      clear hb3
      go_wp2
      go_ret
      exact ⟨rfl, HB3.out⟩
    | true =>
      have hS2 := okLate_2 hok
      obtain ⟨m, hm2⟩ : ∃ m, xs.length = m + 2 := ⟨xs.length - 2, by omega⟩
      have hlen := (okLate_iff.1 hok).2.2.2.2
      have hdm : ds.length = m + 1 := by omega
      obtain ⟨q1, q2, q3, q4⟩ := end_law hok hm2
      have hso := slk_ok hok
      obtain ⟨hss, hsl⟩ := slkX_sum hso hm2
      have Hsb := Lib.hid (show ∀ i, -2000000000 ≤ (slkX n xs ls).getD i 0 ∧ (slkX n xs ls).getD i 0 ≤ 2000000000 from fun i => by have := slkX_bd hso i; omega)
      have Hdb := Lib.hid (show ∀ i, -2000000000 ≤ ds.getD i 0 ∧ ds.getD i 0 ≤ 2000000000 from fun i => by have := allDl_at (okLate_iff.1 hok).1 i; omega)
      have hsd := slkX_bd hso (m + 1)
      have hsum := slkSum_bd hso m (by omega)
      have hst := okDl_iff.1 (okLate_iff.1 hok).2.2.2.1
      have hdd := allDl_at (okLate_iff.1 hok).1 m
      have hbd := endX_bd n xs ls st ds
      have h0 := endX_ok.2 hok
      rw [hso] at HS
      obtain ⟨ua, uc, eu, huc, hua⟩ := HU1.out
      subst eu
      obtain ⟨b, o, eb, hbt, hat⟩ := hua (by rintro rfl; simp at hdm)
      subst eb
      have Hat := Lib.hid (fun w' (h : Below w1.heap.size w1 w') => (hat.below h hbt) m (by omega))
      have Hdm := Lib.hid hdm
      have Hss := Lib.hid hss
      have Hsl := Lib.hid hsl
      have Hz1 := Lib.hid (Below.refl w1.heap.size w1)
      have hm6 : m ≤ 6 := by omega
      have hmn : (0 : Int) ≤ (m : Int) := Int.natCast_nonneg _
      have Hd8 := Lib.hid hd8
      have hDbd : ds.sum ≤ 70000 ∧ -30000 ≤ ds.sum := by omega
      rw [hdm] at huc ⊢
      rw [hdm] at HU1 H2 H1
      obtain ⟨h1a, h1b⟩ := hsum
      obtain ⟨h2a, h2b⟩ := hsd
      obtain ⟨h3a, h3b⟩ := hst
      obtain ⟨h4a, h4b⟩ := hdd
      obtain ⟨h5a, h5b⟩ := hDbd
      clear hua hat hS2 hlen hm2 hdm hso hss hsl hd8 hok
      generalize hD : ds.sum = D at *
      have HD := Lib.hid hD
      clear hD
      generalize endX n xs ls st ds = S at *
      generalize ds.getD m 0 = dl at *
      generalize slkSum xs ls m = B at *
      generalize hsli : (slkX n xs ls).getD (m + 1) 0 = sl at *
      have Hsli := Lib.hid hsli
      clear hsli
      have hq : (S != S) = false := by simp
      have hnn : ¬ S < 0 := by omega
      have g1 : wrap64 (st + D) = st + D := by unfold wrap64; omega
      have g2 : wrap64 (B + sl - sl) = B := by unfold wrap64; omega
      have g3 : wrap64 (st + D - B) = st + D - B := by unfold wrap64; omega
      have Hq4 := Lib.hid q4
      clear q4
      go_wp2_with fail
      refine (H2.out _ HX1.out HU1.out).mono ?_; rintro e w2 ⟨rfl, hb2⟩
      have HX2 := Lib.hid (HX1.out.below hb2)
      have HU2 := Lib.hid (HU1.out.below hb2)
      have HB2 := Lib.hid (HB1.out.trans (hb2.mono HB1.out.size))
      have Hz2 := Lib.hid (Hz1.out.trans (hb2.mono Hz1.out.size))
      clear hb2
      go_wp2_with fail
      refine (H1.out _ HX2.out HU2.out).mono ?_; rintro e w3 ⟨rfl, hb3⟩
      have HX3 := Lib.hid (HX2.out.below hb3)
      have HU3 := Lib.hid (HU2.out.below hb3)
      have HB3 := Lib.hid (HB2.out.trans (hb3.mono HB2.out.size))
      have Hz3 := Lib.hid (Hz2.out.trans (hb3.mono Hz2.out.size))
      clear hb3
      go_wp2_with fail
      refine (HS.out _ HX3.out).mono ?_; intro e w4 h4
      obtain ⟨v4, rfl, hi4, hb4⟩ := okIn h4
      have HI4 := Lib.hid hi4
      have HU4 := Lib.hid (HU3.out.below hb4)
      have HB4 := Lib.hid (HB3.out.trans (hb4.mono HB3.out.size))
      have Hz4 := Lib.hid (Hz3.out.trans (hb4.mono Hz3.out.size))
      clear h4 hi4 hb4
      go_wp2_with fail
      refine (sumOf_any _ ds _ HU4.out (by rw [Hdm.out]; omega) Hdb.out).mono ?_; rintro e w5 ⟨rfl, rfl⟩
      rw [HD.out]
      obtain ⟨sa, sc, es, hsc, hsa⟩ := HI4.out
      subst es
      obtain ⟨b2, o2, eb2, hbt2, hat2⟩ := hsa (by intro h; have := Hsl.out; rw [h] at this; simp at this)
      subst eb2
      have c1 := hat2 (m + 1) (by rw [Hsl.out]; omega)
      rw [Hsli.out] at c1
      have c2 := Hat.out _ Hz4.out
      rw [Hsl.out] at hsc ⊢
      clear hsa hat2
      have HSO := Lib.hid (fun q => sumOf_any _ (slkX n xs ls) (w5.drewN q) (HI4.out.below ((Below.refl _ _).drewN q)) (by rw [Hsl.out]; omega) Hsb.out)
      rw [Hsl.out, Hss.out] at HSO
      go_wp2
      go_quiet ((go_at_call 23; exact Calls.quiet_of_same (HSO.out _)))
      clear HSO
      by_cases qb : 0 < B
      · go_wp2
        go_ret
        exact ⟨rfl, HB4.out.drewN _⟩
      · have hB0 : B = 0 := by omega
        have hSq := Hq4.out hB0
        subst hB0
        have hse : (S == st + D) = true := by simp [hSq]
        go_wp2
        go_ret
        exact ⟨rfl, HB4.out.drewN _⟩
  · have hl' : (1048576 : Int) < (l.length : Int) := by omega
    go_enter Try.func6, Try.ntmps6
    go_wp2
    go_ret
    exact ⟨rfl, Below.refl _ _⟩

set_option maxRecDepth 100000 in
theorem lifted (os : Os) (started : os.Started) (H : Type) (enc : TypeId × Value → H) :
    ReturnsInHanded {} Try.checked os 6 .any (Rows.fnLateEndSpec.pre6 enc Try.prog Try.f6 Rows.fnLateEndRow.domain false) (Rows.fnLateEndSpec.post enc Try.prog Try.f6 false true false false) := by
  refine returnsInHanded_of_change (C := Try.checked) own started (by kernel_rfl) Try.func6
    (ChangeSpec.witness6 (enc := enc) (C := Try.checked) false ⟨#[], #[.slice none 0 0], []⟩ 8 (by kernel_rfl) (by kernel_rfl) (by kernel_rfl) (by kernel_rfl)) ?_
  intro W base args ds gs before hval0 hW hcnd _
  have hval : ∀ (j : Nat) t v, Try.f6.params[j]? = some t → args[j]? = some v → Value.okWide Try.prog W .any base t v := hval0
  have hW' := hW
  obtain ⟨p, q, hA0, hV, rfl, hfz, hnd⟩ := hW
  have hA : DataW.TrodAll enc Try.prog W 0 (fun _ => true) true Try.f6.params.toList args.toList ds p := hA0
  rw [Try.params6] at hA hval
  obtain ⟨v0, vs0, d0, ds0, p0, q0, hargs, rfl, rfl, h0, r0⟩ := trodAll_cons hA
  obtain ⟨rfl, rfl, rfl⟩ := trodAll_nil r0
  obtain rfl : args = #[v0] := by cases args; simp_all
  obtain ⟨rfl, rfl⟩ := trodVars_none hV
  obtain ⟨a0, len0, cap0, rfl⟩ := okWide_slice Try.underlying22 (hval 0 22 v0 rfl rfl)
  have k0 := h0
  have lt0 : ∀ x ∈ p0, x.block < W.heap.size := by obtain ⟨m, hm⟩ := k0; exact DataW.trod_lt m _ _ _ hm
  obtain ⟨z0, hv0, hm0⟩ := open_byteS h0 rfl
  clear hA0 hval0
  refine (walk _ z0 W hv0 hm0).mono fun e W' ⟨he, bel⟩ => ?_
  subst he
  exact ⟨_, rfl, _, _, _, [], _, [], hW', trodAll_mk1 (shut_bool Try.underlying4 _), (trodAll_cons_mk (Below.trod laidOut (by kernel_rfl) (of_decide_eq_true (by kernel_rfl)) k0 bel lt0) trodAll_mk0), rfl, bel.frame _, fun h => by cases h⟩

theorem closed : joinedFacts Try.prog 6 Try.f6 Rows.fnLateEndSpec Rows.fnLateEndRow = true := by
  delta joinedFacts
  refine and_t (and_t (and_t (and_t (and_t (and_t (and_t ?_ mayE) (liftE rfl)) (makeE rfl)) ?_) ?_) ?_) ?_
  all_goals kernel_rfl
theorem over : Rows.fnLateEndRow.holds Try.pinned (OpenSpec.ofChange Rows.fnLateEndSpec) :=
  OpenClaim.holds_of_wide 6 Try.f6 rfl rfl rfl rfl rfl rfl rfl ⟨rfl, rfl, rfl, rfl, rfl⟩ rfl rfl rfl rfl rfl (by kernel_rfl) Try.func6 closed
    (of_decide_eq_true (by kernel_rfl)) (by unfold Func.isWrapper; first | (rw [if_pos (by decide +kernel)]; kernel_rfl) | (rw [if_neg (by decide +kernel)]; exact ⟨rfl, rfl⟩))
    (fun os started H enc _ => lifted os started H enc)

theorem proved : Rows.FnLateEndSaid := over
#print axioms proved
end Go.Proofs.Ytmphpbjmpokjjab.lawFnLateEnd
