/- The law FnRestMost holds at every input. No condition. -/
import Derived.Test.YtmcapcclnkicbabVM
import Derived.Test.YtmcapcclnkicbabDW
import Derived.Test.YtmcapcclnkicbabDP
namespace Go.Proofs.Ytmcapcclnkicbab.lawFnRestMost
open Go.ChangeShapes Go.WideShapes Go.ChangeAt Go.RowKit
set_option linter.unusedVariables false

set_option maxRecDepth 100000 in
set_option maxHeartbeats 2000000 in
theorem walk (v : Value) (l : List Int) (w : World) (hv : BytesIn w v l) (hm : l.length ≤ maxLen) :
    Calls Try.prog 6 #[v] w fun e w' => e = .returned (.bool true) ∧ Below w.heap.size w w' := by
  have Hv := Lib.hid hv
  obtain ⟨av, cv, rfl, hcv, _, _⟩ := hv
  clear hcv
  by_cases hl : l.length ≤ 1048576
  · have hl' : ¬ (1048576 : Int) < (l.length : Int) := by omega
    go_enter Try.func6, Try.ntmps6
    go_wp2_with fail
    refine (drawRest_any _ l _ Hv.out hl).mono ?_; rintro e w1 ⟨ad, cap, xs, teams, rfl, hcap, h8, ht0, ht1, hown, hblk, hb1⟩
    have Hx1 := Lib.hid (hown.ins hcap)
    have HB1 := Lib.hid hb1
    have hx : xs.length ≤ 1048576 := by omega
    clear hown hblk hb1
    go_wp2_with fail
    refine (rest2_any _ xs teams _ Hx1.out hx).mono ?_; rintro e w2 ⟨rfl, hb2⟩
    have Hx2 := Lib.hid (Hx1.out.below hb2)
    have HB2 := Lib.hid (HB1.out.trans (hb2.mono HB1.out.size))
    clear hb2
    go_wp2_with fail
    refine (rest1_any _ xs teams _ Hx2.out hx).mono ?_; rintro e w3 ⟨rfl, hb3⟩
    have Hx3 := Lib.hid (Hx2.out.below hb3)
    have HB3 := Lib.hid (HB2.out.trans (hb3.mono HB2.out.size))
    clear hb3
    by_cases hneg : restV xs teams < 0
    · generalize restV xs teams = m at *
      have hq : (m != m) = false := by simp
      have hq2 : (m == m) = true := by simp
      go_wp2
      go_ret
      exact ⟨ret_bool (by first | rfl | (simp; done)), HB3.out⟩
    · obtain ⟨f1, f2, f3, t1, t2, f4⟩ := rest_law (l := xs) (teams := teams) (by omega)
      have hw1 : wrap64 (teams + 1) = teams + 1 := wrap64_ok (by omega) (by omega)
      have hw2 : wrap64 (restV xs teams + 1) = restV xs teams + 1 := wrap64_ok (by omega) (by omega)
      have Hr2 := Lib.hid (fun w' (h : RnIn w' (.slice ad xs.length cap) xs) => rest2_any _ xs (teams + 1) w' h hx)
      have Hl1 := Lib.hid (fun w' (h : RnIn w' (.slice ad xs.length cap) xs) => least2_any _ xs (restV xs teams) w' h hx)
      have Hl2 := Lib.hid (fun w' (h : RnIn w' (.slice ad xs.length cap) xs) => least2_any _ xs (restV xs teams + 1) w' h hx)
      generalize restV xs (teams + 1) = fu at *
      generalize leastV xs (restV xs teams + 1) = lb at *
      generalize leastV xs (restV xs teams) = la at *
      generalize restV xs teams = m at *
      have hq : (m != m) = false := by simp
      go_wp2_with fail
      refine (Hr2.out _ Hx3.out).mono ?_; rintro e w4 ⟨rfl, hb4⟩
      have Hx4 := Lib.hid (Hx3.out.below hb4)
      have HB4 := Lib.hid (HB3.out.trans (hb4.mono HB3.out.size))
      clear hb4
      go_wp2_with fail
      refine (Hl1.out _ Hx4.out).mono ?_; rintro e w5 ⟨rfl, hb5⟩
      have Hx5 := Lib.hid (Hx4.out.below hb5)
      have HB5 := Lib.hid (HB4.out.trans (hb5.mono HB4.out.size))
      clear hb5
      have g1 : decide (la ≤ teams) = true := by simpa using f1
      by_cases hm6 : m = 600
      · have g2 : (m == 600) = true := by simpa using hm6
        by_cases ht12 : teams = 12
        · have g3 : (teams == 12) = true := by simpa using ht12
          clear f2 f3 hm6 ht12
          go_wp2
          go_ret
          exact ⟨rfl, HB5.out⟩
        · have g3 : (teams == 12) = false := by simpa using ht12
          have g4 : m ≤ fu := by rcases f3 with h | h; exact absurd h ht12; exact h
          clear f2 f3 hm6 ht12
          go_wp2
          go_ret
          exact ⟨ret_bool (by first | rfl | (simp; omega)), HB5.out⟩
      · have g2 : (m == 600) = false := by simpa using hm6
        have g5 : teams < lb := by rcases f2 with h | h; exact absurd h hm6; exact h
        clear f2
        go_wp2_with fail
        refine (Hl2.out _ Hx5.out).mono ?_; rintro e w6 ⟨rfl, hb6⟩
        have HB6 := Lib.hid (HB5.out.trans (hb6.mono HB5.out.size))
        clear hb6
        by_cases ht12 : teams = 12
        · have g3 : (teams == 12) = true := by simpa using ht12
          clear f3 hm6 ht12
          go_wp2
          go_ret
          exact ⟨ret_bool (by first | rfl | (simp; omega)), HB6.out⟩
        · have g3 : (teams == 12) = false := by simpa using ht12
          have g4 : m ≤ fu := by rcases f3 with h | h; exact absurd h ht12; exact h
          clear f3 hm6 ht12
          go_wp2
          go_ret
          exact ⟨ret_bool (by first | rfl | (simp; omega)), HB6.out⟩
  · have hl' : (1048576 : Int) < (l.length : Int) := by omega
    go_enter Try.func6, Try.ntmps6
    go_wp2
    go_ret
    exact ⟨rfl, Below.refl _ _⟩

set_option maxRecDepth 100000 in
theorem lifted (os : Os) (started : os.Started) (H : Type) (enc : TypeId × Value → H) :
    ReturnsInHanded {} Try.checked os 6 .any (Rows.fnRestMostSpec.pre6 enc Try.prog Try.f6 Rows.fnRestMostRow.domain false) (Rows.fnRestMostSpec.post enc Try.prog Try.f6 false true false false) := by
  refine returnsInHanded_of_change (C := Try.checked) own started (by kernel_rfl) Try.func6
    (ChangeSpec.witness6 (enc := enc) (C := Try.checked) false ⟨#[], #[.slice none 0 0], []⟩ 8 (by kernel_rfl) (by kernel_rfl) (by kernel_rfl) (by kernel_rfl)) ?_
  intro W base args ds gs before hval0 hW hcnd _
  have hval : ∀ (j : Nat) t v, Try.f6.params[j]? = some t → args[j]? = some v → Value.okWide Try.prog W .any base t v := hval0
  have hW' := hW
  obtain ⟨p, q, hA0, hV, rfl, hfz, hnd⟩ := hW
  have hA : DataW.TrodAll enc Try.prog W 0 (fun _ => true) true Try.f6.params.toList args.toList ds p := hA0
  rw [Try.params6] at hA hval
  obtain ⟨v0, vs0, d0, ds0, p0, q0, hargs, rfl, rfl, h0, r0⟩ := trodAll_cons hA
  obtain ⟨rfl, rfl, rfl⟩ := trodAll_nil r0
  obtain rfl : args = #[v0] := by cases args; simp_all
  obtain ⟨rfl, rfl⟩ := trodVars_none hV
  obtain ⟨a0, len0, cap0, rfl⟩ := okWide_slice Try.underlying22 (hval 0 22 v0 rfl rfl)
  have k0 := h0
  have lt0 : ∀ x ∈ p0, x.block < W.heap.size := by obtain ⟨m, hm⟩ := k0; exact DataW.trod_lt m _ _ _ hm
  obtain ⟨z0, hv0, hm0⟩ := open_byteS h0 rfl
  clear hA0 hval0
  refine (walk _ z0 W hv0 hm0).mono fun e W' ⟨he, bel⟩ => ?_
  subst he
  exact ⟨_, rfl, _, _, _, [], _, [], hW', trodAll_mk1 (shut_bool Try.underlying4 _), (trodAll_cons_mk (Below.trod laidOut (by kernel_rfl) (of_decide_eq_true (by kernel_rfl)) k0 bel lt0) trodAll_mk0), rfl, bel.frame _, fun h => by cases h⟩

theorem over : Rows.fnRestMostRow.holds Try.pinned (OpenSpec.ofChange Rows.fnRestMostSpec) :=
  OpenClaim.holds_of_wide 6 Try.f6 rfl rfl rfl rfl rfl rfl rfl ⟨rfl, rfl, rfl, rfl, rfl⟩ rfl rfl rfl rfl rfl (by kernel_rfl) Try.func6 (by kernel_rfl)
    (of_decide_eq_true (by kernel_rfl)) (by unfold Func.isWrapper; first | (rw [if_pos (by decide +kernel)]; kernel_rfl) | (rw [if_neg (by decide +kernel)]; exact ⟨rfl, rfl⟩))
    (fun os started H enc _ => lifted os started H enc)

theorem proved : Rows.FnRestMostSaid := over
#print axioms proved
end Go.Proofs.Ytmcapcclnkicbab.lawFnRestMost
