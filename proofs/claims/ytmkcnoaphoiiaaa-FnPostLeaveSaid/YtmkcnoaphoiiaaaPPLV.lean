/- The law FnPostLeave holds at every input. No condition. -/
import Derived.Test.YtmkcnoaphoiiaaaOJ
import Derived.Test.YtmkcnoaphoiiaaaDND
import Derived.Test.YtmkcnoaphoiiaaaJZPL
import Derived.Test.YtmkcnoaphoiiaaaOC
namespace Go.Proofs.Ytmkcnoaphoiiaaa.lawFnPostLeave
open Go.ChangeShapes Go.WideShapes Go.ChangeAt Go.RowKit
set_option linter.unusedVariables false

set_option maxRecDepth 100000 in
set_option maxHeartbeats 2000000 in
theorem walk (v : Value) (l : List Int) (w : World) (hv : BytesIn w v l) (hm : l.length ≤ maxLen) :
    Calls Try.prog 15 #[v] w fun e w' => e = .returned (.bool true) ∧ Below w.heap.size w w' := by
  have Hv := Lib.hid hv
  obtain ⟨av, cv, rfl, hcv, _, _⟩ := hv
  clear hcv
  by_cases hl : l.length ≤ 1048576
  · have hl' : ¬ (1048576 : Int) < (l.length : Int) := by omega
    go_enter Try.func15, Try.ntmps15
    go_wp2_with fail
    refine (drawPostLeave_any _ l _ Hv.out hl).mono ?_; rintro e w1 ⟨n, sv, net, f, to, t, ch, rfl, n2, n6, hN, htot, ⟨t0, t1⟩, hch, hb1⟩
    have HN := Lib.hid hN
    have HB1 := Lib.hid hb1
    have wn : W64 n := by unfold W64; omega
    have H2 := Lib.hid (fun (t : Int) (h : W64 t) w' (hb : Below w1.heap.size w1 w') => postLeave2_any n sv net f to t ch w' (hN.below hb) htot h)
    have H1 := Lib.hid (fun (t : Int) w' (hb : Below w1.heap.size w1 w') => postLeave1_any n sv net f to t ch w' (hN.below hb) (Nat.le_succ_of_le htot) wn)
    have HA := Lib.hid (fun (t : Int) w' (hb : Below w1.heap.size w1 w') => postArrive2_any n sv net f to t ch w' (hN.below hb) (Nat.le_succ_of_le htot))
    have Hlaw := Lib.hid (fun h => leave_law (n := n) (net := net) (f := f) (to := to) (t := t) (ch := ch) h t1)
    have hge := leX_ge (n := n) (net := net) (f := f) (to := to) (t := t) (ch := ch)
    have Hch := Lib.hid hch
    clear hb1 hN htot hch
    obtain ⟨S, hS⟩ : ∃ S, S = leX n net f to t ch := ⟨_, rfl⟩
    have h2 := H2.out t (by unfold W64; omega)
    have h1 := H1.out t
    rw [← hS] at Hlaw hge h1 h2
    have H2t := Lib.hid h2
    have H1t := Lib.hid h1
    clear hS h1 h2 H1
    have hne : (S != S) = false := by simp
    have heq : (S == S) = true := by simp
    go_wp2_with fail
    refine (H2t.out _ (Below.refl _ _)).mono ?_; rintro e w2 ⟨rfl, hb2⟩
    have HB2 := Lib.hid hb2
    clear hb2
    go_wp2_with fail
    refine (H1t.out _ HB2.out).mono ?_; rintro e w3 ⟨rfl, hb3⟩
    have HB3 := Lib.hid (HB2.out.trans (hb3.mono HB2.out.size))
    clear hb3
    by_cases h0 : 0 ≤ S
    · obtain ⟨⟨x0, x1⟩, hy, hz, hS9⟩ := Hlaw.out h0
      have hn0 : ¬ S < 0 := by omega
      have hw1 : wrap64 (S + 1) = S + 1 := by unfold wrap64; omega
      have hw5 : wrap64 (t + 5) = t + 5 := by unfold wrap64; omega
      have wt5 : W64 (t + 5) := by unfold W64; omega
      obtain ⟨X, hX⟩ : ∃ X, X = paX n net f to S ch := ⟨_, rfl⟩
      obtain ⟨Y, hY⟩ : ∃ Y, Y = paX n net f to (S + 1) ch := ⟨_, rfl⟩
      obtain ⟨Z, hZ⟩ : ∃ Z, Z = leX n net f to (t + 5) ch := ⟨_, rfl⟩
      rw [← hX] at x0 x1
      rw [← hY] at hy
      rw [← hZ] at hz
      have HX := Lib.hid hX; have HY := Lib.hid hY; have HZ := Lib.hid hZ
      have Hz := Lib.hid hz
      have Hy := Lib.hid hy
      clear hX hY hZ hy hz Hlaw
      go_wp2_with fail
      refine (HA.out S _ HB3.out).mono ?_; rintro e w4 ⟨rfl, hb4⟩
      rw [← HX.out]
      have HB4 := Lib.hid (HB3.out.trans (hb4.mono HB3.out.size))
      clear hb4
      go_wp2_with fail
      refine (HA.out (S + 1) _ HB4.out).mono ?_; rintro e w5 ⟨rfl, hb5⟩
      rw [← HY.out]
      have HB5 := Lib.hid (HB4.out.trans (hb5.mono HB4.out.size))
      clear hb5
      go_wp2_with fail
      refine (H2.out (t + 5) wt5 _ HB5.out).mono ?_; rintro e w6 ⟨rfl, hb6⟩
      rw [← HZ.out]
      have HB6 := Lib.hid (HB1.out.trans ((HB5.out.trans (hb6.mono HB5.out.size)).mono HB1.out.size))
      clear hb6
      have dx0 : decide (0 ≤ X) = true := decide_eq_true x0
      have dx1 : decide (X ≤ t) = true := decide_eq_true x1
      have dz : decide (S ≤ Z) = true := decide_eq_true Hz.out
      rcases Hy.out with hy | hy
      · have dy : (Y == -1) = true := by simpa using hy
        clear hy
        go_wp2
        go_ret
        exact ⟨ret_bool (by first | rfl | (simp; done)), HB6.out⟩
      · have dy : (Y == -1) = false := by simp; omega
        have dy2 : decide (t < Y) = true := decide_eq_true hy
        clear hy
        go_wp2
        go_ret
        exact ⟨ret_bool (by first | rfl | (simp; done)), HB6.out⟩
    · have hn0 : S < 0 := by omega
      clear Hlaw
      go_wp2
      go_ret
      exact ⟨ret_bool (by first | rfl | (simp; done)), HB1.out.trans (HB3.out.mono HB1.out.size)⟩
  · have hl' : (1048576 : Int) < (l.length : Int) := by omega
    go_enter Try.func15, Try.ntmps15
    go_wp2
    go_ret
    exact ⟨rfl, Below.refl _ _⟩

set_option maxRecDepth 100000 in
theorem lifted (os : Os) (started : os.Started) (H : Type) (enc : TypeId × Value → H) :
    ReturnsInHanded {} Try.checked os 15 .any (Rows.fnPostLeaveSpec.pre6 enc Try.prog Try.f15 Rows.fnPostLeaveRow.domain false) (Rows.fnPostLeaveSpec.post enc Try.prog Try.f15 false true false false) := by
  refine returnsInHanded_of_change (C := Try.checked) own started (by kernel_rfl) Try.func15
    (ChangeSpec.witness6 (enc := enc) (C := Try.checked) false ⟨#[], #[.slice none 0 0], []⟩ 8 (by kernel_rfl) (by kernel_rfl) (by kernel_rfl) (by kernel_rfl)) ?_
  intro W base args ds gs before hval0 hW hcnd _
  have hval : ∀ (j : Nat) t v, Try.f15.params[j]? = some t → args[j]? = some v → Value.okWide Try.prog W .any base t v := hval0
  have hW' := hW
  obtain ⟨p, q, hA0, hV, rfl, hfz, hnd⟩ := hW
  have hA : DataW.TrodAll enc Try.prog W 0 (fun _ => true) true Try.f15.params.toList args.toList ds p := hA0
  rw [Try.params15] at hA hval
  obtain ⟨v0, vs0, d0, ds0, p0, q0, hargs, rfl, rfl, h0, r0⟩ := trodAll_cons hA
  obtain ⟨rfl, rfl, rfl⟩ := trodAll_nil r0
  obtain rfl : args = #[v0] := by cases args; simp_all
  obtain ⟨rfl, rfl⟩ := trodVars_none hV
  obtain ⟨a0, len0, cap0, rfl⟩ := okWide_slice Try.underlying62 (hval 0 62 v0 rfl rfl)
  have k0 := h0
  have lt0 : ∀ x ∈ p0, x.block < W.heap.size := by obtain ⟨m, hm⟩ := k0; exact DataW.trod_lt m _ _ _ hm
  obtain ⟨z0, hv0, hm0⟩ := open_byteS h0 rfl
  clear hA0 hval0
  refine (walk _ z0 W hv0 hm0).mono fun e W' ⟨he, bel⟩ => ?_
  subst he
  exact ⟨_, rfl, _, _, _, [], _, [], hW', trodAll_mk1 (shut_bool Try.underlying4 _), (trodAll_cons_mk (Below.trod laidOut (by kernel_rfl) (of_decide_eq_true (by kernel_rfl)) k0 bel lt0) trodAll_mk0), rfl, bel.frame _, fun h => by cases h⟩

theorem closed : joinedFacts Try.prog 15 Try.f15 Rows.fnPostLeaveSpec Rows.fnPostLeaveRow = true := by
  delta joinedFacts
  refine and_t (and_t (and_t (and_t (and_t (and_t (and_t ?_ mayE) (liftE rfl)) (makeE rfl)) ?_) ?_) ?_) ?_
  all_goals kernel_rfl
theorem over : Rows.fnPostLeaveRow.holds Try.pinned (OpenSpec.ofChange Rows.fnPostLeaveSpec) :=
  OpenClaim.holds_of_wide 15 Try.f15 rfl rfl rfl rfl rfl rfl rfl ⟨rfl, rfl, rfl, rfl, rfl⟩ rfl rfl rfl rfl rfl (by kernel_rfl) Try.func15 closed
    (of_decide_eq_true (by kernel_rfl)) (by unfold Func.isWrapper; first | (rw [if_pos (by decide +kernel)]; kernel_rfl) | (rw [if_neg (by decide +kernel)]; exact ⟨rfl, rfl⟩))
    (fun os started H enc _ => lifted os started H enc)

theorem proved : Rows.FnPostLeaveSaid := over
#print axioms proved
end Go.Proofs.Ytmkcnoaphoiiaaa.lawFnPostLeave
