/- The law FnClockUntil holds at every input. No condition. -/
import Derived.Test.YtnlhnibhgpelfabCC
import Derived.Test.YtnlhnibhgpelfabDCU
import Derived.Test.YtnlhnibhgpelfabDO
namespace Go.Proofs.Ytnlhnibhgpelfab.lawFnClockUntil
open Go.ChangeShapes Go.WideShapes Go.ChangeAt Go.RowKit
set_option linter.unusedVariables false

set_option maxHeartbeats 1000000 in
theorem walk (v : Value) (l : List Int) (v' : Value) (l' : List Int) (w : World) (hv : BytesIn w v l) (hm : l.length ≤ maxLen) (hv' : BytesIn w v' l') (hm' : l'.length ≤ maxLen) :
    Calls Try.prog 3 #[v, v'] w fun e w' => e = .returned (.bool true) ∧ Below w.heap.size w w' := by
  have Hv := Lib.hid hv
  obtain ⟨av, cv, rfl, hcv, _, _⟩ := hv
  obtain ⟨av', cv', rfl, hcv', _, _⟩ := hv'
  clear hcv hcv'
  by_cases hl : l.length ≤ 1048576
  · have hl' : ¬ (1048576 : Int) < (l.length : Int) := by omega
    by_cases hk : l'.length ≤ 1048576
    · have hk' : ¬ (1048576 : Int) < (l'.length : Int) := by omega
      go_enter Try.func3, Try.ntmps3
      go_wp2_with fail
      refine (drawClockUntil_any _ l _ Hv.out hl).mono ?_; rintro e w1 ⟨a, b, rfl, ha0, ha1, hb0, hb1, hbel⟩
      have HB1 := Lib.hid hbel; clear hbel
      have H2 := Lib.hid (fun x y w' => until2_any x y w')
      have H1 := Lib.hid (fun w' => until1_any a b w')
      by_cases ha : 0 ≤ a ∧ a < 1440
      · obtain ⟨a2, a3⟩ := ha
        have hu : ∀ x y : Int, 0 ≤ x → x < 1440 → 0 ≤ y → y < 1440 → untilV x y = (y - x) % 1440 := fun x y h0 h1 h2 h3 => by
          unfold untilV; rw [(isM_iff x).2 ⟨h0, h1⟩, (isM_iff y).2 ⟨h2, h3⟩]; rfl
        obtain ⟨c, hc⟩ : ∃ c : Int, ((l'.length : Int) * 7) % 1440 = c := ⟨_, rfl⟩
        have hc0 : 0 ≤ c := by omega
        have hc1 : c < 1440 := by omega
        have hw7 : wrap64 ((l'.length : Int) * 7) = (l'.length : Int) * 7 := wrap64_ok (by omega) (by omega)
        have e1 := hu a b a2 a3 hb0 hb1
        have e2 := hu b a hb0 hb1 a2 a3
        have e3 := hu a c a2 a3 hc0 hc1
        have e4 := hu c b hc0 hc1 hb0 hb1
        have F1 := Lib.hid (fun w' => H2.out a b w'); have F2 := Lib.hid (fun w' => H2.out b a w'); have F3 := Lib.hid (fun w' => H2.out a c w'); have F4 := Lib.hid (fun w' => H2.out c b w')
        have ho : 0 ≤ untilV a b ∧ untilV a b < 1440 := by omega
        have hback : (a = b ∧ untilV a b = 0 ∧ untilV b a = 0) ∨ (a ≠ b ∧ untilV a b ≠ 0 ∧ untilV a b + untilV b a = 1440) := by omega
        have hover : untilV a c + untilV c b = untilV a b ∨ untilV a c + untilV c b = untilV a b + 1440 := by omega
        have h3 : 0 ≤ untilV a c ∧ untilV a c < 1440 ∧ 0 ≤ untilV c b ∧ untilV c b < 1440 ∧ 0 ≤ untilV b a ∧ untilV b a < 1440 := by omega
        clear hu e1 e2 e3 e4 H2
        generalize untilV a b = u at *
        generalize untilV b a = ub at *
        generalize untilV a c = u3 at *
        generalize untilV c b = u4 at *
        obtain ⟨ho0, ho1⟩ := ho
        obtain ⟨h30, h31, h40, h41, h50, h51⟩ := h3
        have hq : (u != u) = false := by simp
        have hnn : ¬ u < 0 := by omega
        go_wp2_with fail
        refine (F1.out _).mono ?_; rintro e w2 ⟨rfl, rfl⟩
        go_wp2_with fail
        refine (H1.out _).mono ?_; rintro e w3 ⟨rfl, rfl⟩
        go_wp2_with fail
        refine (F2.out _).mono ?_; rintro e w4 ⟨rfl, rfl⟩
        go_wp2_with fail
        refine (F3.out _).mono ?_; rintro e w5 ⟨rfl, rfl⟩
        go_wp2_with fail
        refine (F4.out _).mono ?_; rintro e w6 ⟨rfl, rfl⟩
        rcases hback with ⟨x1, x2, x3⟩ | ⟨x1, x2, x3⟩
        · have y1 : (a == b) = true := by simpa using x1
          have y2 : (u == 0) = true := by simpa using x2
          have y3 : (ub == 0) = true := by simpa using x3
          clear x1 x2 x3
          rcases hover with z | z
          · have z1 : (u3 + u4 == u) = true := by simpa using z
            clear z
            go_wp2
            go_ret
            exact ⟨ret_bool (by first | rfl | (simp; done)), HB1.out⟩
          · have z1 : (u3 + u4 == u) = false := by simp; omega
            have z2 : (u3 + u4 == u + 1440) = true := by simpa using z
            clear z
            go_wp2
            go_ret
            exact ⟨ret_bool (by first | rfl | (simp; done)), HB1.out⟩
        · have y2 : (u == 0) = false := by simpa using x2
          have y3 : (u + ub == 1440) = true := by simpa using x3
          clear x1 x2 x3
          rcases hover with z | z
          · have z1 : (u3 + u4 == u) = true := by simpa using z
            clear z
            go_wp2
            go_ret
            exact ⟨ret_bool (by first | rfl | (simp; done)), HB1.out⟩
          · have z1 : (u3 + u4 == u) = false := by simp; omega
            have z2 : (u3 + u4 == u + 1440) = true := by simpa using z
            clear z
            go_wp2
            go_ret
            exact ⟨ret_bool (by first | rfl | (simp; done)), HB1.out⟩
      · have e1 : untilV a b = -1 := by
          have : isM a = false := Bool.eq_false_iff.2 (fun h => ha ((isM_iff a).1 h))
          unfold untilV; rw [this]; rfl
        have F1 := Lib.hid (fun w' => H2.out a b w')
        rw [e1] at F1 H1
        clear e1 ha
        go_wp2_with fail
        refine (F1.out _).mono ?_; rintro e w2 ⟨rfl, rfl⟩
        go_wp2_with fail
        refine (H1.out _).mono ?_; rintro e w3 ⟨rfl, rfl⟩
        go_wp2
        go_ret
        exact ⟨ret_bool (by first | rfl | (simp; done)), HB1.out⟩
    · have hk' : (1048576 : Int) < (l'.length : Int) := by omega
      go_enter Try.func3, Try.ntmps3
      go_wp2
      go_ret
      exact ⟨rfl, Below.refl _ _⟩
  · have hl' : (1048576 : Int) < (l.length : Int) := by omega
    go_enter Try.func3, Try.ntmps3
    go_wp2
    go_ret
    exact ⟨rfl, Below.refl _ _⟩

set_option maxRecDepth 100000 in
theorem lifted (os : Os) (started : os.Started) (H : Type) (enc : TypeId × Value → H) :
    ReturnsInHanded {} Try.checked os 3 .any (Rows.fnClockUntilSpec.pre6 enc Try.prog Try.f3 Rows.fnClockUntilRow.domain false) (Rows.fnClockUntilSpec.post enc Try.prog Try.f3 false true false false) := by
  refine returnsInHanded_of_change (C := Try.checked) own started (by kernel_rfl) Try.func3
    (ChangeSpec.witness6 (enc := enc) (C := Try.checked) false ⟨#[], #[.slice none 0 0, .slice none 0 0], []⟩ 8 (by kernel_rfl) (by kernel_rfl) (by kernel_rfl) (by kernel_rfl)) ?_
  intro W base args ds gs before hval0 hW hcnd _
  have hval : ∀ (j : Nat) t v, Try.f3.params[j]? = some t → args[j]? = some v → Value.okWide Try.prog W .any base t v := hval0
  have hW' := hW
  obtain ⟨p, q, hA0, hV, rfl, hfz, hnd⟩ := hW
  have hA : DataW.TrodAll enc Try.prog W 0 (fun _ => true) true Try.f3.params.toList args.toList ds p := hA0
  rw [Try.params3] at hA hval
  obtain ⟨v0, vs0, d0, ds0, p0, q0, hargs, rfl, rfl, h0, r0⟩ := trodAll_cons hA
  obtain ⟨v1, vs1, d1, ds1, p1, q1, rfl, rfl, rfl, h1, r1⟩ := trodAll_cons r0
  obtain ⟨rfl, rfl, rfl⟩ := trodAll_nil r1
  obtain rfl : args = #[v0, v1] := by cases args; simp_all
  obtain ⟨rfl, rfl⟩ := trodVars_none hV
  obtain ⟨a0, len0, cap0, rfl⟩ := okWide_slice Try.underlying22 (hval 0 22 v0 rfl rfl)
  have k0 := h0
  have lt0 : ∀ x ∈ p0, x.block < W.heap.size := by obtain ⟨m, hm⟩ := k0; exact DataW.trod_lt m _ _ _ hm
  obtain ⟨z0, hv0, hm0⟩ := open_byteS h0 rfl
  obtain ⟨a1, len1, cap1, rfl⟩ := okWide_slice Try.underlying22 (hval 1 22 v1 rfl rfl)
  have k1 := h1
  have lt1 : ∀ x ∈ p1, x.block < W.heap.size := by obtain ⟨m, hm⟩ := k1; exact DataW.trod_lt m _ _ _ hm
  obtain ⟨z1, hv1, hm1⟩ := open_byteS h1 rfl
  clear hA0 hval0
  refine (walk _ z0 _ z1 W hv0 hm0 hv1 hm1).mono fun e W' ⟨he, bel⟩ => ?_
  subst he
  exact ⟨_, rfl, _, _, _, [], _, [], hW', trodAll_mk1 (shut_bool Try.underlying4 _), (trodAll_cons_mk (Below.trod laidOut (by kernel_rfl) (of_decide_eq_true (by kernel_rfl)) k0 bel lt0) (trodAll_cons_mk (Below.trod laidOut (by kernel_rfl) (of_decide_eq_true (by kernel_rfl)) k1 bel lt1) trodAll_mk0)), rfl, bel.frame _, fun h => by cases h⟩

theorem over : Rows.fnClockUntilRow.holds Try.pinned (OpenSpec.ofChange Rows.fnClockUntilSpec) :=
  OpenClaim.holds_of_wide 3 Try.f3 rfl rfl rfl rfl rfl rfl rfl ⟨rfl, rfl, rfl, rfl, rfl⟩ rfl rfl rfl rfl rfl (by kernel_rfl) Try.func3 (by kernel_rfl)
    (of_decide_eq_true (by kernel_rfl)) (by unfold Func.isWrapper; first | (rw [if_pos (by decide +kernel)]; kernel_rfl) | (rw [if_neg (by decide +kernel)]; exact ⟨rfl, rfl⟩))
    (fun os started H enc _ => lifted os started H enc)

theorem proved : Rows.FnClockUntilSaid := over
#print axioms proved
end Go.Proofs.Ytnlhnibhgpelfab.lawFnClockUntil
