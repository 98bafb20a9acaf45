/- The law FnLateFree holds at every input. No condition. -/
import Derived.Test.YtmphpbjmpokjjabOJ
import Derived.Test.YtmphpbjmpokjjabDLC
import Derived.Test.YtmphpbjmpokjjabKD
import Derived.Test.YtmphpbjmpokjjabLTG
import Derived.Test.YtmphpbjmpokjjabNTH
import Derived.Test.YtmphpbjmpokjjabDO
namespace Go.Proofs.Ytmphpbjmpokjjab.lawFnLateFree
open Go.ChangeShapes Go.WideShapes Go.ChangeAt Go.RowKit
set_option linter.unusedVariables false

set_option maxRecDepth 100000 in
set_option maxHeartbeats 2000000 in
theorem walk (v : Value) (l : List Int) (w : World) (hv : BytesIn w v l) (hm : l.length ≤ maxLen) :
    Calls Try.prog 8 #[v] w fun e w' => e = .returned (.bool true) ∧ Below w.heap.size w w' := by
  have Hv := Lib.hid hv
  obtain ⟨av, cv, rfl, hcv, _, _⟩ := hv
  clear hcv
  by_cases hl : l.length ≤ 1048576
  · have hl' : ¬ (1048576 : Int) < (l.length : Int) := by omega
    go_enter Try.func8, Try.ntmps8
    go_wp2_with fail
    refine (drawLateFree_any _ l _ Hv.out hl).mono ?_; rintro e w1 ⟨n, sv, xs, ls, rfl, n2, n6, hx1, hx8, _, hb1⟩
    have HX1 := Lib.hid hx1
    have HB1 := Lib.hid hb1
    have hx : xs.length ≤ 1048576 := by omega
    have H2 := Lib.hid (fun w' (h : RoadsIn w' sv xs) => free2_any n sv xs ls w' h hx)
    have H1 := Lib.hid (fun w' (h : RoadsIn w' sv xs) => free1_any n sv xs ls w' h hx)
    have HE := Lib.hid (fun (st : Int) (u : Value) (ds : List Int) w' (h : RoadsIn w' sv xs) (hu : IntsIn w' u ds) (hd : ds.length ≤ 1048576) => end2_any n sv xs ls st u ds w' h hx hu hd)
    have Hlaw := Lib.hid (fun h => free_law (n := n) (l := xs) (least := ls) h)
    have hneg := free_neg n xs ls
    clear hb1
    generalize freeX n xs ls = S at *
    by_cases hno : S < 0
    · clear hx1 Hlaw HE
      have hq : (S != S) = false := by simp
      go_wp2_with fail
      refine (H2.out _ HX1.out).mono ?_; rintro e w2 ⟨rfl, hb2⟩
      have HX2 := Lib.hid (HX1.out.below hb2)
      have HB2 := Lib.hid (HB1.out.trans (hb2.mono HB1.out.size))
      clear hb2
      go_wp2_with fail
      refine (H1.out _ HX2.out).mono ?_; rintro e w3 ⟨rfl, hb3⟩
      have HB3 := Lib.hid (HB2.out.trans (hb3.mono HB2.out.size))
      clear hb3
      go_wp2
      go_ret
      exact ⟨rfl, HB3.out⟩
    · obtain ⟨m, hm2, hm6, ⟨s0, s1⟩, e0, ee⟩ := Hlaw.out (by omega)
      have E0 := Lib.hid e0
      have EE := Lib.hid ee
      obtain ⟨sa, sc, es, hsa⟩ := hx1
      subst es
      rw [hm2] at *
      have Hm6 := Lib.hid hm6
      have hq : (S != S) = false := by simp
      have g0 : wrap64 (((m + 2 : Nat) : Int) - 1) = ((m + 1 : Nat) : Int) := by unfold wrap64; omega
      have g1 : wrap64 (S + 1) = S + 1 := by unfold wrap64; omega
      have HN := Lib.hid (fun w' => by have h := nothing_any (m + 1) w' (by omega); rw [show ((m + 1 : Nat) : Int) = (m : Int) + 2 - 1 by omega] at h; exact h)
      have Hrl := Lib.hid (show (List.replicate (m + 1) (0 : Int)).length ≤ 1048576 by simp; omega)
      clear hsa e0 ee Hlaw hneg hm2
      go_wp2_with fail
      refine (H2.out _ HX1.out).mono ?_; rintro e w2 ⟨rfl, hb2⟩
      have HX2 := Lib.hid (HX1.out.below hb2)
      have HB2 := Lib.hid (HB1.out.trans (hb2.mono HB1.out.size))
      clear hb2
      go_wp2_with fail
      refine (H1.out _ HX2.out).mono ?_; rintro e w3 ⟨rfl, hb3⟩
      have HX3 := Lib.hid (HX2.out.below hb3)
      have HB3 := Lib.hid (HB2.out.trans (hb3.mono HB2.out.size))
      clear hb3
      go_wp2_with fail
      refine (HN.out _).mono ?_; rintro e w4 ⟨u, rfl, hu4, hb4⟩
      have HX4 := Lib.hid (HX3.out.below hb4)
      have HU4 := Lib.hid hu4
      have HB4 := Lib.hid (HB3.out.trans (hb4.mono HB3.out.size))
      clear hb4 hu4
      go_wp2_with fail
      refine (HE.out _ _ _ _ HX4.out HU4.out Hrl.out).mono ?_; rintro e w5 ⟨rfl, hb5⟩
      have HX5 := Lib.hid (HX4.out.below hb5)
      have HU5 := Lib.hid (HU4.out.below hb5)
      have HB5 := Lib.hid (HB4.out.trans (hb5.mono HB4.out.size))
      clear hb5
      have E1 := E0.out
      rcases EE.out with ⟨q1, q2⟩ | ⟨q1, q2⟩
      · rw [q2]
        subst q1
        go_wp2_with fail
        refine (HE.out _ _ _ _ HX5.out HU5.out Hrl.out).mono ?_; rintro e w6 ⟨rfl, hb6⟩
        have HB6 := Lib.hid (HB5.out.trans (hb6.mono HB5.out.size))
        clear hb6
        rw [E1]
        go_wp2
        go_ret
        exact ⟨rfl, HB6.out⟩
      · rw [q2]
        go_wp2_with fail
        refine (HE.out _ _ _ _ HX5.out HU5.out Hrl.out).mono ?_; rintro e w6 ⟨rfl, hb6⟩
        have HB6 := Lib.hid (HB5.out.trans (hb6.mono HB5.out.size))
        clear hb6
        rw [E1]
        go_wp2
        go_ret
        exact ⟨rfl, HB6.out⟩
  · have hl' : (1048576 : Int) < (l.length : Int) := by omega
    go_enter Try.func8, Try.ntmps8
    go_wp2
    go_ret
    exact ⟨rfl, Below.refl _ _⟩

set_option maxRecDepth 100000 in
theorem lifted (os : Os) (started : os.Started) (H : Type) (enc : TypeId × Value → H) :
    ReturnsInHanded {} Try.checked os 8 .any (Rows.fnLateFreeSpec.pre6 enc Try.prog Try.f8 Rows.fnLateFreeRow.domain false) (Rows.fnLateFreeSpec.post enc Try.prog Try.f8 false true false false) := by
  refine returnsInHanded_of_change (C := Try.checked) own started (by kernel_rfl) Try.func8
    (ChangeSpec.witness6 (enc := enc) (C := Try.checked) false ⟨#[], #[.slice none 0 0], []⟩ 8 (by kernel_rfl) (by kernel_rfl) (by kernel_rfl) (by kernel_rfl)) ?_
  intro W base args ds gs before hval0 hW hcnd _
  have hval : ∀ (j : Nat) t v, Try.f8.params[j]? = some t → args[j]? = some v → Value.okWide Try.prog W .any base t v := hval0
  have hW' := hW
  obtain ⟨p, q, hA0, hV, rfl, hfz, hnd⟩ := hW
  have hA : DataW.TrodAll enc Try.prog W 0 (fun _ => true) true Try.f8.params.toList args.toList ds p := hA0
  rw [Try.params8] at hA hval
  obtain ⟨v0, vs0, d0, ds0, p0, q0, hargs, rfl, rfl, h0, r0⟩ := trodAll_cons hA
  obtain ⟨rfl, rfl, rfl⟩ := trodAll_nil r0
  obtain rfl : args = #[v0] := by cases args; simp_all
  obtain ⟨rfl, rfl⟩ := trodVars_none hV
  obtain ⟨a0, len0, cap0, rfl⟩ := okWide_slice Try.underlying22 (hval 0 22 v0 rfl rfl)
  have k0 := h0
  have lt0 : ∀ x ∈ p0, x.block < W.heap.size := by obtain ⟨m, hm⟩ := k0; exact DataW.trod_lt m _ _ _ hm
  obtain ⟨z0, hv0, hm0⟩ := open_byteS h0 rfl
  clear hA0 hval0
  refine (walk _ z0 W hv0 hm0).mono fun e W' ⟨he, bel⟩ => ?_
  subst he
  exact ⟨_, rfl, _, _, _, [], _, [], hW', trodAll_mk1 (shut_bool Try.underlying4 _), (trodAll_cons_mk (Below.trod laidOut (by kernel_rfl) (of_decide_eq_true (by kernel_rfl)) k0 bel lt0) trodAll_mk0), rfl, bel.frame _, fun h => by cases h⟩

theorem closed : joinedFacts Try.prog 8 Try.f8 Rows.fnLateFreeSpec Rows.fnLateFreeRow = true := by
  delta joinedFacts
  refine and_t (and_t (and_t (and_t (and_t (and_t (and_t ?_ mayE) (liftE rfl)) (makeE rfl)) ?_) ?_) ?_) ?_
  all_goals kernel_rfl
theorem over : Rows.fnLateFreeRow.holds Try.pinned (OpenSpec.ofChange Rows.fnLateFreeSpec) :=
  OpenClaim.holds_of_wide 8 Try.f8 rfl rfl rfl rfl rfl rfl rfl ⟨rfl, rfl, rfl, rfl, rfl⟩ rfl rfl rfl rfl rfl (by kernel_rfl) Try.func8 closed
    (of_decide_eq_true (by kernel_rfl)) (by unfold Func.isWrapper; first | (rw [if_pos (by decide +kernel)]; kernel_rfl) | (rw [if_neg (by decide +kernel)]; exact ⟨rfl, rfl⟩))
    (fun os started H enc _ => lifted os started H enc)

theorem proved : Rows.FnLateFreeSaid := over
#print axioms proved
end Go.Proofs.Ytmphpbjmpokjjab.lawFnLateFree
