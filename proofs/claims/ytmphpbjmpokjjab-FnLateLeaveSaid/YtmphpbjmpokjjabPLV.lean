/- The law FnLateLeave holds at every input. No condition. -/
import Derived.Test.YtmphpbjmpokjjabOJ
import Derived.Test.YtmphpbjmpokjjabDLC
import Derived.Test.YtmphpbjmpokjjabKC
import Derived.Test.YtmphpbjmpokjjabLTI
import Derived.Test.YtmphpbjmpokjjabSI
import Derived.Test.YtmphpbjmpokjjabDO
namespace Go.Proofs.Ytmphpbjmpokjjab.lawFnLateLeave
open Go.ChangeShapes Go.WideShapes Go.ChangeAt Go.RowKit
set_option linter.unusedVariables false

def LvRel (N : Nat) (w : World) (iv : Value) (wr : World) : Prop := ∃ i : Nat, i ≤ N ∧ iv = .int .i64 i ∧ Below w.heap.size w wr

set_option maxRecDepth 100000 in
set_option maxHeartbeats 4000000 in
theorem walk (v : Value) (l : List Int) (w : World) (hv : BytesIn w v l) (hm : l.length ≤ maxLen) :
    Calls Try.prog 4 #[v] w fun e w' => e = .returned (.bool true) ∧ Below w.heap.size w w' := by
  have Hv := Lib.hid hv
  obtain ⟨av, cv, rfl, hcv, _, _⟩ := hv
  clear hcv
  by_cases hl : l.length ≤ 1048576
  · have hl' : ¬ (1048576 : Int) < (l.length : Int) := by omega
    go_enter Try.func4, Try.ntmps4
    go_wp2_with fail
    refine (drawLateLeave_any _ l _ Hv.out hl).mono ?_; rintro e w1 ⟨n, sv, xs, ls, st, u, ds, rfl, n2, n6, hx1, hx8, hu1, hd8, _, _, hb1⟩
    have HX1 := Lib.hid hx1
    have HU1 := Lib.hid hu1
    have HB1 := Lib.hid hb1
    have hx : xs.length ≤ 1048576 := by omega
    have H2 := Lib.hid (fun w' (h : RoadsIn w' sv xs) (hu : IntsIn w' u ds) => leave2_any n sv xs ls st u ds w' h hx hu (by omega))
    have H1 := Lib.hid (fun w' (h : RoadsIn w' sv xs) (hu : IntsIn w' u ds) => leave1_any n sv xs ls st u ds w' h hx hu (by omega))
    have HA := Lib.hid (fun w' (h : RoadsIn w' sv xs) (hu : IntsIn w' u ds) => arrive2_any n sv xs ls st u ds w' h hx hu (by omega))
    have HT := Lib.hid (fun w' (h : RoadsIn w' sv xs) (hu : IntsIn w' u ds) => leave2_any n sv xs (ls + 1) st u ds w' h hx hu (by omega))
    clear hx1 hu1 hb1
    cases hok : okLate n xs ls st ds with
    | false =>
      rw [leaX_no hok, hok] at H2 H1
      clear hok HA HT
      go_wp2_with fail
      refine (H2.out _ HX1.out HU1.out).mono ?_; intro e w2 h2
      obtain ⟨v2, rfl, hi2, hb2⟩ := okIn h2
      have Hx2 := Lib.hid (HX1.out.below hb2)
      have Hu2 := Lib.hid (HU1.out.below hb2)
      have HB2 := Lib.hid (HB1.out.trans (hb2.mono HB1.out.size))
      have HI2 := Lib.hid hi2
      clear hb2 hi2 h2
      go_wp2_with fail
      refine (H1.out _ Hx2.out Hu2.out).mono ?_; intro e w3 h3
      obtain ⟨v3, rfl, hi3, hb3⟩ := okIn h3
      have HB3 := Lib.hid (HB2.out.trans (hb3.mono HB2.out.size))
      have HI3 := Lib.hid (HI2.out.below hb3)
      have HJ3 := Lib.hid hi3
      clear hb3 hi3 h3
      go_wp2_with fail
      refine (sameInts_any _ _ [] [] _ HI3.out HJ3.out (by simp)).mono ?_; rintro e w4 ⟨⟨x, rfl, hx4⟩, hb4⟩
      obtain rfl : x = true := hx4.2 rfl
      have HB4 := Lib.hid (HB3.out.trans (hb4.mono HB3.out.size))
      have HI4 := Lib.hid (HI3.out.below hb4)
      have HJ4 := Lib.hid (HJ3.out.below hb4)
      clear hb4 hx4
      go_wp2_with fail
      refine (sameInts_any _ _ [] [] _ HI4.out HJ4.out (by simp)).mono ?_; rintro e w5 ⟨⟨x, rfl, hx5⟩, hb5⟩
      obtain rfl : x = true := hx5.2 rfl
      have HB5 := Lib.hid (HB4.out.trans (hb5.mono HB4.out.size))
      clear hb5 hx5
      go_wp2
      go_ret
      exact ⟨rfl, HB5.out⟩
    | true =>
      obtain ⟨m, hm2, hm6, hdm, hla, hlo, hlk, ⟨l0, l1⟩, _⟩ := late_dims hok
      obtain ⟨N, hN⟩ : ∃ N, N = m + 2 := ⟨_, rfl⟩
      rw [← hN] at hm2 hla hlo hlk
      have hN8 : N ≤ 8 := by omega
      have hN0 : 0 < N := by omega
      have Hat := Lib.hid (fun i (hi : i < N) => late_at hok i (by omega))
      have hlea := late_least hok
      rw [hok] at H2 H1 HA
      generalize arrX n xs ls st ds = rs at *
      generalize leaX n xs ls st ds = ys at *
      generalize leaX n xs (ls + 1) st ds = zs at *
      generalize okLate n xs (ls + 1) st ds = q at *
      have g1 : wrap64 (ls + 1) = ls + 1 := by unfold wrap64; omega
      have Hla := Lib.hid hla
      have Hlo := Lib.hid hlo
      have Hm2 := Lib.hid hm2
      have HN8 := Lib.hid hN8
      have Hlea := Lib.hid hlea
      clear hok hlea hla hlo hm2 hlk hdm hN hm6
      go_wp2_with fail
      refine (H2.out _ HX1.out HU1.out).mono ?_; intro e w2 h2
      obtain ⟨v2, rfl, hi2, hb2⟩ := okIn h2
      have Hx2 := Lib.hid (HX1.out.below hb2)
      have Hu2 := Lib.hid (HU1.out.below hb2)
      have HB2 := Lib.hid (HB1.out.trans (hb2.mono HB1.out.size))
      have HI2 := Lib.hid hi2
      clear hb2 hi2 h2
      go_wp2_with fail
      refine (H1.out _ Hx2.out Hu2.out).mono ?_; intro e w3 h3
      obtain ⟨v3, rfl, hi3, hb3⟩ := okIn h3
      have Hx3 := Lib.hid (Hx2.out.below hb3)
      have Hu3 := Lib.hid (Hu2.out.below hb3)
      have HB3 := Lib.hid (HB2.out.trans (hb3.mono HB2.out.size))
      have HI3 := Lib.hid (HI2.out.below hb3)
      have HJ3 := Lib.hid hi3
      clear hb3 hi3 h3 H1 H2 HX1 HU1 Hx2 Hu2 HI2 HB1 HB2
      go_wp2_with fail
      refine (sameInts_any _ _ ys ys _ HI3.out HJ3.out (by rw [Hlo.out]; have := HN8.out; omega)).mono ?_; rintro e w4 ⟨⟨x, rfl, hx4⟩, hb4⟩
      obtain rfl : x = true := hx4.2 rfl
      have Hx4 := Lib.hid (Hx3.out.below hb4)
      have Hu4 := Lib.hid (Hu3.out.below hb4)
      have HB4 := Lib.hid (HB3.out.trans (hb4.mono HB3.out.size))
      have HI4 := Lib.hid (HI3.out.below hb4)
      clear hb4 hx4 Hx3 Hu3 HB3 HI3 HJ3
      go_wp2_with fail
      refine (HA.out _ Hx4.out Hu4.out).mono ?_; intro e w5 h5
      obtain ⟨v5, rfl, hi5, hb5⟩ := okIn h5
      have Hx5 := Lib.hid (Hx4.out.below hb5)
      have Hu5 := Lib.hid (Hu4.out.below hb5)
      have HB5 := Lib.hid (HB4.out.trans (hb5.mono HB4.out.size))
      have HI5 := Lib.hid (HI4.out.below hb5)
      have HA5 := Lib.hid hi5
      clear hb5 hi5 h5 HA Hx4 Hu4 HB4 HI4
      go_wp2_with fail
      refine (HT.out _ Hx5.out Hu5.out).mono ?_; intro e w6 h6
      obtain ⟨v6, rfl, hi6, hb6⟩ := okIn h6
      have HB6 := Lib.hid (HB5.out.trans (hb6.mono HB5.out.size))
      have hI6 := HI5.out.below hb6
      have hA6 := HA5.out.below hb6
      clear hb6 h6 HT Hx5 Hu5 HB5 HI5 HA5
      obtain ⟨ua, uc, eu, huc, hua⟩ := hI6
      subst eu
      rw [Hlo.out] at huc ⊢
      obtain ⟨b2, o2, rfl, hbt2, hat2⟩ := hua (by intro h; have := Hlo.out; rw [h] at this; simp at this; omega)
      obtain ⟨xa, xc, ex, hxc, hxa⟩ := hA6
      subst ex
      rw [Hla.out] at hxc ⊢
      obtain ⟨b3, o3, rfl, hbt3, hat3⟩ := hxa (by intro h; have := Hla.out; rw [h] at this; simp at this; omega)
      have HD := Lib.hid (fun w' (h : Below w6.heap.size w6 w') => hat2.below h hbt2)
      have HE := Lib.hid (fun w' (h : Below w6.heap.size w6 w') => hat3.below h hbt3)
      clear hua hat2 hxa hat3
      have hmm : ((N : Int) != (N : Int)) = false := by simp
      rcases Hlea.out with ⟨q1, q2, q3⟩ | ⟨q1, q2, q3, q4⟩
      · subst q2
        subst q3
        clear hi6
        go_wp2_with fail
        go_loopw [16] (fun iv wr => LvRel N w6 iv wr) (fun iv _ => 9 - (intOf iv).toNat)
        case atStart => exact ⟨0, Nat.zero_le _, rfl, Below.refl _ _⟩
        case round =>
          obtain ⟨i, hi, rfl, hb⟩ := hrel
          have HB := Lib.hid hb
          by_cases hlt : i < N
          · obtain ⟨e0, e1, e2⟩ := Hat.out i hlt
            have d0 := HD.out _ hb i (by rw [Hlo.out]; omega)
            have d1 := HE.out _ hb i (by rw [Hla.out]; omega)
            have hi' : (i : Int) < (N : Int) := by omega
            have hi0 : (0 : Int) ≤ (i : Int) := Int.natCast_nonneg _
            clear hb hi
            generalize ys.getD i 0 = y at *
            generalize rs.getD i 0 = a at *
            have n1 : decide (y < 0) = false := decide_eq_false (by omega)
            have n2 : decide (a < y) = false := decide_eq_false (by omega)
            clear e0 e1 e2
            go_wp2
            go_quiet (fail)
            all_goals
              go_wp2
              refine ⟨⟨i + 1, hlt, by go_num, HB.out.drewN _⟩, ?_⟩
              show 9 - ((i : Int) + 1).toNat < 9 - ((i : Int)).toNat
              omega
          · obtain rfl : i = N := by omega
            clear hb
            go_wp2
            go_ret
            exact ⟨rfl, HB6.out.trans (HB.out.mono HB6.out.size)⟩
      · subst q2
        rw [Hm2.out] at q3 q4
        obtain ⟨za, zc, ez, hzc, hza⟩ := hi6
        subst ez
        rw [q3] at hzc ⊢
        obtain ⟨b4, o4, rfl, hbt4, hat4⟩ := hza (by intro h; rw [h] at q3; simp at q3; omega)
        have HF := Lib.hid (fun w' (h : Below w6.heap.size w6 w') => hat4.below h hbt4)
        have Hq3 := Lib.hid q3
        have Hq4 := Lib.hid q4
        clear hza hat4 q3 q4
        go_wp2_with fail
        go_loopw [16] (fun iv wr => LvRel N w6 iv wr) (fun iv _ => 9 - (intOf iv).toNat)
        case atStart => exact ⟨0, Nat.zero_le _, rfl, Below.refl _ _⟩
        case round =>
          obtain ⟨i, hi, rfl, hb⟩ := hrel
          have HB := Lib.hid hb
          by_cases hlt : i < N
          · obtain ⟨e0, e1, e2⟩ := Hat.out i hlt
            have d0 := HD.out _ hb i (by rw [Hlo.out]; omega)
            have d1 := HE.out _ hb i (by rw [Hla.out]; omega)
            have f0 := HF.out _ hb i (by rw [Hq3.out]; omega)
            have e3 := Hq4.out i hlt
            have hi' : (i : Int) < (N : Int) := by omega
            have hi0 : (0 : Int) ≤ (i : Int) := Int.natCast_nonneg _
            clear hb hi
            generalize ys.getD i 0 = y at *
            generalize rs.getD i 0 = a at *
            generalize zs.getD i 0 = z at *
            have n1 : decide (y < 0) = false := decide_eq_false (by omega)
            have n2 : decide (a < y) = false := decide_eq_false (by omega)
            have n3 : decide (z < y) = false := decide_eq_false (by omega)
            clear e0 e1 e2 e3
            go_wp2
            go_quiet (fail)
            all_goals
              go_wp2
              refine ⟨⟨i + 1, hlt, by go_num, HB.out.drewN _⟩, ?_⟩
              show 9 - ((i : Int) + 1).toNat < 9 - ((i : Int)).toNat
              omega
          · obtain rfl : i = N := by omega
            clear hb
            go_wp2
            go_ret
            exact ⟨rfl, HB6.out.trans (HB.out.mono HB6.out.size)⟩
  · have hl' : (1048576 : Int) < (l.length : Int) := by omega
    go_enter Try.func4, Try.ntmps4
    go_wp2
    go_ret
    exact ⟨rfl, Below.refl _ _⟩

set_option maxRecDepth 100000 in
theorem lifted (os : Os) (started : os.Started) (H : Type) (enc : TypeId × Value → H) :
    ReturnsInHanded {} Try.checked os 4 .any (Rows.fnLateLeaveSpec.pre6 enc Try.prog Try.f4 Rows.fnLateLeaveRow.domain false) (Rows.fnLateLeaveSpec.post enc Try.prog Try.f4 false true false false) := by
  refine returnsInHanded_of_change (C := Try.checked) own started (by kernel_rfl) Try.func4
    (ChangeSpec.witness6 (enc := enc) (C := Try.checked) false ⟨#[], #[.slice none 0 0], []⟩ 8 (by kernel_rfl) (by kernel_rfl) (by kernel_rfl) (by kernel_rfl)) ?_
  intro W base args ds gs before hval0 hW hcnd _
  have hval : ∀ (j : Nat) t v, Try.f4.params[j]? = some t → args[j]? = some v → Value.okWide Try.prog W .any base t v := hval0
  have hW' := hW
  obtain ⟨p, q, hA0, hV, rfl, hfz, hnd⟩ := hW
  have hA : DataW.TrodAll enc Try.prog W 0 (fun _ => true) true Try.f4.params.toList args.toList ds p := hA0
  rw [Try.params4] at hA hval
  obtain ⟨v0, vs0, d0, ds0, p0, q0, hargs, rfl, rfl, h0, r0⟩ := trodAll_cons hA
  obtain ⟨rfl, rfl, rfl⟩ := trodAll_nil r0
  obtain rfl : args = #[v0] := by cases args; simp_all
  obtain ⟨rfl, rfl⟩ := trodVars_none hV
  obtain ⟨a0, len0, cap0, rfl⟩ := okWide_slice Try.underlying22 (hval 0 22 v0 rfl rfl)
  have k0 := h0
  have lt0 : ∀ x ∈ p0, x.block < W.heap.size := by obtain ⟨m, hm⟩ := k0; exact DataW.trod_lt m _ _ _ hm
  obtain ⟨z0, hv0, hm0⟩ := open_byteS h0 rfl
  clear hA0 hval0
  refine (walk _ z0 W hv0 hm0).mono fun e W' ⟨he, bel⟩ => ?_
  subst he
  exact ⟨_, rfl, _, _, _, [], _, [], hW', trodAll_mk1 (shut_bool Try.underlying4 _), (trodAll_cons_mk (Below.trod laidOut (by kernel_rfl) (of_decide_eq_true (by kernel_rfl)) k0 bel lt0) trodAll_mk0), rfl, bel.frame _, fun h => by cases h⟩

theorem closed : joinedFacts Try.prog 4 Try.f4 Rows.fnLateLeaveSpec Rows.fnLateLeaveRow = true := by
  delta joinedFacts
  refine and_t (and_t (and_t (and_t (and_t (and_t (and_t ?_ mayE) (liftE rfl)) (makeE rfl)) ?_) ?_) ?_) ?_
  all_goals kernel_rfl
theorem over : Rows.fnLateLeaveRow.holds Try.pinned (OpenSpec.ofChange Rows.fnLateLeaveSpec) :=
  OpenClaim.holds_of_wide 4 Try.f4 rfl rfl rfl rfl rfl rfl rfl ⟨rfl, rfl, rfl, rfl, rfl⟩ rfl rfl rfl rfl rfl (by kernel_rfl) Try.func4 closed
    (of_decide_eq_true (by kernel_rfl)) (by unfold Func.isWrapper; first | (rw [if_pos (by decide +kernel)]; kernel_rfl) | (rw [if_neg (by decide +kernel)]; exact ⟨rfl, rfl⟩))
    (fun os started H enc _ => lifted os started H enc)

theorem proved : Rows.FnLateLeaveSaid := over
#print axioms proved
end Go.Proofs.Ytmphpbjmpokjjab.lawFnLateLeave
