/- The law FnLateArrive holds at every input. No condition. -/
import Derived.Test.YtmphpbjmpokjjabOJ
import Derived.Test.YtmphpbjmpokjjabDLC
import Derived.Test.YtmphpbjmpokjjabKC
import Derived.Test.YtmphpbjmpokjjabLTI
import Derived.Test.YtmphpbjmpokjjabSI
import Derived.Test.YtmphpbjmpokjjabDO
namespace Go.Proofs.Ytmphpbjmpokjjab.lawFnLateArrive
open Go.ChangeShapes Go.WideShapes Go.ChangeAt Go.RowKit
set_option linter.unusedVariables false

def LaRel (N : Nat) (w : World) (iv : Value) (wr : World) : Prop := ∃ i : Nat, 1 ≤ i ∧ i ≤ N ∧ iv = .int .i64 i ∧ Below w.heap.size w wr

set_option maxRecDepth 100000 in
set_option maxHeartbeats 4000000 in
theorem walk (v : Value) (l : List Int) (w : World) (hv : BytesIn w v l) (hm : l.length ≤ maxLen) :
    Calls Try.prog 3 #[v] w fun e w' => e = .returned (.bool true) ∧ Below w.heap.size w w' := by
  have Hv := Lib.hid hv
  obtain ⟨av, cv, rfl, hcv, _, _⟩ := hv
  clear hcv
  by_cases hl : l.length ≤ 1048576
  · have hl' : ¬ (1048576 : Int) < (l.length : Int) := by omega
    go_enter Try.func3, Try.ntmps3
    go_wp2_with fail
    refine (drawLateArrive_any _ l _ Hv.out hl).mono ?_; rintro e w1 ⟨n, sv, xs, ls, st, u, ds, rfl, n2, n6, hx1, hx8, hu1, hd8, _, _, hb1⟩
    have HX1 := Lib.hid hx1
    have HU1 := Lib.hid hu1
    have HB1 := Lib.hid hb1
    have hx : xs.length ≤ 1048576 := by omega
    have H2 := Lib.hid (fun w' (h : RoadsIn w' sv xs) (hu : IntsIn w' u ds) => arrive2_any n sv xs ls st u ds w' h hx hu (by omega))
    have H1 := Lib.hid (fun w' (h : RoadsIn w' sv xs) (hu : IntsIn w' u ds) => arrive1_any n sv xs ls st u ds w' h hx hu (by omega))
    have HA := Lib.hid (fun w' (h : RoadsIn w' sv xs) (hu : IntsIn w' u ds) => leave2_any n sv xs ls st u ds w' h hx hu (by omega))
    have HT := Lib.hid (fun w' (h : RoadsIn w' sv xs) => slackL2_any n sv xs ls w' h hx)
    clear hx1 hu1 hb1
    cases hok : okLate n xs ls st ds with
    | false =>
      rw [arrX_no hok, hok] at H2 H1
      clear hok HA HT
      go_wp2_with fail
      refine (H2.out _ HX1.out HU1.out).mono ?_; intro e w2 h2
      obtain ⟨v2, rfl, hi2, hb2⟩ := okIn h2
      have Hx2 := Lib.hid (HX1.out.below hb2)
      have Hu2 := Lib.hid (HU1.out.below hb2)
      have HB2 := Lib.hid (HB1.out.trans (hb2.mono HB1.out.size))
      have HI2 := Lib.hid hi2
      clear hb2 hi2 h2
      go_wp2_with fail
      refine (H1.out _ Hx2.out Hu2.out).mono ?_; intro e w3 h3
      obtain ⟨v3, rfl, hi3, hb3⟩ := okIn h3
      have HB3 := Lib.hid (HB2.out.trans (hb3.mono HB2.out.size))
      have HI3 := Lib.hid (HI2.out.below hb3)
      have HJ3 := Lib.hid hi3
      clear hb3 hi3 h3
      go_wp2_with fail
      refine (sameInts_any _ _ [] [] _ HI3.out HJ3.out (by simp)).mono ?_; rintro e w4 ⟨⟨x, rfl, hx4⟩, hb4⟩
      obtain rfl : x = true := hx4.2 rfl
      have HB4 := Lib.hid (HB3.out.trans (hb4.mono HB3.out.size))
      have HI4 := Lib.hid (HI3.out.below hb4)
      have HJ4 := Lib.hid (HJ3.out.below hb4)
      clear hb4 hx4
      go_wp2_with fail
      refine (sameInts_any _ _ [] [] _ HI4.out HJ4.out (by simp)).mono ?_; rintro e w5 ⟨⟨x, rfl, hx5⟩, hb5⟩
      obtain rfl : x = true := hx5.2 rfl
      have HB5 := Lib.hid (HB4.out.trans (hb5.mono HB4.out.size))
      clear hb5 hx5
      go_wp2
      go_ret
      exact ⟨rfl, HB5.out⟩
    | true =>
      obtain ⟨m, hm2, hm6, hdm, hla, hlo, hlk, ⟨l0, l1⟩, ⟨s0, s1⟩⟩ := late_dims hok
      obtain ⟨N, hN⟩ : ∃ N, N = m + 2 := ⟨_, rfl⟩
      rw [← hN] at hm2 hla hlo hlk
      have hN8 : N ≤ 8 := by omega
      have hN0 : 2 ≤ N := by omega
      obtain ⟨z1, z2⟩ := late_zero hok
      have Hst := Lib.hid (fun i (hi : i + 1 < N) => late_next hok i (by omega))
      have Hat := Lib.hid (fun i (hi : i < N) => late_at hok i (by omega))
      rw [hok] at H2 H1 HA
      rw [slk_ok hok] at HT
      generalize arrX n xs ls st ds = rs at *
      generalize leaX n xs ls st ds = ys at *
      generalize slkX n xs ls = zs at *
      have Hla := Lib.hid hla
      have Hlo := Lib.hid hlo
      have Hlk := Lib.hid hlk
      have Hdl := Lib.hid (show ds.length + 1 = N by omega)
      have Hm2 := Lib.hid hm2
      have HN8 := Lib.hid hN8
      have Hz := Lib.hid (And.intro z1 z2)
      obtain ⟨sa, sc, es, hsa⟩ := HX1.out
      subst es
      clear hsa
      rw [hm2] at HX1 H2 H1 HA HT ⊢
      clear hok hla hlo hm2 hlk hdm hN hm6 z1 z2
      go_wp2_with fail
      refine (H2.out _ HX1.out HU1.out).mono ?_; intro e w2 h2
      obtain ⟨v2, rfl, hi2, hb2⟩ := okIn h2
      have Hx2 := Lib.hid (HX1.out.below hb2)
      have Hu2 := Lib.hid (HU1.out.below hb2)
      have HB2 := Lib.hid (HB1.out.trans (hb2.mono HB1.out.size))
      have HI2 := Lib.hid hi2
      clear hb2 hi2 h2
      go_wp2_with fail
      refine (H1.out _ Hx2.out Hu2.out).mono ?_; intro e w3 h3
      obtain ⟨v3, rfl, hi3, hb3⟩ := okIn h3
      have Hx3 := Lib.hid (Hx2.out.below hb3)
      have Hu3 := Lib.hid (Hu2.out.below hb3)
      have HB3 := Lib.hid (HB2.out.trans (hb3.mono HB2.out.size))
      have HI3 := Lib.hid (HI2.out.below hb3)
      have HJ3 := Lib.hid hi3
      clear hb3 hi3 h3 H1 H2 HX1 HU1 Hx2 Hu2 HI2 HB1 HB2
      go_wp2_with fail
      refine (sameInts_any _ _ rs rs _ HI3.out HJ3.out (by rw [Hla.out]; have := HN8.out; omega)).mono ?_; rintro e w4 ⟨⟨x, rfl, hx4⟩, hb4⟩
      obtain rfl : x = true := hx4.2 rfl
      have Hx4 := Lib.hid (Hx3.out.below hb4)
      have Hu4 := Lib.hid (Hu3.out.below hb4)
      have HB4 := Lib.hid (HB3.out.trans (hb4.mono HB3.out.size))
      have HI4 := Lib.hid (HI3.out.below hb4)
      clear hb4 hx4 Hx3 Hu3 HB3 HI3 HJ3
      go_wp2_with fail
      refine (HA.out _ Hx4.out Hu4.out).mono ?_; intro e w5 h5
      obtain ⟨v5, rfl, hi5, hb5⟩ := okIn h5
      have Hx5 := Lib.hid (Hx4.out.below hb5)
      have Hu5 := Lib.hid (Hu4.out.below hb5)
      have HB5 := Lib.hid (HB4.out.trans (hb5.mono HB4.out.size))
      have HI5 := Lib.hid (HI4.out.below hb5)
      have HA5 := Lib.hid hi5
      clear hb5 hi5 h5 HA Hx4 Hu4 HB4 HI4
      go_wp2_with fail
      refine (HT.out _ Hx5.out).mono ?_; intro e w6 h6
      obtain ⟨v6, rfl, hi6, hb6⟩ := okIn h6
      have HB6 := Lib.hid (HB5.out.trans (hb6.mono HB5.out.size))
      have hI6 := HI5.out.below hb6
      have hA6 := HA5.out.below hb6
      have hU6 := Hu5.out.below hb6
      clear hb6 h6 HT Hx5 Hu5 HB5 HI5 HA5
      obtain ⟨ua, uc, eu, huc, hua⟩ := hI6
      subst eu
      rw [Hla.out] at huc ⊢
      obtain ⟨b2, o2, rfl, hbt2, hat2⟩ := hua (by intro h; have := Hla.out; rw [h] at this; simp at this; omega)
      obtain ⟨xa, xc, ex, hxc, hxa⟩ := hA6
      subst ex
      rw [Hlo.out] at hxc ⊢
      obtain ⟨b3, o3, rfl, hbt3, hat3⟩ := hxa (by intro h; have := Hlo.out; rw [h] at this; simp at this; omega)
      obtain ⟨ka, kc, ek, hkc, hka⟩ := hi6
      subst ek
      rw [Hlk.out] at hkc ⊢
      obtain ⟨b4, o4, rfl, hbt4, hat4⟩ := hka (by intro h; have := Hlk.out; rw [h] at this; simp at this; omega)
      obtain ⟨da, dc, ed, hdc, hda⟩ := hU6
      subst ed
      obtain ⟨b5, o5, rfl, hbt5, hat5⟩ := hda (by intro h; have := Hdl.out; rw [h] at this; simp at this; omega)
      obtain ⟨M, hM⟩ : ∃ M, ds.length = M := ⟨_, rfl⟩
      rw [hM] at hdc ⊢
      have hMN : M + 1 = N := by have := Hdl.out; omega
      have HMl := Lib.hid hM
      have HD := Lib.hid (fun w' (h : Below w6.heap.size w6 w') => hat2.below h hbt2)
      have HE := Lib.hid (fun w' (h : Below w6.heap.size w6 w') => hat3.below h hbt3)
      have HF := Lib.hid (fun w' (h : Below w6.heap.size w6 w') => hat4.below h hbt4)
      have HG := Lib.hid (fun w' (h : Below w6.heap.size w6 w') => hat5.below h hbt5)
      clear hua hat2 hxa hat3 hka hat4 hda hat5 hM
      have hmm : ((N : Int) != (N : Int)) = false := by simp
      go_wp2_with fail
      go_loopw [16] (fun iv wr => LaRel N w6 iv wr) (fun iv _ => 9 - (intOf iv).toNat)
      case atStart => exact ⟨1, Nat.le_refl _, by omega, rfl, Below.refl _ _⟩
      case round =>
        obtain ⟨i, hi1, hi, rfl, hb⟩ := hrel
        have HB := Lib.hid hb
        obtain ⟨k, rfl⟩ : ∃ k, i = k + 1 := ⟨i - 1, by omega⟩
        by_cases hlt : k + 1 < N
        · obtain ⟨e0, e1, ⟨e2, e3⟩, e4, e5⟩ := Hst.out k hlt
          obtain ⟨f0, f1, f2⟩ := Hat.out k (by omega)
          have d0 := HD.out _ hb (k + 1) (by rw [Hla.out]; omega)
          have d1 := HE.out _ hb (k + 1) (by rw [Hlo.out]; omega)
          have d2 := HF.out _ hb (k + 1) (by rw [Hlk.out]; omega)
          have d3 := HE.out _ hb k (by rw [Hlo.out]; omega)
          have d4 := HG.out _ hb k (by rw [HMl.out]; omega)
          have hi' : (k : Int) + 1 < (N : Int) := by omega
          have hi2 : (k : Int) < (N : Int) := by omega
          have hi3 : (k : Int) < (M : Int) := by omega
          have hi0 : (0 : Int) ≤ (k : Int) := Int.natCast_nonneg _
          clear hb hi
          generalize rs.getD (k + 1) 0 = a at *
          generalize ys.getD (k + 1) 0 = y at *
          generalize zs.getD (k + 1) 0 = s at *
          generalize rs.getD k 0 = a0 at *
          generalize ys.getD k 0 = y0 at *
          generalize ds.getD k 0 = d at *
          have c1 : IntKind.i64.wrap (k : Int) = (k : Int) := IntWalk.i64_in _ (by omega)
          have c2 : IntKind.i64.wrap ((k : Int) + 1 - 1) = (k : Int) := by rw [IntWalk.i64_in _ (by omega)]; omega
          have c3 : IntKind.i64.wrap (y0 + d) = a := by rw [IntWalk.i64_in _ (by omega)]; omega
          obtain ⟨D, hD⟩ : ∃ D, D = a - s := ⟨_, rfl⟩
          have c4 : IntKind.i64.wrap (a - s) = D := by rw [IntWalk.i64_in _ (by omega)]; omega
          have c5 : (a != a) = false := by simp
          rw [← hD] at e1
          have Hey := Lib.hid e1
          clear hD e0 e1 e2 e3 e4 e5 f0 f1 f2
          rcases Int.lt_trichotomy D 0 with q | q | q
          · obtain rfl : y = 0 := by have := Hey.out; omega
            clear Hey
            have q1 : decide (0 < D) = false := decide_eq_false (by omega)
            go_wp2
            go_quiet (fail)
            all_goals
              go_wp2
              refine ⟨⟨k + 2, by omega, by omega, by go_num, HB.out.drewN _⟩, ?_⟩
              show 9 - ((k : Int) + 1 + 1).toNat < 9 - ((k : Int) + 1).toNat
              omega
          · subst q
            obtain rfl : y = 0 := by have := Hey.out; omega
            clear Hey
            go_wp2
            go_quiet (fail)
            all_goals
              go_wp2
              refine ⟨⟨k + 2, by omega, by omega, by go_num, HB.out.drewN _⟩, ?_⟩
              show 9 - ((k : Int) + 1 + 1).toNat < 9 - ((k : Int) + 1).toNat
              omega
          · obtain rfl : y = D := by have := Hey.out; omega
            clear Hey
            have q1 : decide (0 < y) = true := decide_eq_true q
            have q2 : (y != y) = false := by simp
            go_wp2
            go_quiet (fail)
            all_goals
              go_wp2
              refine ⟨⟨k + 2, by omega, by omega, by go_num, HB.out.drewN _⟩, ?_⟩
              show 9 - ((k : Int) + 1 + 1).toNat < 9 - ((k : Int) + 1).toNat
              omega
        · have hkN : k + 1 = N := by omega
          have d0 := HD.out _ hb 0 (by rw [Hla.out]; omega)
          have d1 := HE.out _ hb 0 (by rw [Hlo.out]; omega)
          rw [Hz.out.1, Nat.add_zero] at d0
          rw [Hz.out.2, Nat.add_zero] at d1
          have hk1 : ((k + 1 : Nat) : Int) = (N : Int) := by omega
          have hk2 : (k : Int) + 1 = (N : Int) := by omega
          have hn0 : (0 : Int) < (N : Int) := by omega
          have c1 : ((N : Int) == (N : Int)) = true := by simp
          have c2 : (st == st) = true := by simp
          clear hb
          rw [hk1]
          clear hk1 hk2 hkN hi hi1 hlt
          go_wp2
          go_ret
          exact ⟨rfl, HB6.out.trans (HB.out.mono HB6.out.size)⟩
  · have hl' : (1048576 : Int) < (l.length : Int) := by omega
    go_enter Try.func3, Try.ntmps3
    go_wp2
    go_ret
    exact ⟨rfl, Below.refl _ _⟩

set_option maxRecDepth 100000 in
theorem lifted (os : Os) (started : os.Started) (H : Type) (enc : TypeId × Value → H) :
    ReturnsInHanded {} Try.checked os 3 .any (Rows.fnLateArriveSpec.pre6 enc Try.prog Try.f3 Rows.fnLateArriveRow.domain false) (Rows.fnLateArriveSpec.post enc Try.prog Try.f3 false true false false) := by
  refine returnsInHanded_of_change (C := Try.checked) own started (by kernel_rfl) Try.func3
    (ChangeSpec.witness6 (enc := enc) (C := Try.checked) false ⟨#[], #[.slice none 0 0], []⟩ 8 (by kernel_rfl) (by kernel_rfl) (by kernel_rfl) (by kernel_rfl)) ?_
  intro W base args ds gs before hval0 hW hcnd _
  have hval : ∀ (j : Nat) t v, Try.f3.params[j]? = some t → args[j]? = some v → Value.okWide Try.prog W .any base t v := hval0
  have hW' := hW
  obtain ⟨p, q, hA0, hV, rfl, hfz, hnd⟩ := hW
  have hA : DataW.TrodAll enc Try.prog W 0 (fun _ => true) true Try.f3.params.toList args.toList ds p := hA0
  rw [Try.params3] at hA hval
  obtain ⟨v0, vs0, d0, ds0, p0, q0, hargs, rfl, rfl, h0, r0⟩ := trodAll_cons hA
  obtain ⟨rfl, rfl, rfl⟩ := trodAll_nil r0
  obtain rfl : args = #[v0] := by cases args; simp_all
  obtain ⟨rfl, rfl⟩ := trodVars_none hV
  obtain ⟨a0, len0, cap0, rfl⟩ := okWide_slice Try.underlying22 (hval 0 22 v0 rfl rfl)
  have k0 := h0
  have lt0 : ∀ x ∈ p0, x.block < W.heap.size := by obtain ⟨m, hm⟩ := k0; exact DataW.trod_lt m _ _ _ hm
  obtain ⟨z0, hv0, hm0⟩ := open_byteS h0 rfl
  clear hA0 hval0
  refine (walk _ z0 W hv0 hm0).mono fun e W' ⟨he, bel⟩ => ?_
  subst he
  exact ⟨_, rfl, _, _, _, [], _, [], hW', trodAll_mk1 (shut_bool Try.underlying4 _), (trodAll_cons_mk (Below.trod laidOut (by kernel_rfl) (of_decide_eq_true (by kernel_rfl)) k0 bel lt0) trodAll_mk0), rfl, bel.frame _, fun h => by cases h⟩

theorem closed : joinedFacts Try.prog 3 Try.f3 Rows.fnLateArriveSpec Rows.fnLateArriveRow = true := by
  delta joinedFacts
  refine and_t (and_t (and_t (and_t (and_t (and_t (and_t ?_ mayE) (liftE rfl)) (makeE rfl)) ?_) ?_) ?_) ?_
  all_goals kernel_rfl
theorem over : Rows.fnLateArriveRow.holds Try.pinned (OpenSpec.ofChange Rows.fnLateArriveSpec) :=
  OpenClaim.holds_of_wide 3 Try.f3 rfl rfl rfl rfl rfl rfl rfl ⟨rfl, rfl, rfl, rfl, rfl⟩ rfl rfl rfl rfl rfl (by kernel_rfl) Try.func3 closed
    (of_decide_eq_true (by kernel_rfl)) (by unfold Func.isWrapper; first | (rw [if_pos (by decide +kernel)]; kernel_rfl) | (rw [if_neg (by decide +kernel)]; exact ⟨rfl, rfl⟩))
    (fun os started H enc _ => lifted os started H enc)

theorem proved : Rows.FnLateArriveSaid := over
#print axioms proved
end Go.Proofs.Ytmphpbjmpokjjab.lawFnLateArrive
