/- The law FnLateSum holds at every input. No condition. -/
import Derived.Test.YtmphpbjmpokjjaaOJ
import Derived.Test.YtmphpbjmpokjjaaDLC
import Derived.Test.YtmphpbjmpokjjaaKC
import Derived.Test.YtmphpbjmpokjjaaLTF
import Derived.Test.YtmphpbjmpokjjaaSUO
import Derived.Test.YtmphpbjmpokjjaaICL
import Derived.Test.YtmphpbjmpokjjaaDO
namespace Go.Proofs.Ytmphpbjmpokjjaa.lawFnLateSum
open Go.ChangeShapes Go.WideShapes Go.ChangeAt Go.RowKit
set_option linter.unusedVariables false

set_option maxRecDepth 100000 in
set_option maxHeartbeats 2000000 in
theorem walk (v : Value) (l : List Int) (v' : Value) (l' : List Int) (w : World) (hv : BytesIn w v l) (hm : l.length ≤ maxLen) (hv' : BytesIn w v' l') (hm' : l'.length ≤ maxLen) :
    Calls Try.prog 14 #[v, v'] w fun e w' => e = .returned (.bool true) ∧ Below w.heap.size w w' := by
  obtain ⟨i0, hi, hz0, hz1, hz2⟩ := info_parts Try.info3
  have Hv := Lib.hid hv
  obtain ⟨av, cv, rfl, hcv, _, _⟩ := hv
  obtain ⟨av', cv', rfl, hcv', _, _⟩ := hv'
  clear hcv hcv'
  by_cases hl : l.length ≤ 1048576
  · have hl' : ¬ (1048576 : Int) < (l.length : Int) := by omega
    by_cases hk : l'.length ≤ 1048576
    · have hk' : ¬ (1048576 : Int) < (l'.length : Int) := by omega
      go_enter Try.func14, Try.ntmps14
      go_wp2_with fail
      refine (drawLateSum_any _ l _ Hv.out hl).mono ?_; rintro e w1 ⟨n, sv, xs, ls, st, u, ds, rfl, n2, n6, hx1, hx8, hu1, hd8, _, _, hb1⟩
      have HX1 := Lib.hid hx1
      have HU1 := Lib.hid hu1
      have HB1 := Lib.hid hb1
      have hx : xs.length ≤ 1048576 := by omega
      have H2 := Lib.hid (fun w' (u2 : Value) (ys : List Int) (h : RoadsIn w' sv xs) (hu : IntsIn w' u2 ys) (hy : ys.length ≤ 1048576) => sumL2_any n sv xs ls st u2 ys w' h hx hu hy)
      have H1 := Lib.hid (fun w' (h : RoadsIn w' sv xs) (hu : IntsIn w' u ds) => sumL1_any n sv xs ls st u ds w' h hx hu (by omega))
      have HA := Lib.hid (fun w' (h : RoadsIn w' sv xs) (hu : IntsIn w' u ds) => arrive2_any n sv xs ls st u ds w' h hx hu (by omega))
      clear hx1 hu1 hb1
      cases hok : okLate n xs ls st ds with
      | false =>
        have hno := sumLate_no hok
        have H2' := Lib.hid (fun w' (h : RoadsIn w' sv xs) (hu : IntsIn w' u ds) => H2.out w' u ds h hu (by omega))
        rw [hno] at H2' H1
        clear hok hno HA H2
        go_wp2_with fail
        refine (H2'.out _ HX1.out HU1.out).mono ?_; rintro e w2 ⟨rfl, hb2⟩
        have HX2 := Lib.hid (HX1.out.below hb2)
        have HU2 := Lib.hid (HU1.out.below hb2)
        have HB2 := Lib.hid (HB1.out.trans (hb2.mono HB1.out.size))
        clear hb2
        go_wp2_with fail
        refine (H1.out _ HX2.out HU2.out).mono ?_; rintro e w3 ⟨rfl, hb3⟩
        have HB3 := Lib.hid (HB2.out.trans (hb3.mono HB2.out.size))
        clear hb3
        go_wp2
        go_ret
        exact ⟨rfl, HB3.out⟩
      | true =>
        have hS2 := okLate_2 hok
        have hS0 : 0 ≤ sumLate n xs ls st ds ∧ sumLate n xs ls st ds ≤ 30000 := by
          rw [sumLate_yes hok]; have := arrS_bd hok xs.length (by omega); omega
        obtain ⟨s0, s9⟩ := hS0
        have hlen := (okLate_iff.1 hok).2.2.2.2
        have Hda := Lib.hid (fun k => allDl_at (okLate_iff.1 hok).1 k)
        have Hmo := Lib.hid (fun (k : Nat) (hk : k < ds.length) => sum_more hok (k := k) hk)
        have Hsum := Lib.hid (show (arrX n xs ls st ds).sum = sumLate n xs ls st ds by rw [sumLate_yes hok]; unfold arrX; rw [if_pos hok])
        have Harl := Lib.hid (show (arrX n xs ls st ds).length ≤ 100 by rw [arrX_len hok]; omega)
        have Harb := Lib.hid (show ∀ i, -2000000000 ≤ (arrX n xs ls st ds).getD i 0 ∧ (arrX n xs ls st ds).getD i 0 ≤ 2000000000 from fun i => by
          by_cases h : i < xs.length
          · rw [arrX_at hok h]; have := okLate_bd hok i; omega
          · rw [List.getD_eq_getElem?_getD, List.getElem?_eq_none (by rw [arrX_len hok]; omega)]; simp)
        have H2' := Lib.hid (fun w' (h : RoadsIn w' sv xs) (hu : IntsIn w' u ds) => H2.out w' u ds h hu (by omega))
        rw [hok] at HA
        obtain ⟨m, hdm⟩ : ∃ m, ds.length = m + 1 := ⟨ds.length - 1, by omega⟩
        obtain ⟨r, e1, hr0, hr1⟩ : ∃ r : Int, (l'.length : Int) % ((m : Int) + 1) = r ∧ 0 ≤ r ∧ r < (m : Int) + 1 := by
          have h0 := Int.emod_nonneg (l'.length : Int) (show (m : Int) + 1 ≠ 0 by omega)
          have h1 := Int.emod_lt_of_pos (l'.length : Int) (show 0 < (m : Int) + 1 by omega)
          exact ⟨_, rfl, h0, by omega⟩
        obtain ⟨k, rfl⟩ : ∃ j : Nat, r = (j : Int) := ⟨r.toNat, by omega⟩
        have hkm : k < m + 1 := by omega
        have Hmk := Lib.hid (Hmo.out k (by omega))
        have hd := Hda.out k
        obtain ⟨d0, d9⟩ := hd
        obtain ⟨d, hdd⟩ : ∃ d, ds.getD k 0 = d := ⟨_, rfl⟩
        rw [hdd] at d0 d9 Hmk
        have Hdd := Lib.hid hdd
        clear hdd
        have Hd8 := Lib.hid hd8
        obtain ⟨ua, uc, eu, huc, hua⟩ := HU1.out
        subst eu
        obtain ⟨b, o, eb, hbt, hat⟩ := hua (by rintro rfl; simp at hdm)
        subst eb
        have Hat := Lib.hid hat
        have Hdm := Lib.hid hdm
        have hm7 : m ≤ 7 := by omega
        clear hua hat hok hlen hS2 Hmo Hda hd8
        rw [hdm] at huc ⊢
        rw [hdm] at HU1 H2' H1 HA
        generalize hS : sumLate n xs ls st ds = S at *
        have HS := Lib.hid hS
        clear hS
        go_wp2_with fail
        refine (H2'.out _ HX1.out HU1.out).mono ?_; rintro e w2 ⟨rfl, hb2⟩
        have HX2 := Lib.hid (HX1.out.below hb2)
        have HU2 := Lib.hid (HU1.out.below hb2)
        have HB2 := Lib.hid (HB1.out.trans (hb2.mono HB1.out.size))
        have Hat2 := Lib.hid (Hat.out.below hb2 hbt)
        have hbt2 := Nat.lt_of_lt_of_le hbt hb2.size
        clear hb2
        go_wp2_with fail
        refine (H1.out _ HX2.out HU2.out).mono ?_; rintro e w3 ⟨rfl, hb3⟩
        have HX3 := Lib.hid (HX2.out.below hb3)
        have HU3 := Lib.hid (HU2.out.below hb3)
        have HB3 := Lib.hid (HB2.out.trans (hb3.mono HB2.out.size))
        have Hat3 := Lib.hid (Hat2.out.below hb3 hbt2)
        have hbt3 := Nat.lt_of_lt_of_le hbt2 hb3.size
        clear hb3
        have hq : (S != S) = false := by simp
        have hnn : ¬ S < 0 := by omega
        go_wp2_with fail
        refine (HA.out _ HX3.out HU3.out).mono ?_; intro e w4 h4
        obtain ⟨v4, rfl, hi4, hb4⟩ := okIn h4
        have HI4 := Lib.hid hi4
        have HX4 := Lib.hid (HX3.out.below hb4)
        have HB4 := Lib.hid (HB3.out.trans (hb4.mono HB3.out.size))
        have hat4 := Hat3.out.below hb4 hbt3
        have hbt4 := Nat.lt_of_lt_of_le hbt3 hb4.size
        have hbn : Below w4.heap.size w4 (w4.alloc (.cells #[] 3)) := (Below.refl _ _).alloc (Nat.le_refl _) _
        have hnews := (hat4.below hbn hbt4).news
        have hown := RowI.made w4 w4.heap.size (Nat.le_refl _)
        unfold RowI at hown
        have Hown := Lib.hid hown
        have Hnews := Lib.hid hnews
        have Hbn := Lib.hid hbn
        have HlenM := Lib.hid (show (ds.map (Value.int .i64)).length = (m + 1) * 1 by simp [Hdm.out])
        clear h4 hi4 hb4 hat4 hbn hnews hown
        go_wp2_with (at_builtin; refine wpList_append_own _ rfl _ _ 23 rfl w4.heap.size 3 i0 (.int .i64 0) 1 8 Try.underlying23 hi hz0 hz1 hz2 rfl (by omega) _ _ [] rfl Hown.out ⟨b, o, none⟩ (m + 1) uc (ds.map (Value.int .i64)) rfl HlenM.out Hnews.out (encI_one ds) (by unfold maxLen; simp; omega) (by simp; omega) (by simp) ?_; intro v5 w5 hown5 hgrow _; have hrow : RowI w5 w4.heap.size v5 ds := (by unfold RowI; rw [Hdm.out]; simpa using hown5); have hb5 := Hbn.out.grown hgrow (by simp) (fun q hq => (Hown.out.lt q hq).1); obtain ⟨g, cp, rfl, hcp, hat5, hroom, hgB, hgl⟩ := hrow.open2 (by rw [Hdm.out]; omega); have c1 := hat5 k (by rw [Hdm.out]; exact hkm); rw [Nat.zero_add, Hdd.out] at c1; have hfz := hroom.2 k; rw [Hdm.out] at hcp hrow; have HW := Lib.hid (And.intro hrow (And.intro hb5 hgB)); clear hrow hb5 hown5 hgrow hat5 hroom)
        have hX5 := HX4.out.below (HW.out.2.1)
        have hI5 := HI4.out.below (HW.out.2.1)
        have hset := HW.out.1.setAt k (d + 1)
        have hb6 : Below w4.heap.size w4 (w5.setCell ⟨g, k, none⟩ (.int .i64 (d + 1))) := HW.out.2.1.setCell (p := ⟨g, k, none⟩) HW.out.2.2 _
        have hc6 : (w5.setCell ⟨g, k, none⟩ (.int .i64 (d + 1))).cell? ⟨g, k, none⟩ = some (.int .i64 (d + 1)) := by
          obtain ⟨g', cp', e', _, hat', _, _, _⟩ := hset.open2 (by rw [List.length_set, Hdm.out]; omega)
          injection e' with e1 e2 e3
          injection e1 with e1
          injection e1 with e1
          subst e1
          have := hat' k (by rw [List.length_set, Hdm.out]; exact hkm)
          rw [Nat.zero_add, getD_setI ds k k _ (by rw [Hdm.out]; exact hkm), if_pos rfl] at this
          exact this
        have HS6 := Lib.hid (And.intro hset.in_ (And.intro hb6 (And.intro (HX4.out.below hb6) (HI4.out.below hb6))))
        have Hlen2 := Lib.hid (show (ds.set k (d + 1)).length ≤ 1048576 by rw [List.length_set, Hdm.out]; omega)
        have Hc6 := Lib.hid hc6
        have hgz := HW.out.2.2
        clear hX5 hI5 hset hb6 hc6 HW c1 hfz
        have H2k := Lib.hid (fun w' (u2 : Value) (h : RoadsIn w' sv xs) (hu : IntsIn w' u2 (ds.set k (d + 1))) => H2.out w' u2 _ h hu Hlen2.out)
        rw [Hdm.out] at Hmk
        generalize sumLate n xs ls st (ds.set k (d + 1)) = a at *
        generalize w5.setCell ⟨g, k, none⟩ (.int .i64 (d + 1)) = w6 at *
        refine (H2k.out w6 _ HS6.out.2.2.1 HS6.out.1).mono ?_; rintro e w7 ⟨rfl, hb7⟩
        have HI7 := Lib.hid (HS6.out.2.2.2.below hb7)
        have c7 := keepCell hb7 Hc6.out
        have HB7 := Lib.hid (HB4.out.trans ((HS6.out.2.1.trans (hb7.mono HS6.out.2.1.size)).mono HB4.out.size))
        clear hb7
        go_wp2_with fail
        refine (sumOf_any v4 _ w7 HI7.out Harl.out Harb.out).mono ?_; rintro e w8 ⟨rfl, rfl⟩
        rw [Hsum.out]
        have hSS : (S == S) = true := by simp
        have hkn : (0 : Int) ≤ (k : Int) := Int.natCast_nonneg _
        rcases Hmk.out with ⟨q1, rfl⟩ | ⟨q1, q2, q3⟩
        · go_wp2
          go_ret
          exact ⟨rfl, HB7.out⟩
        · have hne : (a == -1) = false := by simp; omega
          have q4 : a ≤ S + ((m : Int) + 1) - (k : Int) := by push_cast at q3; omega
          have q5 : a ≥ S + 1 := by omega
          have g1 : wrap64 (S + 1) = S + 1 := by unfold wrap64; omega
          have g2 : wrap64 (S + ((m : Int) + 1)) = S + ((m : Int) + 1) := by unfold wrap64; omega
          have g3 : wrap64 (S + ((m : Int) + 1) - (k : Int)) = S + ((m : Int) + 1) - (k : Int) := by unfold wrap64; omega
          clear q3
          go_wp2
          go_ret
          exact ⟨by first | rfl | exact ret_bool (by simp; omega), HB7.out⟩
    · have hk' : (1048576 : Int) < (l'.length : Int) := by omega
      go_enter Try.func14, Try.ntmps14
      go_wp2
      go_ret
      exact ⟨rfl, Below.refl _ _⟩
  · have hl' : (1048576 : Int) < (l.length : Int) := by omega
    go_enter Try.func14, Try.ntmps14
    go_wp2
    go_ret
    exact ⟨rfl, Below.refl _ _⟩

set_option maxRecDepth 100000 in
theorem lifted (os : Os) (started : os.Started) (H : Type) (enc : TypeId × Value → H) :
    ReturnsInHanded {} Try.checked os 14 .any (Rows.fnLateSumSpec.pre6 enc Try.prog Try.f14 Rows.fnLateSumRow.domain false) (Rows.fnLateSumSpec.post enc Try.prog Try.f14 false true false false) := by
  refine returnsInHanded_of_change (C := Try.checked) own started (by kernel_rfl) Try.func14
    (ChangeSpec.witness6 (enc := enc) (C := Try.checked) false ⟨#[], #[.slice none 0 0, .slice none 0 0], []⟩ 8 (by kernel_rfl) (by kernel_rfl) (by kernel_rfl) (by kernel_rfl)) ?_
  intro W base args ds gs before hval0 hW hcnd _
  have hval : ∀ (j : Nat) t v, Try.f14.params[j]? = some t → args[j]? = some v → Value.okWide Try.prog W .any base t v := hval0
  have hW' := hW
  obtain ⟨p, q, hA0, hV, rfl, hfz, hnd⟩ := hW
  have hA : DataW.TrodAll enc Try.prog W 0 (fun _ => true) true Try.f14.params.toList args.toList ds p := hA0
  rw [Try.params14] at hA hval
  obtain ⟨v0, vs0, d0, ds0, p0, q0, hargs, rfl, rfl, h0, r0⟩ := trodAll_cons hA
  obtain ⟨v1, vs1, d1, ds1, p1, q1, rfl, rfl, rfl, h1, r1⟩ := trodAll_cons r0
  obtain ⟨rfl, rfl, rfl⟩ := trodAll_nil r1
  obtain rfl : args = #[v0, v1] := by cases args; simp_all
  obtain ⟨rfl, rfl⟩ := trodVars_none hV
  obtain ⟨a0, len0, cap0, rfl⟩ := okWide_slice Try.underlying49 (hval 0 49 v0 rfl rfl)
  have k0 := h0
  have lt0 : ∀ x ∈ p0, x.block < W.heap.size := by obtain ⟨m, hm⟩ := k0; exact DataW.trod_lt m _ _ _ hm
  obtain ⟨z0, hv0, hm0⟩ := open_byteS h0 rfl
  obtain ⟨a1, len1, cap1, rfl⟩ := okWide_slice Try.underlying49 (hval 1 49 v1 rfl rfl)
  have k1 := h1
  have lt1 : ∀ x ∈ p1, x.block < W.heap.size := by obtain ⟨m, hm⟩ := k1; exact DataW.trod_lt m _ _ _ hm
  obtain ⟨z1, hv1, hm1⟩ := open_byteS h1 rfl
  clear hA0 hval0
  refine (walk _ z0 _ z1 W hv0 hm0 hv1 hm1).mono fun e W' ⟨he, bel⟩ => ?_
  subst he
  exact ⟨_, rfl, _, _, _, [], _, [], hW', trodAll_mk1 (shut_bool Try.underlying4 _), (trodAll_cons_mk (Below.trod laidOut (by kernel_rfl) (of_decide_eq_true (by kernel_rfl)) k0 bel lt0) (trodAll_cons_mk (Below.trod laidOut (by kernel_rfl) (of_decide_eq_true (by kernel_rfl)) k1 bel lt1) trodAll_mk0)), rfl, bel.frame _, fun h => by cases h⟩

theorem closed : joinedFacts Try.prog 14 Try.f14 Rows.fnLateSumSpec Rows.fnLateSumRow = true := by
  delta joinedFacts
  refine and_t (and_t (and_t (and_t (and_t (and_t (and_t ?_ mayE) (liftE rfl)) (makeE rfl)) ?_) ?_) ?_) ?_
  all_goals kernel_rfl
theorem over : Rows.fnLateSumRow.holds Try.pinned (OpenSpec.ofChange Rows.fnLateSumSpec) :=
  OpenClaim.holds_of_wide 14 Try.f14 rfl rfl rfl rfl rfl rfl rfl ⟨rfl, rfl, rfl, rfl, rfl⟩ rfl rfl rfl rfl rfl (by kernel_rfl) Try.func14 closed
    (of_decide_eq_true (by kernel_rfl)) (by unfold Func.isWrapper; first | (rw [if_pos (by decide +kernel)]; kernel_rfl) | (rw [if_neg (by decide +kernel)]; exact ⟨rfl, rfl⟩))
    (fun os started H enc _ => lifted os started H enc)

theorem proved : Rows.FnLateSumSaid := over
#print axioms proved
end Go.Proofs.Ytmphpbjmpokjjaa.lawFnLateSum
