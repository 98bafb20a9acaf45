/- The law FnConnectLate holds at every input. No condition. -/
import Derived.Test.YtmphpbjmpokjjabOJ
import Derived.Test.YtmphpbjmpokjjabDLD
import Derived.Test.YtmphpbjmpokjjabKF
import Derived.Test.YtmphpbjmpokjjabCNF
import Derived.Test.YtmphpbjmpokjjabSF
import Derived.Test.YtmphpbjmpokjjabDO
namespace Go.Proofs.Ytmphpbjmpokjjab.lawFnConnectLate
open Go.ChangeShapes Go.WideShapes Go.ChangeAt Go.RowKit
set_option linter.unusedVariables false

theorem cl_facts {n : Int} {a b : List Rd} {town late change most : Int} (h : clOk n a b town late change most = true) : ∃ i k : Nat, stopsAtV n a town = i ∧ i < a.length ∧ i ≤ 8 ∧ stopsAtV n b town = k ∧ k < b.length ∧ k ≤ 8 ∧
    (0 ≤ (a.getD i rd0).b ∧ (a.getD i rd0).b ≤ 10000) ∧ (0 ≤ (b.getD k rd0).m ∧ (b.getD k rd0).m ≤ 10000) ∧ (0 ≤ late ∧ late ≤ 300) ∧ (0 ≤ change ∧ change ≤ 300) ∧ (0 ≤ most ∧ most ≤ 300) ∧
    madeX n a b town late change most = decide ((a.getD i rd0).b + late + change ≤ (b.getD k rd0).m + most) ∧
    clX n a b town late change most = (if (a.getD i rd0).b + late + change ≤ (b.getD k rd0).m + most then max (b.getD k rd0).m ((a.getD i rd0).b + late + change) - (b.getD k rd0).m else 0) := by
  have h' := h
  unfold clOk at h'
  rw [Bool.and_eq_true] at h'
  obtain ⟨h1, h2, h3, h4⟩ := waitOk_iff.1 h'.1
  obtain ⟨i, ei, hi, hi8, b0, b1, _, _⟩ := at_in h1
  obtain ⟨k, ek, hk, hk8, _, _, m0, m1⟩ := at_in h2
  have hw : waitX n a b town late change = (a.getD i rd0).b + late + change - (b.getD k rd0).m := by
    unfold waitX; rw [if_pos h'.1]; unfold waitW; rw [ei, ek, Int.toNat_natCast, Int.toNat_natCast]
  refine ⟨i, k, ei, hi, hi8, ek, hk, hk8, ⟨b0, b1⟩, ⟨m0, m1⟩, okDl_iff.1 h3, okDl_iff.1 h4, okDl_iff.1 h'.2, ?_, ?_⟩
  · rw [madeX_eq, h, hw, Bool.true_and]
    apply decide_eq_decide.2
    omega
  · unfold clX
    rw [if_pos h, hw]
    by_cases q : (a.getD i rd0).b + late + change ≤ (b.getD k rd0).m + most
    · rw [if_pos q, if_neg (by omega)]; omega
    · rw [if_neg q, if_pos (by omega)]

set_option maxRecDepth 100000 in
set_option maxHeartbeats 2000000 in
theorem walk (v : Value) (l : List Int) (w : World) (hv : BytesIn w v l) (hm : l.length ≤ maxLen) :
    Calls Try.prog 11 #[v] w fun e w' => e = .returned (.bool true) ∧ Below w.heap.size w w' := by
  have Hv := Lib.hid hv
  obtain ⟨av, cv, rfl, hcv, _, _⟩ := hv
  clear hcv
  by_cases hl : l.length ≤ 1048576
  · have hl' : ¬ (1048576 : Int) < (l.length : Int) := by omega
    go_enter Try.func11, Try.ntmps11
    go_wp2_with fail
    refine (drawConnectLate_any _ l _ Hv.out hl).mono ?_; rintro e w1 ⟨n, va, xs, vb, ys, town, late, change, most, rfl, hx1, hx8, hy1, hy8, _, _, _, hb1⟩
    have HX1 := Lib.hid hx1
    have HY1 := Lib.hid hy1
    have HB1 := Lib.hid hb1
    have hx : xs.length ≤ 1048576 := by omega
    have hy : ys.length ≤ 1048576 := by omega
    have H2 := Lib.hid (fun w' (h : RoadsIn w' va xs) (h' : RoadsIn w' vb ys) => clate2_any n va xs vb ys town late change most w' h h' hx hy)
    have H1 := Lib.hid (fun w' (h : RoadsIn w' va xs) (h' : RoadsIn w' vb ys) => clate1_any n va xs vb ys town late change most w' h h' hx hy)
    have HM := Lib.hid (fun w' (h : RoadsIn w' va xs) (h' : RoadsIn w' vb ys) => made2_any n va xs vb ys town late change most w' h h' hx hy)
    have HI := Lib.hid (fun w' (h : RoadsIn w' va xs) => at2_any n va xs town w' h hx)
    have HJ := Lib.hid (fun w' (h : RoadsIn w' vb ys) => at2_any n vb ys town w' h hy)
    clear hx1 hy1 hb1
    cases hok : clOk n xs ys town late change most with
    | false =>
      have hX : clX n xs ys town late change most = 0 := by unfold clX; rw [hok]; rfl
      rw [hok, hX] at H2 H1
      clear hok hX HM HI HJ
      go_wp2_with fail
      refine (H2.out _ HX1.out HY1.out).mono ?_; rintro e w2 ⟨rfl, hb2⟩
      have HX2 := Lib.hid (HX1.out.below hb2)
      have HY2 := Lib.hid (HY1.out.below hb2)
      have HB2 := Lib.hid (HB1.out.trans (hb2.mono HB1.out.size))
      clear hb2
      go_wp2_with fail
      refine (H1.out _ HX2.out HY2.out).mono ?_; rintro e w3 ⟨rfl, hb3⟩
      have HB3 := Lib.hid (HB2.out.trans (hb3.mono HB2.out.size))
      clear hb3
      go_wp2
      go_ret
      exact ⟨rfl, HB3.out⟩
    | true =>
      obtain ⟨i, k, ei, hi, hi8, ek, hk, hk8, ⟨b0, b1⟩, ⟨m0, m1⟩, ⟨l0, l9⟩, ⟨c0, c9⟩, ⟨n0, n9⟩, hmade, hX⟩ := cl_facts hok
      rw [ei] at HI
      rw [ek] at HJ
      rw [hmade] at HM
      rw [hok, hX] at H2 H1
      obtain ⟨aa, ca, rfl, haa⟩ := HX1.out
      obtain ⟨ab, cb, rfl, hab⟩ := HY1.out
      obtain ⟨ba, oa, rfl, hba, hra⟩ := haa (by rintro rfl; simp at hi)
      obtain ⟨bb, ob, rfl, hbb, hrb⟩ := hab (by rintro rfl; simp at hk)
      have HRA := Lib.hid (fun w' (h : Below w1.heap.size w1 w') => (hra.below h hba) i hi)
      have HRB := Lib.hid (fun w' (h : Below w1.heap.size w1 w') => (hrb.below h hbb) k hk)
      have hil : (i : Int) < (xs.length : Int) := by omega
      have hkl : (k : Int) < (ys.length : Int) := by omega
      have hin : (0 : Int) ≤ (i : Int) := Int.natCast_nonneg _
      have hkn : (0 : Int) ≤ (k : Int) := Int.natCast_nonneg _
      clear hok ei ek hmade hX haa hab hra hrb hba hbb hi hk
      generalize (xs.getD i rd0).b = A at *
      generalize (ys.getD k rd0).m = L at *
      obtain ⟨T, hT⟩ : ∃ T, A + late + change = T := ⟨_, rfl⟩
      rw [hT] at HM H2 H1
      have HT := Lib.hid hT
      have hT0 : 0 ≤ T ∧ T ≤ 10600 := by omega
      obtain ⟨t0, t9⟩ := hT0
      have g1 : wrap64 (A + late) = A + late := by unfold wrap64; omega
      have g2 : wrap64 (A + late + change) = T := by rw [hT]; unfold wrap64; omega
      have g3 : IntKind.i64.wrap (A + late) = A + late := IntWalk.i64_in _ (by omega)
      have g4 : IntKind.i64.wrap (A + late + change) = T := by rw [hT]; exact IntWalk.i64_in _ (by omega)
      have HBz := Lib.hid (Below.refl w1.heap.size w1)
      clear hT
      have Hz1 := Lib.hid (Below.refl w1.heap.size w1)
      clear HBz
      have hLm : 0 ≤ L + most ∧ L + most ≤ 10300 := by omega
      obtain ⟨z0, z9⟩ := hLm
      have g5 : wrap64 (L + most) = L + most := by unfold wrap64; omega
      have g6 : IntKind.i64.wrap (L + most) = L + most := IntWalk.i64_in _ (by omega)
      by_cases q : T ≤ L + most
      · rw [decide_eq_true q] at HM
        rw [if_pos q] at H2 H1
        rcases Int.lt_trichotomy L T with q2 | q2 | q2
        · have q2' : L ≤ T := by omega
          have e : max L T - L = T - L := by omega
          rw [e] at H2 H1
          obtain ⟨O, hO⟩ : ∃ O, T - L = O := ⟨_, rfl⟩
          rw [hO] at H2 H1
          have o0 : ¬ O < 0 := by omega
          have o1 : ¬ most < O := by omega
          have o2 : O ≤ most := by omega
          have o3 : 0 ≤ O := by omega
          have g7 : IntKind.i64.wrap (L + O) = T := by rw [show L + O = T by omega]; exact IntWalk.i64_in _ (by omega)
          have g8 : wrap64 (L + O) = T := by rw [show L + O = T by omega]; unfold wrap64; omega
          have hOO : (O == O) = true := by simp
          have hOn : (O != O) = false := by simp
          have q3 : ¬ T < L := by omega
          clear e hO
          go_wp2_with fail
          refine (H2.out _ HX1.out HY1.out).mono ?_; rintro e w2 ⟨rfl, hb2⟩
          have HX2 := Lib.hid (HX1.out.below hb2)
          have HY2 := Lib.hid (HY1.out.below hb2)
          have HB2 := Lib.hid (HB1.out.trans (hb2.mono HB1.out.size))
          have Hz2 := Lib.hid (Hz1.out.trans (hb2.mono Hz1.out.size))
          clear hb2
          go_wp2_with fail
          refine (H1.out _ HX2.out HY2.out).mono ?_; rintro e w3 ⟨rfl, hb3⟩
          have HX3 := Lib.hid (HX2.out.below hb3)
          have HY3 := Lib.hid (HY2.out.below hb3)
          have HB3 := Lib.hid (HB2.out.trans (hb3.mono HB2.out.size))
          have Hz3 := Lib.hid (Hz2.out.trans (hb3.mono Hz2.out.size))
          clear hb3
          go_wp2_with fail
          refine (HM.out _ HX3.out HY3.out).mono ?_; rintro e w4 ⟨rfl, hb4⟩
          have HX4 := Lib.hid (HX3.out.below hb4)
          have HY4 := Lib.hid (HY3.out.below hb4)
          have HB4 := Lib.hid (HB3.out.trans (hb4.mono HB3.out.size))
          have Hz4 := Lib.hid (Hz3.out.trans (hb4.mono Hz3.out.size))
          clear hb4
          go_wp2_with fail
          refine (HI.out _ HX4.out).mono ?_; rintro e w5 ⟨rfl, hb5⟩
          have HX5 := Lib.hid (HX4.out.below hb5)
          have HY5 := Lib.hid (HY4.out.below hb5)
          have HB5 := Lib.hid (HB4.out.trans (hb5.mono HB4.out.size))
          have Hz5 := Lib.hid (Hz4.out.trans (hb5.mono Hz4.out.size))
          clear hb5
          go_wp2_with fail
          refine (HJ.out _ HY5.out).mono ?_; rintro e w6 ⟨rfl, hb6⟩
          have HX6 := Lib.hid (HX5.out.below hb6)
          have HY6 := Lib.hid (HY5.out.below hb6)
          have HB6 := Lib.hid (HB5.out.trans (hb6.mono HB5.out.size))
          have Hz6 := Lib.hid (Hz5.out.trans (hb6.mono Hz5.out.size))
          clear hb6
          obtain ⟨_, c1, _⟩ := HRA.out _ Hz6.out
          obtain ⟨_, _, c2⟩ := HRB.out _ Hz6.out
          go_wp2
          go_quiet (fail)
          all_goals
            go_wp2
            go_ret
            exact ⟨by first | rfl | exact ret_bool (by simp; omega) | (exact ret_bool (by simp)), HB6.out.drewN _⟩
        · subst q2
          have e : max L L - L = 0 := by omega
          rw [e] at H2 H1
          have g7 : IntKind.i64.wrap L = L := IntWalk.i64_in _ (by omega)
          have n1 : ¬ most < 0 := by omega
          clear e
          go_wp2_with fail
          refine (H2.out _ HX1.out HY1.out).mono ?_; rintro e w2 ⟨rfl, hb2⟩
          have HX2 := Lib.hid (HX1.out.below hb2)
          have HY2 := Lib.hid (HY1.out.below hb2)
          have HB2 := Lib.hid (HB1.out.trans (hb2.mono HB1.out.size))
          have Hz2 := Lib.hid (Hz1.out.trans (hb2.mono Hz1.out.size))
          clear hb2
          go_wp2_with fail
          refine (H1.out _ HX2.out HY2.out).mono ?_; rintro e w3 ⟨rfl, hb3⟩
          have HX3 := Lib.hid (HX2.out.below hb3)
          have HY3 := Lib.hid (HY2.out.below hb3)
          have HB3 := Lib.hid (HB2.out.trans (hb3.mono HB2.out.size))
          have Hz3 := Lib.hid (Hz2.out.trans (hb3.mono Hz2.out.size))
          clear hb3
          go_wp2_with fail
          refine (HM.out _ HX3.out HY3.out).mono ?_; rintro e w4 ⟨rfl, hb4⟩
          have HX4 := Lib.hid (HX3.out.below hb4)
          have HY4 := Lib.hid (HY3.out.below hb4)
          have HB4 := Lib.hid (HB3.out.trans (hb4.mono HB3.out.size))
          have Hz4 := Lib.hid (Hz3.out.trans (hb4.mono Hz3.out.size))
          clear hb4
          go_wp2_with fail
          refine (HI.out _ HX4.out).mono ?_; rintro e w5 ⟨rfl, hb5⟩
          have HX5 := Lib.hid (HX4.out.below hb5)
          have HY5 := Lib.hid (HY4.out.below hb5)
          have HB5 := Lib.hid (HB4.out.trans (hb5.mono HB4.out.size))
          have Hz5 := Lib.hid (Hz4.out.trans (hb5.mono Hz4.out.size))
          clear hb5
          go_wp2_with fail
          refine (HJ.out _ HY5.out).mono ?_; rintro e w6 ⟨rfl, hb6⟩
          have HX6 := Lib.hid (HX5.out.below hb6)
          have HY6 := Lib.hid (HY5.out.below hb6)
          have HB6 := Lib.hid (HB5.out.trans (hb6.mono HB5.out.size))
          have Hz6 := Lib.hid (Hz5.out.trans (hb6.mono Hz5.out.size))
          clear hb6
          obtain ⟨_, c1, _⟩ := HRA.out _ Hz6.out
          obtain ⟨_, _, c2⟩ := HRB.out _ Hz6.out
          go_wp2
          go_quiet (fail)
          all_goals
            go_wp2
            go_ret
            exact ⟨by first | rfl | exact ret_bool (by simp; omega) | (exact ret_bool (by simp)), HB6.out.drewN _⟩
        · have e : max L T - L = 0 := by omega
          rw [e] at H2 H1
          have q3 : T < L := by omega
          have q4 : T ≤ L := by omega
          have g7 : IntKind.i64.wrap L = L := IntWalk.i64_in _ (by omega)
          have n1 : ¬ most < 0 := by omega
          clear e
          go_wp2_with fail
          refine (H2.out _ HX1.out HY1.out).mono ?_; rintro e w2 ⟨rfl, hb2⟩
          have HX2 := Lib.hid (HX1.out.below hb2)
          have HY2 := Lib.hid (HY1.out.below hb2)
          have HB2 := Lib.hid (HB1.out.trans (hb2.mono HB1.out.size))
          have Hz2 := Lib.hid (Hz1.out.trans (hb2.mono Hz1.out.size))
          clear hb2
          go_wp2_with fail
          refine (H1.out _ HX2.out HY2.out).mono ?_; rintro e w3 ⟨rfl, hb3⟩
          have HX3 := Lib.hid (HX2.out.below hb3)
          have HY3 := Lib.hid (HY2.out.below hb3)
          have HB3 := Lib.hid (HB2.out.trans (hb3.mono HB2.out.size))
          have Hz3 := Lib.hid (Hz2.out.trans (hb3.mono Hz2.out.size))
          clear hb3
          go_wp2_with fail
          refine (HM.out _ HX3.out HY3.out).mono ?_; rintro e w4 ⟨rfl, hb4⟩
          have HX4 := Lib.hid (HX3.out.below hb4)
          have HY4 := Lib.hid (HY3.out.below hb4)
          have HB4 := Lib.hid (HB3.out.trans (hb4.mono HB3.out.size))
          have Hz4 := Lib.hid (Hz3.out.trans (hb4.mono Hz3.out.size))
          clear hb4
          go_wp2_with fail
          refine (HI.out _ HX4.out).mono ?_; rintro e w5 ⟨rfl, hb5⟩
          have HX5 := Lib.hid (HX4.out.below hb5)
          have HY5 := Lib.hid (HY4.out.below hb5)
          have HB5 := Lib.hid (HB4.out.trans (hb5.mono HB4.out.size))
          have Hz5 := Lib.hid (Hz4.out.trans (hb5.mono Hz4.out.size))
          clear hb5
          go_wp2_with fail
          refine (HJ.out _ HY5.out).mono ?_; rintro e w6 ⟨rfl, hb6⟩
          have HX6 := Lib.hid (HX5.out.below hb6)
          have HY6 := Lib.hid (HY5.out.below hb6)
          have HB6 := Lib.hid (HB5.out.trans (hb6.mono HB5.out.size))
          have Hz6 := Lib.hid (Hz5.out.trans (hb6.mono Hz5.out.size))
          clear hb6
          obtain ⟨_, c1, _⟩ := HRA.out _ Hz6.out
          obtain ⟨_, _, c2⟩ := HRB.out _ Hz6.out
          go_wp2
          go_quiet (fail)
          all_goals
            go_wp2
            go_ret
            exact ⟨by first | rfl | exact ret_bool (by simp; omega) | (exact ret_bool (by simp)), HB6.out.drewN _⟩
      · rw [decide_eq_false q] at HM
        rw [if_neg q] at H2 H1
        have q3 : L + most < T := by omega
        have n1 : ¬ most < 0 := by omega
        clear q
        go_wp2_with fail
        refine (H2.out _ HX1.out HY1.out).mono ?_; rintro e w2 ⟨rfl, hb2⟩
        have HX2 := Lib.hid (HX1.out.below hb2)
        have HY2 := Lib.hid (HY1.out.below hb2)
        have HB2 := Lib.hid (HB1.out.trans (hb2.mono HB1.out.size))
        have Hz2 := Lib.hid (Hz1.out.trans (hb2.mono Hz1.out.size))
        clear hb2
        go_wp2_with fail
        refine (H1.out _ HX2.out HY2.out).mono ?_; rintro e w3 ⟨rfl, hb3⟩
        have HX3 := Lib.hid (HX2.out.below hb3)
        have HY3 := Lib.hid (HY2.out.below hb3)
        have HB3 := Lib.hid (HB2.out.trans (hb3.mono HB2.out.size))
        have Hz3 := Lib.hid (Hz2.out.trans (hb3.mono Hz2.out.size))
        clear hb3
        go_wp2_with fail
        refine (HM.out _ HX3.out HY3.out).mono ?_; rintro e w4 ⟨rfl, hb4⟩
        have HX4 := Lib.hid (HX3.out.below hb4)
        have HY4 := Lib.hid (HY3.out.below hb4)
        have HB4 := Lib.hid (HB3.out.trans (hb4.mono HB3.out.size))
        have Hz4 := Lib.hid (Hz3.out.trans (hb4.mono Hz3.out.size))
        clear hb4
        go_wp2_with fail
        refine (HI.out _ HX4.out).mono ?_; rintro e w5 ⟨rfl, hb5⟩
        have HX5 := Lib.hid (HX4.out.below hb5)
        have HY5 := Lib.hid (HY4.out.below hb5)
        have HB5 := Lib.hid (HB4.out.trans (hb5.mono HB4.out.size))
        have Hz5 := Lib.hid (Hz4.out.trans (hb5.mono Hz4.out.size))
        clear hb5
        go_wp2_with fail
        refine (HJ.out _ HY5.out).mono ?_; rintro e w6 ⟨rfl, hb6⟩
        have HX6 := Lib.hid (HX5.out.below hb6)
        have HY6 := Lib.hid (HY5.out.below hb6)
        have HB6 := Lib.hid (HB5.out.trans (hb6.mono HB5.out.size))
        have Hz6 := Lib.hid (Hz5.out.trans (hb6.mono Hz5.out.size))
        clear hb6
        obtain ⟨_, c1, _⟩ := HRA.out _ Hz6.out
        obtain ⟨_, _, c2⟩ := HRB.out _ Hz6.out
        go_wp2
        go_quiet (fail)
        all_goals
          go_wp2
          go_ret
          exact ⟨by first | rfl | exact ret_bool (by simp; omega) | (exact ret_bool (by simp)), HB6.out.drewN _⟩
  · have hl' : (1048576 : Int) < (l.length : Int) := by omega
    go_enter Try.func11, Try.ntmps11
    go_wp2
    go_ret
    exact ⟨rfl, Below.refl _ _⟩

set_option maxRecDepth 100000 in
theorem lifted (os : Os) (started : os.Started) (H : Type) (enc : TypeId × Value → H) :
    ReturnsInHanded {} Try.checked os 11 .any (Rows.fnConnectLateSpec.pre6 enc Try.prog Try.f11 Rows.fnConnectLateRow.domain false) (Rows.fnConnectLateSpec.post enc Try.prog Try.f11 false true false false) := by
  refine returnsInHanded_of_change (C := Try.checked) own started (by kernel_rfl) Try.func11
    (ChangeSpec.witness6 (enc := enc) (C := Try.checked) false ⟨#[], #[.slice none 0 0], []⟩ 8 (by kernel_rfl) (by kernel_rfl) (by kernel_rfl) (by kernel_rfl)) ?_
  intro W base args ds gs before hval0 hW hcnd _
  have hval : ∀ (j : Nat) t v, Try.f11.params[j]? = some t → args[j]? = some v → Value.okWide Try.prog W .any base t v := hval0
  have hW' := hW
  obtain ⟨p, q, hA0, hV, rfl, hfz, hnd⟩ := hW
  have hA : DataW.TrodAll enc Try.prog W 0 (fun _ => true) true Try.f11.params.toList args.toList ds p := hA0
  rw [Try.params11] at hA hval
  obtain ⟨v0, vs0, d0, ds0, p0, q0, hargs, rfl, rfl, h0, r0⟩ := trodAll_cons hA
  obtain ⟨rfl, rfl, rfl⟩ := trodAll_nil r0
  obtain rfl : args = #[v0] := by cases args; simp_all
  obtain ⟨rfl, rfl⟩ := trodVars_none hV
  obtain ⟨a0, len0, cap0, rfl⟩ := okWide_slice Try.underlying22 (hval 0 22 v0 rfl rfl)
  have k0 := h0
  have lt0 : ∀ x ∈ p0, x.block < W.heap.size := by obtain ⟨m, hm⟩ := k0; exact DataW.trod_lt m _ _ _ hm
  obtain ⟨z0, hv0, hm0⟩ := open_byteS h0 rfl
  clear hA0 hval0
  refine (walk _ z0 W hv0 hm0).mono fun e W' ⟨he, bel⟩ => ?_
  subst he
  exact ⟨_, rfl, _, _, _, [], _, [], hW', trodAll_mk1 (shut_bool Try.underlying4 _), (trodAll_cons_mk (Below.trod laidOut (by kernel_rfl) (of_decide_eq_true (by kernel_rfl)) k0 bel lt0) trodAll_mk0), rfl, bel.frame _, fun h => by cases h⟩

theorem closed : joinedFacts Try.prog 11 Try.f11 Rows.fnConnectLateSpec Rows.fnConnectLateRow = true := by
  delta joinedFacts
  refine and_t (and_t (and_t (and_t (and_t (and_t (and_t ?_ mayE) (liftE rfl)) (makeE rfl)) ?_) ?_) ?_) ?_
  all_goals kernel_rfl
theorem over : Rows.fnConnectLateRow.holds Try.pinned (OpenSpec.ofChange Rows.fnConnectLateSpec) :=
  OpenClaim.holds_of_wide 11 Try.f11 rfl rfl rfl rfl rfl rfl rfl ⟨rfl, rfl, rfl, rfl, rfl⟩ rfl rfl rfl rfl rfl (by kernel_rfl) Try.func11 closed
    (of_decide_eq_true (by kernel_rfl)) (by unfold Func.isWrapper; first | (rw [if_pos (by decide +kernel)]; kernel_rfl) | (rw [if_neg (by decide +kernel)]; exact ⟨rfl, rfl⟩))
    (fun os started H enc _ => lifted os started H enc)

theorem proved : Rows.FnConnectLateSaid := over
#print axioms proved
end Go.Proofs.Ytmphpbjmpokjjab.lawFnConnectLate
