/- The law FnLateBlame holds at every input. No condition. -/
import Derived.Test.YtmphpbjmpokjjabOJ
import Derived.Test.YtmphpbjmpokjjabDLE
import Derived.Test.YtmphpbjmpokjjabKD
import Derived.Test.YtmphpbjmpokjjabLTJ
import Derived.Test.YtmphpbjmpokjjabSUO
import Derived.Test.YtmphpbjmpokjjabDO
namespace Go.Proofs.Ytmphpbjmpokjjab.lawFnLateBlame
open Go.ChangeShapes Go.WideShapes Go.ChangeAt Go.RowKit
set_option linter.unusedVariables false

def BlRel (n : Int) (xs : List Rd) (ls st : Int) (ds : List Int) (N : Nat) (w : World) (sv iv : Value) (wr : World) : Prop := ∃ i : Nat, i ≤ N ∧ sv = .int .i64 (blameSum n xs ls st ds i) ∧ iv = .int .i64 i ∧ Below w.heap.size w wr

set_option maxRecDepth 100000 in
set_option maxHeartbeats 4000000 in
theorem walk (v : Value) (l : List Int) (w : World) (hv : BytesIn w v l) (hm : l.length ≤ maxLen) :
    Calls Try.prog 9 #[v] w fun e w' => e = .returned (.bool true) ∧ Below w.heap.size w w' := by
  have Hv := Lib.hid hv
  obtain ⟨av, cv, rfl, hcv, _, _⟩ := hv
  clear hcv
  by_cases hl : l.length ≤ 1048576
  · have hl' : ¬ (1048576 : Int) < (l.length : Int) := by omega
    go_enter Try.func9, Try.ntmps9
    go_wp2_with fail
    refine (drawLateBlame_any _ l _ Hv.out hl).mono ?_; rintro e w1 ⟨n, sv, xs, ls, st, u, ds, k, rfl, n2, n6, hx1, hx8, hu1, hd8, _, _, ⟨hk0, hk1⟩, hb1⟩
    have HX1 := Lib.hid hx1
    have HU1 := Lib.hid hu1
    have HB1 := Lib.hid hb1
    have hx : xs.length ≤ 1048576 := by omega
    have HBl := Lib.hid (fun k w' (h : RoadsIn w' sv xs) (hu : IntsIn w' u ds) => blame2_any n sv xs ls st u ds k w' h hx hu (by omega))
    have H1 := Lib.hid (fun w' (h : RoadsIn w' sv xs) (hu : IntsIn w' u ds) => blame1_any n sv xs ls st u ds k w' h hx hu (by omega))
    have HE := Lib.hid (fun w' (h : RoadsIn w' sv xs) (hu : IntsIn w' u ds) => end2_any n sv xs ls st u ds w' h hx hu (by omega))
    clear hx1 hu1 hb1
    by_cases hok : okLate n xs ls st ds = true ∧ 0 ≤ k ∧ k < ds.length
    · obtain ⟨hok, k0, k1⟩ := hok
      obtain ⟨k, rfl⟩ : ∃ j : Nat, k = (j : Int) := ⟨k.toNat, by omega⟩
      have hkl : k < ds.length := by omega
      obtain ⟨m, hm⟩ : ∃ m, ds.length = m + 1 := ⟨ds.length - 1, by omega⟩
      obtain ⟨a0, a1, a2, a3, a4, _⟩ := blame_law hok k hkl
      obtain ⟨_, _, _, _, _, b5⟩ := blame_law hok m (by omega)
      have b6 := b5 (by omega)
      have Hlaw := Lib.hid (fun i (hi : i < ds.length) => blame_law hok i hi)
      have Hsum := Lib.hid (fun i (hi : i ≤ ds.length) => blameSum_bd hok i hi)
      have Hdb := Lib.hid (show ∀ i, -2000000000 ≤ ds.getD i 0 ∧ ds.getD i 0 ≤ 2000000000 from fun i => by have := allDl_at (okLate_iff.1 hok).1 i; omega)
      have hss := blameSum_bd hok ds.length (Nat.le_refl _)
      rw [List.take_length] at hss
      obtain ⟨N, hN⟩ : ∃ N, ds.length = N := ⟨_, rfl⟩
      have HL := Lib.hid (HBl.out ((N : Int) - 1))
      rw [show (N : Int) - 1 = (m : Int) by omega, b6] at HL
      rw [show (m : Int) = (N : Int) - 1 by omega] at HL
      have Hk := Lib.hid (HBl.out (k : Int))
      have HN := Lib.hid hN
      rw [hN] at hkl hm Hlaw Hsum hss k1 hd8
      have hmN : N = m + 1 := hm
      have Hkm := Lib.hid (And.intro hkl hmN)
      obtain ⟨O, hO⟩ : ∃ O, blameX n xs ls st ds (k : Int) = O := ⟨_, rfl⟩
      rw [hO] at H1 Hk a0 a1 a3
      obtain ⟨E, hE⟩ : ∃ E, endX n xs ls st ds = E := ⟨_, rfl⟩
      rw [hE] at HE a3 a4
      obtain ⟨d, hd⟩ : ∃ d, ds.getD m 0 = d := ⟨_, rfl⟩
      rw [hd] at HL
      have Hd := Lib.hid hd
      clear hd
      obtain ⟨ua, uc, eu, huc, hua⟩ := HU1.out
      subst eu
      obtain ⟨b2, o2, rfl, hbt2, hat2⟩ := hua (by intro h; rw [h] at hN; simp at hN; omega)
      have HC := Lib.hid (fun w' (h : Below w1.heap.size w1 w') => hat2.below h hbt2)
      rw [hN] at HBl HL Hk H1 HE HU1 huc ⊢
      have HOE := Lib.hid (And.intro a1 a3)
      have Hss := Lib.hid hss
      have hnn : ¬ O < 0 := by omega
      have hq : (O != O) = false := by simp
      have g0 : wrap64 ((N : Int) - 1) = (N : Int) - 1 := by unfold wrap64; omega
      have hN8 : N ≤ 8 := hd8
      clear hua hat2 hN hO hE b5 b6 hss hm a1 a3 a4 a2 k1 hmN
      have Hz1 := Lib.hid (Below.refl w1.heap.size w1)
      go_wp2_with fail
      refine (Hk.out _ HX1.out HU1.out).mono ?_; rintro e w2 ⟨rfl, hb2⟩
      have HX2 := Lib.hid (HX1.out.below hb2)
      have HU2 := Lib.hid (HU1.out.below hb2)
      have HB2 := Lib.hid (HB1.out.trans (hb2.mono HB1.out.size))
      have Hz2 := Lib.hid (Hz1.out.trans (hb2.mono Hz1.out.size))
      clear hb2
      go_wp2_with fail
      refine (H1.out _ HX2.out HU2.out).mono ?_; rintro e w3 ⟨rfl, hb3⟩
      have HX3 := Lib.hid (HX2.out.below hb3)
      have HU3 := Lib.hid (HU2.out.below hb3)
      have HB3 := Lib.hid (HB2.out.trans (hb3.mono HB2.out.size))
      have Hz3 := Lib.hid (Hz2.out.trans (hb3.mono Hz2.out.size))
      clear hb3
      go_wp2_with fail
      refine (HL.out _ HX3.out HU3.out).mono ?_; rintro e w4 ⟨rfl, hb4⟩
      have HX4 := Lib.hid (HX3.out.below hb4)
      have HU4 := Lib.hid (HU3.out.below hb4)
      have HB4 := Lib.hid (HB3.out.trans (hb4.mono HB3.out.size))
      have Hz4 := Lib.hid (Hz3.out.trans (hb4.mono Hz3.out.size))
      clear hb4 Hk H1 HL
      have HC4 := Lib.hid (fun w' (h : Below w4.heap.size w4 w') => HC.out w' (Hz4.out.trans (h.mono Hz4.out.size)))
      have HBl4 := Lib.hid (fun k w' (h : Below w4.heap.size w4 w') => (HBl.out k w' (HX4.out.below h) (HU4.out.below h)))
      go_wp2_with fail
      go_loopw [12, 13] (fun sv iv wr => BlRel n xs ls st ds N w4 sv iv wr) (fun _ iv _ => 9 - (intOf iv).toNat)
      case atStart => exact ⟨0, Nat.zero_le _, rfl, rfl, Below.refl _ _⟩
      case round =>
        obtain ⟨i, hi, rfl, rfl, hb⟩ := hrel
        have HB := Lib.hid hb
        by_cases hlt : i < N
        · obtain ⟨x0, x1, x2, _, _, _⟩ := Hlaw.out i hlt
          obtain ⟨s0, s1, s2⟩ := Hsum.out i (by omega)
          have hs1 : blameSum n xs ls st ds (i + 1) = blameSum n xs ls st ds i + blameX n xs ls st ds (i : Int) := rfl
          have Hc := Lib.hid (HBl4.out (i : Int) wr hb)
          have hi' : (i : Int) < (N : Int) := by omega
          have hi0 : (0 : Int) ≤ (i : Int) := Int.natCast_nonneg _
          have HCi := Lib.hid (fun w' (h : Below w4.heap.size w4 w') => HC4.out w' h i (by rw [HN.out]; exact hlt))
          clear hb hi
          generalize blameX n xs ls st ds (i : Int) = X at *
          generalize blameSum n xs ls st ds i = S at *
          generalize ds.getD i 0 = y at *
          have Hs1 := Lib.hid hs1
          have hw : wrap64 (S + X) = S + X := by unfold wrap64; omega
          have n1 : decide (X < 0) = false := decide_eq_false (by omega)
          have n2 : decide (y < X) = false := decide_eq_false (by omega)
          have n3 : ¬ X < 0 := by omega
          have n4 : ¬ y < X := by omega
          clear hs1 x0 x1 x2 s0 s1 s2
          go_wp2_with fail
          refine Hc.out.mono ?_; rintro e w5 ⟨rfl, hb5⟩
          have HB5 := Lib.hid (HB.out.trans (hb5.mono HB.out.size))
          have c0 := HCi.out _ HB5.out
          clear hb5
          go_wp2
          refine ⟨⟨i + 1, hlt, by rw [hw, Hs1.out], by go_num, HB5.out⟩, ?_⟩
          show 9 - ((i : Int) + 1).toNat < 9 - ((i : Int)).toNat
          omega
        · obtain ⟨hkl, hmN⟩ := Hkm.out
          subst hmN
          obtain rfl : i = m + 1 := by omega
          obtain ⟨t0, t1, t2⟩ := Hss.out
          obtain ⟨a1, a3⟩ := HOE.out
          clear hb hlt hi
          generalize blameSum n xs ls st ds (m + 1) = S at *
          go_wp2_with fail
          refine (HE.out _ (HX4.out.below HB.out) (HU4.out.below HB.out)).mono ?_; rintro e w5 ⟨rfl, hb5⟩
          have HB5 := Lib.hid (HB.out.trans (hb5.mono HB.out.size))
          have HU5 := Lib.hid (HU4.out.below HB5.out)
          clear hb5
          have c0 := HC4.out _ HB5.out k (by rw [HN.out]; exact hkl)
          have c1 := HC4.out _ HB5.out m (by rw [HN.out]; omega)
          rw [Hd.out] at c1
          have HSO := Lib.hid (fun q => sumOf_any _ ds (w5.drewN q) (HU5.out.below ((Below.refl _ _).drewN q)) (by rw [HN.out]; omega) Hdb.out)
          generalize ds.getD k 0 = y at *
          generalize ds.sum = T at *
          have k1 : (k : Int) < (m : Int) + 1 := by omega
          have k2 : (0 : Int) ≤ (k : Int) := Int.natCast_nonneg _
          have m2 : (0 : Int) ≤ (m : Int) := Int.natCast_nonneg _
          have w1' : IntKind.i64.wrap ((m : Int) + 1 - 1) = (m : Int) := by rw [IntWalk.i64_in _ (by omega)]; omega
          have w2' : IntKind.i64.wrap (m : Int) = (m : Int) := IntWalk.i64_in _ (by omega)
          have n1 : decide (O ≤ y) = true := decide_eq_true a1
          have n2 : (d == d) = true := by simp
          have n3 : decide (S ≤ T) = true := decide_eq_true t1
          have n4 : decide (O ≤ E) = true := decide_eq_true a3
          clear t0 t1 t2 a1 a3
          go_wp2_with fail
          refine (HSO.out 0).mono ?_; rintro e w6 ⟨rfl, rfl⟩
          go_wp2
          go_ret
          exact ⟨ret_bool (by first | rfl | (simp; done)), HB4.out.trans (HB5.out.mono HB4.out.size)⟩
    · have hno : blameX n xs ls st ds k = -1 := blame_no (fun h => hok ⟨endX_ok.1 h.1, h.2⟩)
      have Hk := Lib.hid (HBl.out k)
      rw [hno] at Hk H1
      clear hok hno HBl HE
      go_wp2_with fail
      refine (Hk.out _ HX1.out HU1.out).mono ?_; rintro e w2 ⟨rfl, hb2⟩
      have HX2 := Lib.hid (HX1.out.below hb2)
      have HU2 := Lib.hid (HU1.out.below hb2)
      have HB2 := Lib.hid (HB1.out.trans (hb2.mono HB1.out.size))
      clear hb2
      go_wp2_with fail
      refine (H1.out _ HX2.out HU2.out).mono ?_; rintro e w3 ⟨rfl, hb3⟩
      have HB3 := Lib.hid (HB2.out.trans (hb3.mono HB2.out.size))
      clear hb3
      go_wp2
      go_ret
      exact ⟨rfl, HB3.out⟩
  · have hl' : (1048576 : Int) < (l.length : Int) := by omega
    go_enter Try.func9, Try.ntmps9
    go_wp2
    go_ret
    exact ⟨rfl, Below.refl _ _⟩

set_option maxRecDepth 100000 in
theorem lifted (os : Os) (started : os.Started) (H : Type) (enc : TypeId × Value → H) :
    ReturnsInHanded {} Try.checked os 9 .any (Rows.fnLateBlameSpec.pre6 enc Try.prog Try.f9 Rows.fnLateBlameRow.domain false) (Rows.fnLateBlameSpec.post enc Try.prog Try.f9 false true false false) := by
  refine returnsInHanded_of_change (C := Try.checked) own started (by kernel_rfl) Try.func9
    (ChangeSpec.witness6 (enc := enc) (C := Try.checked) false ⟨#[], #[.slice none 0 0], []⟩ 8 (by kernel_rfl) (by kernel_rfl) (by kernel_rfl) (by kernel_rfl)) ?_
  intro W base args ds gs before hval0 hW hcnd _
  have hval : ∀ (j : Nat) t v, Try.f9.params[j]? = some t → args[j]? = some v → Value.okWide Try.prog W .any base t v := hval0
  have hW' := hW
  obtain ⟨p, q, hA0, hV, rfl, hfz, hnd⟩ := hW
  have hA : DataW.TrodAll enc Try.prog W 0 (fun _ => true) true Try.f9.params.toList args.toList ds p := hA0
  rw [Try.params9] at hA hval
  obtain ⟨v0, vs0, d0, ds0, p0, q0, hargs, rfl, rfl, h0, r0⟩ := trodAll_cons hA
  obtain ⟨rfl, rfl, rfl⟩ := trodAll_nil r0
  obtain rfl : args = #[v0] := by cases args; simp_all
  obtain ⟨rfl, rfl⟩ := trodVars_none hV
  obtain ⟨a0, len0, cap0, rfl⟩ := okWide_slice Try.underlying22 (hval 0 22 v0 rfl rfl)
  have k0 := h0
  have lt0 : ∀ x ∈ p0, x.block < W.heap.size := by obtain ⟨m, hm⟩ := k0; exact DataW.trod_lt m _ _ _ hm
  obtain ⟨z0, hv0, hm0⟩ := open_byteS h0 rfl
  clear hA0 hval0
  refine (walk _ z0 W hv0 hm0).mono fun e W' ⟨he, bel⟩ => ?_
  subst he
  exact ⟨_, rfl, _, _, _, [], _, [], hW', trodAll_mk1 (shut_bool Try.underlying4 _), (trodAll_cons_mk (Below.trod laidOut (by kernel_rfl) (of_decide_eq_true (by kernel_rfl)) k0 bel lt0) trodAll_mk0), rfl, bel.frame _, fun h => by cases h⟩

theorem closed : joinedFacts Try.prog 9 Try.f9 Rows.fnLateBlameSpec Rows.fnLateBlameRow = true := by
  delta joinedFacts
  refine and_t (and_t (and_t (and_t (and_t (and_t (and_t ?_ mayE) (liftE rfl)) (makeE rfl)) ?_) ?_) ?_) ?_
  all_goals kernel_rfl
theorem over : Rows.fnLateBlameRow.holds Try.pinned (OpenSpec.ofChange Rows.fnLateBlameSpec) :=
  OpenClaim.holds_of_wide 9 Try.f9 rfl rfl rfl rfl rfl rfl rfl ⟨rfl, rfl, rfl, rfl, rfl⟩ rfl rfl rfl rfl rfl (by kernel_rfl) Try.func9 closed
    (of_decide_eq_true (by kernel_rfl)) (by unfold Func.isWrapper; first | (rw [if_pos (by decide +kernel)]; kernel_rfl) | (rw [if_neg (by decide +kernel)]; exact ⟨rfl, rfl⟩))
    (fun os started H enc _ => lifted os started H enc)

theorem proved : Rows.FnLateBlameSaid := over
#print axioms proved
end Go.Proofs.Ytmphpbjmpokjjab.lawFnLateBlame
