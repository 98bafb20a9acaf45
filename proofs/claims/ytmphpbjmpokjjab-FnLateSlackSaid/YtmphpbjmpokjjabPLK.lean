/- The law FnLateSlack holds at every input. No condition. -/
import Derived.Test.YtmphpbjmpokjjabOJ
import Derived.Test.YtmphpbjmpokjjabDLC
import Derived.Test.YtmphpbjmpokjjabKC
import Derived.Test.YtmphpbjmpokjjabLTH
import Derived.Test.YtmphpbjmpokjjabSUO
import Derived.Test.YtmphpbjmpokjjabSI
import Derived.Test.YtmphpbjmpokjjabDO
namespace Go.Proofs.Ytmphpbjmpokjjab.lawFnLateSlack
open Go.ChangeShapes Go.WideShapes Go.ChangeAt Go.RowKit
set_option linter.unusedVariables false

def SkRel (m : Nat) (w : World) (iv : Value) (wr : World) : Prop := ∃ i : Nat, i ≤ m + 2 ∧ iv = .int .i64 i ∧ Below w.heap.size w wr

set_option maxRecDepth 100000 in
set_option maxHeartbeats 2000000 in
theorem walk (v : Value) (l : List Int) (w : World) (hv : BytesIn w v l) (hm : l.length ≤ maxLen) :
    Calls Try.prog 7 #[v] w fun e w' => e = .returned (.bool true) ∧ Below w.heap.size w w' := by
  have Hv := Lib.hid hv
  obtain ⟨av, cv, rfl, hcv, _, _⟩ := hv
  clear hcv
  by_cases hl : l.length ≤ 1048576
  · have hl' : ¬ (1048576 : Int) < (l.length : Int) := by omega
    go_enter Try.func7, Try.ntmps7
    go_wp2_with fail
    refine (drawLateSlack_any _ l _ Hv.out hl).mono ?_; rintro e w1 ⟨n, sv, xs, ls, rfl, n2, n6, hx1, hx8, _, hb1⟩
    have HX1 := Lib.hid hx1
    have HB1 := Lib.hid hb1
    have hx : xs.length ≤ 1048576 := by omega
    have H2 := Lib.hid (fun w' (h : RoadsIn w' sv xs) => slackL2_any n sv xs ls w' h hx)
    have H1 := Lib.hid (fun w' (h : RoadsIn w' sv xs) => slackL1_any n sv xs ls w' h hx)
    have HZ := Lib.hid (fun w' (h : RoadsIn w' sv xs) => slackL2_any n sv xs 0 w' h hx)
    have HW := Lib.hid (fun w' (h : RoadsIn w' sv xs) => wait2_any n sv xs w' h hx)
    clear hx1 hb1
    cases hok : slkOk n xs ls with
    | false =>
      have hno : slkX n xs ls = [] := by unfold slkX; rw [if_neg (by rw [hok]; decide)]
      rw [hno, hok] at H2 H1
      clear hok hno HZ HW
      go_wp2_with fail
      refine (H2.out _ HX1.out).mono ?_; intro e w2 h2
      obtain ⟨v2, rfl, hi2, hb2⟩ := okIn h2
      have Hx2 := Lib.hid (HX1.out.below hb2)
      have HB2 := Lib.hid (HB1.out.trans (hb2.mono HB1.out.size))
      have HI2 := Lib.hid hi2
      clear hb2 hi2 h2
      go_wp2_with fail
      refine (H1.out _ Hx2.out).mono ?_; intro e w3 h3
      obtain ⟨v3, rfl, hi3, hb3⟩ := okIn h3
      have HB3 := Lib.hid (HB2.out.trans (hb3.mono HB2.out.size))
      have HI3 := Lib.hid (HI2.out.below hb3)
      have HJ3 := Lib.hid hi3
      clear hb3 hi3 h3
      go_wp2_with fail
      refine (sameInts_any _ _ [] [] _ HI3.out HJ3.out (by simp)).mono ?_; rintro e w4 ⟨⟨x, rfl, hx4⟩, hb4⟩
      obtain rfl : x = true := hx4.2 rfl
      have HB4 := Lib.hid (HB3.out.trans (hb4.mono HB3.out.size))
      have HI4 := Lib.hid (HI3.out.below hb4)
      have HJ4 := Lib.hid (HJ3.out.below hb4)
      clear hb4 hx4
      go_wp2_with fail
      refine (sameInts_any _ _ [] [] _ HI4.out HJ4.out (by simp)).mono ?_; rintro e w5 ⟨⟨x, rfl, hx5⟩, hb5⟩
      obtain rfl : x = true := hx5.2 rfl
      have HB5 := Lib.hid (HB4.out.trans (hb5.mono HB4.out.size))
      clear hb5 hx5
      go_wp2
      go_ret
      exact ⟨rfl, HB5.out⟩
    | true =>
      obtain ⟨m, hm2, hm6, hl1, hl0, hsum, hw0, hw1, hb0, hb1, hb2, l0, l1⟩ := slack_law hok
      have Hat := Lib.hid (fun i (hi : i < m + 2) => slk_at hok i (by omega))
      have Hsb := Lib.hid (show ∀ i, -2000000000 ≤ (slkX n xs 0).getD i 0 ∧ (slkX n xs 0).getD i 0 ≤ 2000000000 from fun i => by have := slkX_bd (slkOk_zero hok) i; omega)
      rw [hok] at H2 H1
      rw [slkOk_zero hok] at HZ
      generalize slkX n xs ls = ys at *
      generalize slkX n xs 0 = zs at *
      generalize waitV n xs = wt at *
      obtain ⟨sa, sc, es, hsa⟩ := HX1.out
      subst es
      obtain ⟨b, o, rfl, hbt, hrw⟩ := hsa (by intro h; simp [h] at hm2)
      have HC := Lib.hid (fun w' (h : Below w1.heap.size w1 w') => hrw.below h hbt)
      have Hl1 := Lib.hid hl1
      have Hl0 := Lib.hid hl0
      have Hz1 := Lib.hid (Below.refl w1.heap.size w1)
      have Hm2 := Lib.hid hm2
      rw [hm2] at HX1 H2 H1 HZ HW
      have hmn : (0 : Int) ≤ (m : Int) := Int.natCast_nonneg _
      have Hm6 := Lib.hid hm6
      rw [hm2]
      clear hrw hok hm2 hl1 hl0 hsa
      go_wp2_with fail
      refine (H2.out _ HX1.out).mono ?_; intro e w2 h2
      obtain ⟨v2, rfl, hi2, hb2⟩ := okIn h2
      have Hx2 := Lib.hid (HX1.out.below hb2)
      have HB2 := Lib.hid (HB1.out.trans (hb2.mono HB1.out.size))
      have Hz2 := Lib.hid (Hz1.out.trans (hb2.mono Hz1.out.size))
      have HI2 := Lib.hid hi2
      clear hb2 hi2 h2
      go_wp2_with fail
      refine (H1.out _ Hx2.out).mono ?_; intro e w3 h3
      obtain ⟨v3, rfl, hi3, hb3⟩ := okIn h3
      have Hx3 := Lib.hid (Hx2.out.below hb3)
      have HB3 := Lib.hid (HB2.out.trans (hb3.mono HB2.out.size))
      have Hz3 := Lib.hid (Hz2.out.trans (hb3.mono Hz2.out.size))
      have HI3 := Lib.hid (HI2.out.below hb3)
      have HJ3 := Lib.hid hi3
      clear hb3 hi3 h3 H1 H2 HX1 Hx2 HI2 HB1 HB2 Hz1 Hz2
      go_wp2_with fail
      refine (sameInts_any _ _ ys ys _ HI3.out HJ3.out (by rw [Hl1.out]; have := Hm6.out; omega)).mono ?_; rintro e w4 ⟨⟨x, rfl, hx4⟩, hb4⟩
      obtain rfl : x = true := hx4.2 rfl
      have Hx4 := Lib.hid (Hx3.out.below hb4)
      have HB4 := Lib.hid (HB3.out.trans (hb4.mono HB3.out.size))
      have Hz4 := Lib.hid (Hz3.out.trans (hb4.mono Hz3.out.size))
      have HI4 := Lib.hid (HI3.out.below hb4)
      clear hb4 hx4 Hx3 HB3 HI3 HJ3 Hz3
      go_wp2_with fail
      refine (HZ.out _ Hx4.out).mono ?_; intro e w5 h5
      obtain ⟨v5, rfl, hi5, hb5⟩ := okIn h5
      have Hx5 := Lib.hid (Hx4.out.below hb5)
      have HB5 := Lib.hid (HB4.out.trans (hb5.mono HB4.out.size))
      have Hz5 := Lib.hid (Hz4.out.trans (hb5.mono Hz4.out.size))
      have hI5 := HI4.out.below hb5
      have HZ5 := Lib.hid hi5
      clear hb5 hi5 h5 HZ Hx4 HB4 HI4 Hz4
      obtain ⟨ua, uc, eu, huc, hua⟩ := hI5
      subst eu
      rw [Hl1.out] at huc ⊢
      obtain ⟨b2, o2, rfl, hbt2, hat2⟩ := hua (by intro h; have := Hl1.out; rw [h] at this; simp at this)
      have HD := Lib.hid (fun w' (h : Below w5.heap.size w5 w') => hat2.below h hbt2)
      clear hua hat2
      obtain ⟨c0, c1, c2⟩ := HC.out _ Hz5.out (m + 1) (by rw [Hm2.out]; omega)
      generalize (xs.getD (m + 1) rd0).a = za at *
      generalize (xs.getD (m + 1) rd0).b = zb at *
      generalize (xs.getD (m + 1) rd0).m = zm at *
      have hb6 : Below w5.heap.size w5 (w5.alloc (.cells #[.int .i64 za, .int .i64 zb, .int .i64 zm] 38)) := (Below.refl _ _).alloc (Nat.le_refl _) _
      have E1 := Lib.hid (show (w5.alloc (.cells #[.int .i64 za, .int .i64 zb, .int .i64 zm] 38)).cell? ⟨w5.heap.size, 1, none⟩ = some (.int .i64 zb) by simp)
      have E2 := Lib.hid (show (w5.alloc (.cells #[.int .i64 za, .int .i64 zb, .int .i64 zm] 38)).cell? ⟨w5.heap.size, 2, none⟩ = some (.int .i64 zm) by simp)
      have E3 := Lib.hid (show w5.heap.size < (w5.alloc (.cells #[.int .i64 za, .int .i64 zb, .int .i64 zm] 38)).heap.size by simp)
      go_wp2_with fail
      generalize w5.alloc (.cells #[.int .i64 za, .int .i64 zb, .int .i64 zm] 38) = w6 at *
      have Hz6 := Lib.hid (Hz5.out.trans (hb6.mono Hz5.out.size))
      have HB6 := Lib.hid (HB5.out.trans (hb6.mono HB5.out.size))
      have HC6 := Lib.hid (fun w' (h : Below w6.heap.size w6 w') => HC.out w' (Hz6.out.trans (h.mono Hz6.out.size)))
      have HD6 := Lib.hid (fun w' (h : Below w6.heap.size w6 w') => HD.out w' (hb6.trans (h.mono hb6.size)))
      have HSO := Lib.hid (fun w' (h : Below w6.heap.size w6 w') => sumOf_any _ zs w' (HZ5.out.below (hb6.trans (h.mono hb6.size))) (by rw [Hl0.out]; have := Hm6.out; omega) Hsb.out)
      rw [hsum] at HSO
      have HWt := Lib.hid (fun w' (h : Below w6.heap.size w6 w') => (HW.out w' (Hx5.out.below (hb6.trans (h.mono hb6.size)))).mono (fun e w'' ⟨he, hb'⟩ => (show e = Ending.returned (.int .i64 wt) ∧ Below w6.heap.size w6 w'' from ⟨he, h.trans (hb'.mono h.size)⟩)))
      have HE := Lib.hid (fun w' (h : Below w6.heap.size w6 w') => (show w'.cell? ⟨w5.heap.size, 1, none⟩ = some (.int .i64 zb) ∧ w'.cell? ⟨w5.heap.size, 2, none⟩ = some (.int .i64 zm) from ⟨(h.cell (p := ⟨w5.heap.size, 1, none⟩) E3.out).trans E1.out, (h.cell (p := ⟨w5.heap.size, 2, none⟩) E3.out).trans E2.out⟩))
      have hw1 : wrap64 (wt + zm) = wt + zm := by unfold wrap64; omega
      have hw2 : wrap64 (wt + zm - zb) = wt + zm - zb := by unfold wrap64; omega
      have Hw := Lib.hid (And.intro hw1 hw2)
      have Hxm := Lib.hid (show xs.length = m + 2 from Hm2.out)
      clear c0 c1 c2 hb6 hw1 hw2 hsum
      go_loopw [13] (fun iv wr => SkRel m w6 iv wr) (fun iv _ => 9 - (intOf iv).toNat)
      case atStart => exact ⟨0, Nat.zero_le _, rfl, Below.refl _ _⟩
      case round =>
        obtain ⟨i, hi, rfl, hb⟩ := hrel
        have HB := Lib.hid hb
        by_cases hlt : i < m + 2
        · obtain ⟨e0, e1, f0, f1, f2⟩ := Hat.out i hlt
          obtain ⟨c0, c1, c2⟩ := HC6.out _ hb i (by rw [Hxm.out]; omega)
          have d0 := HD6.out _ hb i (by rw [Hl1.out]; omega)
          have hi' : (i : Int) < (m : Int) + 2 := by omega
          have hi0 : (0 : Int) ≤ (i : Int) := Int.natCast_nonneg _
          clear hb hi
          generalize ys.getD i 0 = y at *
          generalize (xs.getD i rd0).b = ib at *
          generalize (xs.getD i rd0).m = im at *
          have hd1 : wrap64 (im - ib) = im - ib := by unfold wrap64; omega
          obtain ⟨D, hD⟩ : ∃ D, D = im - ib - ls := ⟨_, rfl⟩
          have hd2 : wrap64 (im - ib - ls) = D := by unfold wrap64; omega
          rw [← hD] at e1
          clear hD f0 f1 f2
          go_wp2
          go_quiet (fail)
          all_goals
            clear hd1 c0 c1 c2
            by_cases hi1 : i = 0
            · obtain rfl : y = 0 := e0 hi1
              have hiz : (i : Int) = 0 := by omega
              have hie : ((i : Int) == 0) = true := by simpa using hiz
              have hip : ¬ (0 : Int) < (i : Int) := by omega
              clear e0 e1 hi1 hiz
              go_wp2
              go_roundw
              case rel => exact ⟨i + 1, hlt, by go_num, HB.out.drewN _⟩
              case measure => first | (show 9 - ((i : Int) + 1).toNat < 9 - ((i : Int)).toNat; omega) | (simp [intOf]; omega)
            · have ey := e1 hi1
              have hip : (0 : Int) < (i : Int) := by omega
              have hin : ¬ (i : Int) = 0 := by omega
              have hie : ((i : Int) == 0) = false := by simpa using hin
              clear e0 e1
              rcases Int.lt_trichotomy D 0 with q | q | q
              · obtain rfl : y = 0 := by omega
                clear ey
                go_wp2
                refine ⟨?_, ?_⟩
                · (repeat apply Exists.intro)
                  refine ⟨?_, rfl⟩
                  exact ⟨i + 1, hlt, by go_num, HB.out.drewN _⟩
                · show 9 - ((i : Int) + 1).toNat < 9 - ((i : Int)).toNat
                  omega
              · subst q
                obtain rfl : y = 0 := by omega
                clear ey
                go_wp2
                refine ⟨?_, ?_⟩
                · (repeat apply Exists.intro)
                  refine ⟨?_, rfl⟩
                  exact ⟨i + 1, hlt, by go_num, HB.out.drewN _⟩
                · show 9 - ((i : Int) + 1).toNat < 9 - ((i : Int)).toNat
                  omega
              · obtain rfl : y = D := by omega
                clear ey
                have hyy : (y != y) = false := by simp
                go_wp2
                refine ⟨?_, ?_⟩
                · (repeat apply Exists.intro)
                  refine ⟨?_, rfl⟩
                  exact ⟨i + 1, hlt, by go_num, HB.out.drewN _⟩
                · show 9 - ((i : Int) + 1).toNat < 9 - ((i : Int)).toNat
                  omega
        · obtain rfl : i = m + 2 := by omega
          clear hb
          have hv1 : IntKind.i64.wrap (wt + zm) = wt + zm := IntWalk.i64_in _ (by omega)
          have hv2 : IntKind.i64.wrap (wt + zm - zb) = wt + zm - zb := IntWalk.i64_in _ (by omega)
          obtain ⟨hw1, hw2⟩ := Hw.out
          obtain ⟨k1, k2⟩ := HE.out _ HB.out
          have hqq : (wt + zm - zb == wt + zm - zb) = true := by simp
          have hmm : ((m : Int) + 2 == (m : Int) + 2) = true := by simp
          have HB' := HB.out
          go_wp2
          go_region_held3 (fun w' => Below w6.heap.size w6 w' ∧ w'.cell? ⟨w5.heap.size, 1, none⟩ = some (.int .i64 zb) ∧ w'.cell? ⟨w5.heap.size, 2, none⟩ = some (.int .i64 zm))
            (refine ⟨?_, HE.out _ ?_⟩ <;> first | assumption | exact And.left (by assumption) | exact Below.refl _ _ | exact (Below.refl _ _).drew | exact Below.drew (by assumption) | exact (Below.refl _ _).drewN _ | exact Below.drewN (by assumption) _)
            (first | (go_at_call 23; refine (HSO.out _ (by first | assumption | exact And.left (by assumption))).mono ?_; rintro e w' ⟨rfl, rfl⟩) | (go_at_call 26; refine (HWt.out _ (by first | assumption | exact And.left (by assumption))).mono ?_; rintro e w' ⟨rfl, hbw⟩))
          all_goals go_wp2
          all_goals go_ret
          all_goals exact ⟨ret_bool (by first | (rw [hv1, hv2]; exact hqq) | (simp; done)), HB6.out.trans (Below.mono (by first | assumption | exact And.left (by assumption) | exact Below.drewN (by assumption) _ | exact Below.drewN (And.left (by assumption)) _ | exact Below.drew (by assumption) | exact Below.drew (And.left (by assumption))) HB6.out.size)⟩
  · have hl' : (1048576 : Int) < (l.length : Int) := by omega
    go_enter Try.func7, Try.ntmps7
    go_wp2
    go_ret
    exact ⟨rfl, Below.refl _ _⟩

set_option maxRecDepth 100000 in
theorem lifted (os : Os) (started : os.Started) (H : Type) (enc : TypeId × Value → H) :
    ReturnsInHanded {} Try.checked os 7 .any (Rows.fnLateSlackSpec.pre6 enc Try.prog Try.f7 Rows.fnLateSlackRow.domain false) (Rows.fnLateSlackSpec.post enc Try.prog Try.f7 false true false false) := by
  refine returnsInHanded_of_change (C := Try.checked) own started (by kernel_rfl) Try.func7
    (ChangeSpec.witness6 (enc := enc) (C := Try.checked) false ⟨#[], #[.slice none 0 0], []⟩ 8 (by kernel_rfl) (by kernel_rfl) (by kernel_rfl) (by kernel_rfl)) ?_
  intro W base args ds gs before hval0 hW hcnd _
  have hval : ∀ (j : Nat) t v, Try.f7.params[j]? = some t → args[j]? = some v → Value.okWide Try.prog W .any base t v := hval0
  have hW' := hW
  obtain ⟨p, q, hA0, hV, rfl, hfz, hnd⟩ := hW
  have hA : DataW.TrodAll enc Try.prog W 0 (fun _ => true) true Try.f7.params.toList args.toList ds p := hA0
  rw [Try.params7] at hA hval
  obtain ⟨v0, vs0, d0, ds0, p0, q0, hargs, rfl, rfl, h0, r0⟩ := trodAll_cons hA
  obtain ⟨rfl, rfl, rfl⟩ := trodAll_nil r0
  obtain rfl : args = #[v0] := by cases args; simp_all
  obtain ⟨rfl, rfl⟩ := trodVars_none hV
  obtain ⟨a0, len0, cap0, rfl⟩ := okWide_slice Try.underlying22 (hval 0 22 v0 rfl rfl)
  have k0 := h0
  have lt0 : ∀ x ∈ p0, x.block < W.heap.size := by obtain ⟨m, hm⟩ := k0; exact DataW.trod_lt m _ _ _ hm
  obtain ⟨z0, hv0, hm0⟩ := open_byteS h0 rfl
  clear hA0 hval0
  refine (walk _ z0 W hv0 hm0).mono fun e W' ⟨he, bel⟩ => ?_
  subst he
  exact ⟨_, rfl, _, _, _, [], _, [], hW', trodAll_mk1 (shut_bool Try.underlying4 _), (trodAll_cons_mk (Below.trod laidOut (by kernel_rfl) (of_decide_eq_true (by kernel_rfl)) k0 bel lt0) trodAll_mk0), rfl, bel.frame _, fun h => by cases h⟩

theorem closed : joinedFacts Try.prog 7 Try.f7 Rows.fnLateSlackSpec Rows.fnLateSlackRow = true := by
  delta joinedFacts
  refine and_t (and_t (and_t (and_t (and_t (and_t (and_t ?_ mayE) (liftE rfl)) (makeE rfl)) ?_) ?_) ?_) ?_
  all_goals kernel_rfl
theorem over : Rows.fnLateSlackRow.holds Try.pinned (OpenSpec.ofChange Rows.fnLateSlackSpec) :=
  OpenClaim.holds_of_wide 7 Try.f7 rfl rfl rfl rfl rfl rfl rfl ⟨rfl, rfl, rfl, rfl, rfl⟩ rfl rfl rfl rfl rfl (by kernel_rfl) Try.func7 closed
    (of_decide_eq_true (by kernel_rfl)) (by unfold Func.isWrapper; first | (rw [if_pos (by decide +kernel)]; kernel_rfl) | (rw [if_neg (by decide +kernel)]; exact ⟨rfl, rfl⟩))
    (fun os started H enc _ => lifted os started H enc)

theorem proved : Rows.FnLateSlackSaid := over
#print axioms proved
end Go.Proofs.Ytmphpbjmpokjjab.lawFnLateSlack
