/- The law FnBillStack holds at every input. No condition. -/
import Derived.Test.YtmdcpigobfhckaaOJ
import Derived.Test.YtmdcpigobfhckaaDBS
import Derived.Test.YtmdcpigobfhckaaFLS
import Derived.Test.YtmdcpigobfhckaaFX
import Derived.Test.YtmdcpigobfhckaaFZ
import Derived.Test.YtmdcpigobfhckaaSI
import Derived.Test.YtmdcpigobfhckaaHI
namespace Go.Proofs.Ytmdcpigobfhckaa.lawFnBillStack
open Go.ChangeShapes Go.WideShapes Go.ChangeAt Go.RowKit
set_option linter.unusedVariables false

def SmRel (xs : List Fr) (w : World) (i : Value) (wr : World) : Prop := ∃ k : Nat, k ≤ xs.length ∧ i = .int .i64 k ∧ Below w.heap.size w wr
def SoRel9 (z : Nat) (w : World) (i : Value) (wr : World) : Prop := ∃ k : Nat, 1 ≤ k ∧ k ≤ z + 1 ∧ i = .int .i64 k ∧ Below w.heap.size w wr

@[irreducible] def wpSt (P : Program) (ops : Array Oper) (w : World) (Q : Act → Prop) (l : List Oper) (a : Act) : Prop := wpStill P ops w Q l a
theorem st_yes {P : Program} {ops : Array Oper} {w : World} {Q : Act → Prop} {a : Act} {o : Oper} {rest : List Oper} {d : Tmp} {v : Value} (hd : o.dst = some d) (hw : Region.wanted o (yielded ops a.tmps) = true) (hv : (execOp a.eval o).run P w = .ok (.value v) w)
    (h : wpSt P ops w Q rest (a.put (some d) v)) : wpSt P ops w Q (o :: rest) a := by
  unfold wpSt at *
  refine wpStill_step fun K hK => ?_
  rw [if_pos hw]; unfold Oper.still; rw [hv, Oper.stillUpon_value, hd]; exact hK _ h
theorem st_no {P : Program} {ops : Array Oper} {w : World} {Q : Act → Prop} {a : Act} {o : Oper} {rest : List Oper} {d : Tmp} (hd : o.dst = some d) (hw : Region.wanted o (yielded ops a.tmps) = false)
    (h : wpSt P ops w Q rest (a.put (some d) undef)) : wpSt P ops w Q (o :: rest) a := by
  unfold wpSt at *
  refine wpStill_step fun K hK => ?_
  rw [if_neg (by rw [hw]; simp), hd]; exact hK _ h
theorem st_nil {P : Program} {ops : Array Oper} {w : World} {Q : Act → Prop} {a : Act} (h : Q a) : wpSt P ops w Q [] a := by unfold wpSt; exact h
theorem st_region {P : Program} {id : Nat} {Q : Exit → Act → World → Prop} {a : Act} {w : World} {l : List Oper} (hm : P.follows .mixedOrders = true) (hB : Region.lexB .any l.toArray = true)
    (h : wpSt P l.toArray (w.drewN 1) (fun a' => Q .normal a' (w.drewN 1)) l a) : (Code.region id l.toArray true).wp P Q a w := wp_region_still_lit hm hB (by unfold wpSt at h; exact h)

set_option maxRecDepth 100000 in
set_option maxHeartbeats 4000000 in
theorem walk (v : Value) (l : List Int) (w : World) (hv : BytesIn w v l) (hm : l.length ≤ maxLen) :
    Calls Try.prog 17 #[v] w fun e w' => e = .returned (.bool true) ∧ Below w.heap.size w w' := by
  have Hv := Lib.hid hv
  obtain ⟨av, cv, rfl, hcv, _, _⟩ := hv
  clear hcv
  by_cases hl : l.length ≤ 1048576
  · have hl' : ¬ (1048576 : Int) < (l.length : Int) := by omega
    go_enter Try.func17, Try.ntmps17
    go_wp2_with fail
    refine (drawSt_any _ l _ Hv.out hl).mono ?_; rintro e w1 ⟨n, ad, cap, xs, s, rfl, hn1, hn6, hcap, h12, hown, hb⟩
    have Hx1 := Lib.hid (hown.ins hcap)
    have HB1 := Lib.hid hb
    have hx : xs.length ≤ 1048576 := by omega
    have wn : W64 n := by unfold W64; omega
    clear hown hb
    have H2 := Lib.hid (fun w' (h : FrIn w' (.slice ad xs.length cap) xs) => stack2_any n _ xs s w' h (by omega))
    have H1 := Lib.hid (fun w' (h : FrIn w' (.slice ad xs.length cap) xs) => stack1_any n _ xs s w' wn h hx)
    cases hok : stackOk n xs s with
    | false =>
      rw [stackX_no hok, hok] at H2 H1
      clear hok
      go_wp2_with fail
      refine (H2.out _ Hx1.out).mono ?_; rintro e w2 ⟨ad2, cap2, rfl, hc2, ho2, _, hb2⟩
      have Hx2 := Lib.hid (Hx1.out.below hb2)
      have HB2 := Lib.hid (HB1.out.trans (hb2.mono HB1.out.size))
      have HI2 := Lib.hid (ho2.ints hc2)
      clear hb2 hc2 ho2
      go_wp2_with fail
      refine (H1.out _ Hx2.out).mono ?_; rintro e w3 ⟨ad3, cap3, rfl, hc3, ho3, _, hb3⟩
      have HB3 := Lib.hid (HB2.out.trans (hb3.mono HB2.out.size))
      have HI3 := Lib.hid (HI2.out.below hb3)
      have HJ3 := Lib.hid (ho3.ints hc3)
      clear hb3 hc3 ho3
      go_wp2_with fail
      refine (sameInts_any _ _ [] [] _ HI3.out HJ3.out (by simp)).mono ?_; rintro e w4 ⟨⟨x, rfl, hx4⟩, hb4⟩
      obtain rfl : x = true := hx4.2 rfl
      have HB4 := Lib.hid (HB3.out.trans (hb4.mono HB3.out.size))
      have HI4 := Lib.hid (HI3.out.below hb4)
      have HJ4 := Lib.hid (HJ3.out.below hb4)
      clear hb4 hx4
      go_wp2_with fail
      refine (sameInts_any _ _ [] [] _ HI4.out HJ4.out (by simp)).mono ?_; rintro e w5 ⟨⟨x, rfl, hx5⟩, hb5⟩
      obtain rfl : x = true := hx5.2 rfl
      have HB5 := Lib.hid (HB4.out.trans (hb5.mono HB4.out.size))
      clear hb5 hx5
      go_wp2
      go_ret
      exact ⟨rfl, HB5.out⟩
    | true =>
      have hok2 := hok
      simp only [stackOk, Bool.and_eq_true, decide_eq_true_eq] at hok2
      obtain ⟨hvd, hs0, hsn⟩ := hok2
      obtain ⟨S, rfl⟩ : ∃ S : Nat, s = S := ⟨s.toNat, by omega⟩
      have ho := valid_ok hvd
      have hl12 := (headF_iff.1 (valid_head hvd)).2
      have Hmem := Lib.hid (fun i => run_mem ho (S := S) (i := i))
      have Hord := Lib.hid (fun k => sorted_at (run_sorted ho (S + 1)) (k := k))
      have Hokk := Lib.hid (fun i hi => (okF_iff.1 (okFs_at ho (j := i) hi)).1)
      have hz96 := run_len hl12 (S + 1)
      have hx2 : stackX n xs (S : Int) = castS (runF xs (S + 1)).1 := by unfold stackX; rw [if_pos hok, Int.toNat_natCast]; rfl
      rw [hx2, hok] at H2 H1
      clear hok hvd ho hx2
      generalize (runF xs (S + 1)).1 = st at *
      obtain ⟨z, hz⟩ : ∃ z, st.length = z := ⟨_, rfl⟩
      rw [hz] at hz96
      have hrl : (castS st).length = z := by rw [castS_len]; exact hz
      have Hz := Lib.hid hz
      clear hz
      go_wp2_with fail
      refine (H2.out _ Hx1.out).mono ?_; rintro e w2 ⟨ad2, cap2, rfl, hc2, ho2, _, hb2⟩
      rw [hrl] at hc2 ⊢
      have Hx2 := Lib.hid (Hx1.out.below hb2)
      have HB2 := Lib.hid (HB1.out.trans (hb2.mono HB1.out.size))
      have HI2 := Lib.hid (show IntsIn w2 (.slice ad2 z cap2) (castS st) by have h := ho2.ints (cap := cap2) (by rw [hrl]; exact hc2); rw [hrl] at h; exact h)
      have HO2 := Lib.hid ho2
      clear hb2 hc2 ho2
      go_wp2_with fail
      refine (H1.out _ Hx2.out).mono ?_; rintro e w3 ⟨ad3, cap3, rfl, hc3, ho3, _, hb3⟩
      rw [hrl] at hc3 ⊢
      have Hx3 := Lib.hid (Hx2.out.below hb3)
      have HB3 := Lib.hid (HB2.out.trans (hb3.mono HB2.out.size))
      have HI3 := Lib.hid (HI2.out.below hb3)
      have HO3 := Lib.hid (HO2.out.below hb3)
      have HJ3 := Lib.hid (show IntsIn w3 (.slice ad3 z cap3) (castS st) by have h := ho3.ints (cap := cap3) (by rw [hrl]; exact hc3); rw [hrl] at h; exact h)
      clear hb3 hc3 ho3
      go_wp2_with fail
      refine (sameInts_any _ _ (castS st) (castS st) _ HI3.out HJ3.out (by omega)).mono ?_; rintro e w4 ⟨⟨x, rfl, hx4⟩, hb4⟩
      obtain rfl : x = true := hx4.2 rfl
      have HB4 := Lib.hid (HB3.out.trans (hb4.mono HB3.out.size))
      have Hx4 := Lib.hid (Hx3.out.below hb4)
      have HO4 := Lib.hid (HO3.out.below hb4)
      have HI4 := Lib.hid (HI3.out.below hb4)
      clear hb4 hx4 HI2 HI3 HJ3 HO2 HO3 H1 H2
      go_wp2
      go_loopw [10] (fun i wr => SmRel xs w4 i wr) (fun i _ => xs.length - (intOf i).toNat)
      case atStart => exact ⟨0, Nat.zero_le _, rfl, Below.refl _ _⟩
      case round =>
        obtain ⟨k, hk, rfl, hb⟩ := hrel
        have HB := Lib.hid hb
        by_cases hkl : k < xs.length
        · have hk' : (k : Int) < (xs.length : Int) := by omega
          have hk0 : (0 : Int) ≤ (k : Int) := Int.natCast_nonneg _
          have hX := Hx4.out.below hb
          have hHI := Lib.hid (fun m => hasInt_any (.slice ad2 z cap2) (castS st) k (wr.drewN m) ((HI4.out.below hb).below ((Below.refl _ _).drewN m)) (by omega))
          obtain ⟨_, _, he, _, ha⟩ := hX
          cases he
          obtain ⟨b, o, rfl, hb0, hrw⟩ := ha (by intro h; simp [h] at hkl)
          obtain ⟨c0, c1, c2⟩ := hrw k hkl
          have hmm : decide ((k : Int) ∈ castS st) = (decide ((xs.getD k fr0).a ≤ S) && decide ((S : Int) < (xs.getD k fr0).b)) := by
            rw [Bool.eq_iff_iff, Bool.and_eq_true, decide_eq_true_eq, decide_eq_true_eq, decide_eq_true_eq, castS_mem, Hmem.out]
            constructor
            · rintro ⟨_, h⟩; exact h
            · intro h; exact ⟨hkl, h⟩
          rw [hmm] at hHI
          clear hrw ha hb hmm
          generalize (xs.getD k fr0).a = xa at *
          generalize (xs.getD k fr0).b = xb at *
          generalize (xs.getD k fr0).m = xm at *
          by_cases h1 : xa ≤ (S : Int)
          · rw [decide_eq_true h1, Bool.true_and] at hHI
            obtain ⟨d, hd⟩ : ∃ d, decide ((S : Int) < xb) = d := ⟨_, rfl⟩
            rw [hd] at hHI
            have hdd : (d != d) = false := by simp
            go_wp2
            go_quiet ((go_at_call 66; exact Calls.hush (hHI.out _)))
            go_wp2
            exact ⟨⟨k + 1, hkl, by go_num, HB.out.drewN _⟩, by simp [intOf]; omega⟩
          · have hd1 : decide (xa ≤ (S : Int)) = false := by simpa using h1
            rw [hd1, Bool.false_and] at hHI
            go_wp2
            go_quiet ((go_at_call 66; exact Calls.hush (hHI.out _)))
            go_wp2
            exact ⟨⟨k + 1, hkl, by go_num, HB.out.drewN _⟩, by simp [intOf]; omega⟩
        · obtain rfl : k = xs.length := by omega
          clear hb
          go_wp2
          go_loopw [11] (fun i wr => SoRel9 z w4 i wr) (fun i _ => z + 1 - (intOf i).toNat)
          case atStart => exact ⟨1, Nat.le_refl _, by omega, rfl, HB.out⟩
          case round =>
            clear HB
            obtain ⟨k, hk1, hk, rfl, hb⟩ := hrel
            have HB := Lib.hid hb
            by_cases hkz : k < z
            · obtain ⟨j, rfl⟩ : ∃ j, k = j + 1 := ⟨k - 1, by omega⟩
              have hzl := Hz.out
              have hO := HO4.out.below hb
              obtain ⟨b2, rfl, hb20, hat, _⟩ := hO (by intro h; rw [h] at hrl; simp at hrl; omega)
              have y0 := hat j (by omega)
              have y1 := hat (j + 1) (by omega)
              rw [castS_at (by omega)] at y0 y1
              simp only [Nat.zero_add] at y0 y1
              have hp := (Hmem.out _).1 (getD_mem (st := st) (k := j) (by omega))
              have hq := (Hmem.out _).1 (getD_mem (st := st) (k := j + 1) (by omega))
              have hord := Hord.out j (by omega)
              unfold befS at hord
              generalize st.getD j 0 = p at *
              generalize st.getD (j + 1) 0 = q at *
              have hX := Hx4.out.below hb
              obtain ⟨_, _, he, _, ha⟩ := hX
              cases he
              obtain ⟨b, o, rfl, hb0, hrw⟩ := ha (by intro h; rw [h] at hp; simp at hp)
              obtain ⟨c0, c1, c2⟩ := hrw p hp.1
              obtain ⟨d0, d1, d2⟩ := hrw q hq.1
              have hpi : (p : Int) < (xs.length : Int) := by omega
              have hqi : (q : Int) < (xs.length : Int) := by omega
              have hp0 : (0 : Int) ≤ (p : Int) := Int.natCast_nonneg _
              have hq0 : (0 : Int) ≤ (q : Int) := Int.natCast_nonneg _
              have hj0 : (0 : Int) ≤ (j : Int) := Int.natCast_nonneg _
              have hjz : (j : Int) + 1 < (z : Int) := by omega
              have hjz0 : (j : Int) < (z : Int) := by omega
              have hsz := HB.out.size
              clear hrw ha hb hat hO hp hq
              generalize (xs.getD p fr0).a = pa at *
              generalize (xs.getD p fr0).b = pb at *
              generalize (xs.getD p fr0).m = pm at *
              generalize (xs.getD q fr0).a = qa at *
              generalize (xs.getD q fr0).b = qb at *
              generalize (xs.getD q fr0).m = qm at *
              have HB2 := Lib.hid ((HB.out.alloc hsz (.cells #[.int .i64 pa, .int .i64 pb, .int .i64 pm] 41)).alloc (by simp; omega) (.cells #[.int .i64 qa, .int .i64 qb, .int .i64 qm] 41))
              have g0 : ((wr.alloc (.cells #[.int .i64 pa, .int .i64 pb, .int .i64 pm] 41)).alloc (.cells #[.int .i64 qa, .int .i64 qb, .int .i64 qm] 41)).cell? ⟨wr.heap.size, 0, none⟩ = some (.int .i64 pa) := by go_simp
              have g1 : ((wr.alloc (.cells #[.int .i64 pa, .int .i64 pb, .int .i64 pm] 41)).alloc (.cells #[.int .i64 qa, .int .i64 qb, .int .i64 qm] 41)).cell? ⟨wr.heap.size + 1, 0, none⟩ = some (.int .i64 qa) := by go_simp
              have g2 : ((wr.alloc (.cells #[.int .i64 pa, .int .i64 pb, .int .i64 pm] 41)).alloc (.cells #[.int .i64 qa, .int .i64 qb, .int .i64 qm] 41)).cell? ⟨b2, j, none⟩ = some (.int .i64 p) := by go_simp
              have g3 : ((wr.alloc (.cells #[.int .i64 pa, .int .i64 pb, .int .i64 pm] 41)).alloc (.cells #[.int .i64 qa, .int .i64 qb, .int .i64 qm] 41)).cell? ⟨b2, j + 1, none⟩ = some (.int .i64 q) := by go_simp
              by_cases h1 : pa < qa
              · have e1 : ¬ qa < pa := by omega
                have e2 : (pa == qa) = false := by simp; omega
                go_wp2
                generalize (wr.alloc (.cells #[.int .i64 pa, .int .i64 pb, .int .i64 pm] 41)).alloc (.cells #[.int .i64 qa, .int .i64 qb, .int .i64 qm] 41) = w0 at *
                have HB3 := Lib.hid (HB2.out.drewN 1)
                have k0 : (w0.drewN 1).cell? ⟨wr.heap.size, 0, none⟩ = some (.int .i64 pa) := g0
                have k1 : (w0.drewN 1).cell? ⟨wr.heap.size + 1, 0, none⟩ = some (.int .i64 qa) := g1
                have k2 : (w0.drewN 1).cell? ⟨b2, j, none⟩ = some (.int .i64 (p : Int)) := g2
                have k3 : (w0.drewN 1).cell? ⟨b2, j + 1, none⟩ = some (.int .i64 (q : Int)) := g3
                clear g0 g1 g2 g3
                refine st_region (by kernel_rfl) (by kernel_rfl) ?_
                generalize w0.drewN 1 = wd at *
                refine st_yes (d := 105) (v := (.pointer (some ⟨wr.heap.size, 0, none⟩))) rfl (by rfl) (by first | (go_simp; done) | rfl | (go_simp; omega) | (go_simp; congr 3; omega) | (go_simp; go_num) | go_simp) ?_
                simp only [Act.put, List.setIfInBounds_toArray, List.set_cons_zero, List.set_cons_succ]
                refine st_yes (d := 106) (v := (.int .i64 pa)) rfl (by rfl) (by first | (go_simp; done) | rfl | (go_simp; omega) | (go_simp; congr 3; omega) | (go_simp; go_num) | go_simp) ?_
                simp only [Act.put, List.setIfInBounds_toArray, List.set_cons_zero, List.set_cons_succ]
                refine st_yes (d := 107) (v := (.pointer (some ⟨(wr.heap.size + 1), 0, none⟩))) rfl (by rfl) (by first | (go_simp; done) | rfl | (go_simp; omega) | (go_simp; congr 3; omega) | (go_simp; go_num) | go_simp) ?_
                simp only [Act.put, List.setIfInBounds_toArray, List.set_cons_zero, List.set_cons_succ]
                refine st_yes (d := 108) (v := (.int .i64 qa)) rfl (by rfl) (by first | (go_simp; done) | rfl | (go_simp; omega) | (go_simp; congr 3; omega) | (go_simp; go_num) | go_simp) ?_
                simp only [Act.put, List.setIfInBounds_toArray, List.set_cons_zero, List.set_cons_succ]
                refine st_yes (d := 109) (v := (.bool false)) rfl (by rfl) (by first | (go_simp; done) | rfl | (go_simp; omega) | (go_simp; congr 3; omega) | (go_simp; go_num) | go_simp) ?_
                simp only [Act.put, List.setIfInBounds_toArray, List.set_cons_zero, List.set_cons_succ]
                refine st_yes (d := 110) (v := (.bool false)) rfl (by rfl) (by first | (go_simp; done) | rfl | (go_simp; omega) | (go_simp; congr 3; omega) | (go_simp; go_num) | go_simp) ?_
                simp only [Act.put, List.setIfInBounds_toArray, List.set_cons_zero, List.set_cons_succ]
                refine st_yes (d := 111) (v := (.pointer (some ⟨wr.heap.size, 0, none⟩))) rfl (by rfl) (by first | (go_simp; done) | rfl | (go_simp; omega) | (go_simp; congr 3; omega) | (go_simp; go_num) | go_simp) ?_
                simp only [Act.put, List.setIfInBounds_toArray, List.set_cons_zero, List.set_cons_succ]
                refine st_yes (d := 112) (v := (.int .i64 pa)) rfl (by rfl) (by first | (go_simp; done) | rfl | (go_simp; omega) | (go_simp; congr 3; omega) | (go_simp; go_num) | go_simp) ?_
                simp only [Act.put, List.setIfInBounds_toArray, List.set_cons_zero, List.set_cons_succ]
                refine st_yes (d := 113) (v := (.pointer (some ⟨(wr.heap.size + 1), 0, none⟩))) rfl (by rfl) (by first | (go_simp; done) | rfl | (go_simp; omega) | (go_simp; congr 3; omega) | (go_simp; go_num) | go_simp) ?_
                simp only [Act.put, List.setIfInBounds_toArray, List.set_cons_zero, List.set_cons_succ]
                refine st_yes (d := 114) (v := (.int .i64 qa)) rfl (by rfl) (by first | (go_simp; done) | rfl | (go_simp; omega) | (go_simp; congr 3; omega) | (go_simp; go_num) | go_simp) ?_
                simp only [Act.put, List.setIfInBounds_toArray, List.set_cons_zero, List.set_cons_succ]
                refine st_yes (d := 115) (v := (.bool false)) rfl (by rfl) (by first | (go_simp; done) | rfl | (go_simp; omega) | (go_simp; congr 3; omega) | (go_simp; go_num) | go_simp) ?_
                simp only [Act.put, List.setIfInBounds_toArray, List.set_cons_zero, List.set_cons_succ]
                refine st_yes (d := 116) (v := (.bool false)) rfl (by rfl) (by first | (go_simp; done) | rfl | (go_simp; omega) | (go_simp; congr 3; omega) | (go_simp; go_num) | go_simp) ?_
                simp only [Act.put, List.setIfInBounds_toArray, List.set_cons_zero, List.set_cons_succ]
                refine st_no (d := 117) rfl (by first | rfl | (simp [Region.wanted, yielded]; done)) ?_
                simp only [Act.put, List.setIfInBounds_toArray, List.set_cons_zero, List.set_cons_succ]
                refine st_no (d := 118) rfl (by first | rfl | (simp [Region.wanted, yielded]; done)) ?_
                simp only [Act.put, List.setIfInBounds_toArray, List.set_cons_zero, List.set_cons_succ]
                refine st_no (d := 119) rfl (by first | rfl | (simp [Region.wanted, yielded]; done)) ?_
                simp only [Act.put, List.setIfInBounds_toArray, List.set_cons_zero, List.set_cons_succ]
                refine st_no (d := 120) rfl (by first | rfl | (simp [Region.wanted, yielded]; done)) ?_
                simp only [Act.put, List.setIfInBounds_toArray, List.set_cons_zero, List.set_cons_succ]
                refine st_no (d := 121) rfl (by first | rfl | (simp [Region.wanted, yielded]; done)) ?_
                simp only [Act.put, List.setIfInBounds_toArray, List.set_cons_zero, List.set_cons_succ]
                refine st_no (d := 122) rfl (by first | rfl | (simp [Region.wanted, yielded]; done)) ?_
                simp only [Act.put, List.setIfInBounds_toArray, List.set_cons_zero, List.set_cons_succ]
                refine st_no (d := 123) rfl (by first | rfl | (simp [Region.wanted, yielded]; done)) ?_
                simp only [Act.put, List.setIfInBounds_toArray, List.set_cons_zero, List.set_cons_succ]
                refine st_no (d := 124) rfl (by first | rfl | (simp [Region.wanted, yielded]; done)) ?_
                simp only [Act.put, List.setIfInBounds_toArray, List.set_cons_zero, List.set_cons_succ]
                refine st_no (d := 125) rfl (by first | rfl | (simp [Region.wanted, yielded]; done)) ?_
                simp only [Act.put, List.setIfInBounds_toArray, List.set_cons_zero, List.set_cons_succ]
                refine st_no (d := 126) rfl (by first | rfl | (simp [Region.wanted, yielded]; done)) ?_
                simp only [Act.put, List.setIfInBounds_toArray, List.set_cons_zero, List.set_cons_succ]
                refine st_yes (d := 127) (v := (.bool false)) rfl (by rfl) (by first | (go_simp; done) | rfl | (go_simp; omega) | (go_simp; congr 3; omega) | (go_simp; go_num) | go_simp) ?_
                simp only [Act.put, List.setIfInBounds_toArray, List.set_cons_zero, List.set_cons_succ]
                refine st_yes (d := 128) (v := (.bool false)) rfl (by rfl) (by first | (go_simp; done) | rfl | (go_simp; omega) | (go_simp; congr 3; omega) | (go_simp; go_num) | go_simp) ?_
                simp only [Act.put, List.setIfInBounds_toArray, List.set_cons_zero, List.set_cons_succ]
                refine st_nil ?_
                go_wp2
                exact ⟨⟨j + 1 + 1, by omega, by omega, by go_num, HB3.out⟩, by simp [intOf]; omega⟩
              · obtain ⟨rfl, h2⟩ : pa = qa ∧ p < q := by omega
                have e1 : ¬ pa < pa := by omega
                have e2 : (pa == pa) = true := by simp
                have e3 : ¬ (q : Int) ≤ (p : Int) := by omega
                go_wp2
                generalize (wr.alloc (.cells #[.int .i64 pa, .int .i64 pb, .int .i64 pm] 41)).alloc (.cells #[.int .i64 pa, .int .i64 qb, .int .i64 qm] 41) = w0 at *
                have HB3 := Lib.hid (HB2.out.drewN 1)
                have k0 : (w0.drewN 1).cell? ⟨wr.heap.size, 0, none⟩ = some (.int .i64 pa) := g0
                have k1 : (w0.drewN 1).cell? ⟨wr.heap.size + 1, 0, none⟩ = some (.int .i64 pa) := g1
                have k2 : (w0.drewN 1).cell? ⟨b2, j, none⟩ = some (.int .i64 (p : Int)) := g2
                have k3 : (w0.drewN 1).cell? ⟨b2, j + 1, none⟩ = some (.int .i64 (q : Int)) := g3
                clear g0 g1 g2 g3
                refine st_region (by kernel_rfl) (by kernel_rfl) ?_
                generalize w0.drewN 1 = wd at *
                refine st_yes (d := 105) (v := (.pointer (some ⟨wr.heap.size, 0, none⟩))) rfl (by rfl) (by first | (go_simp; done) | rfl | (go_simp; omega) | (go_simp; congr 3; omega) | (go_simp; go_num) | go_simp) ?_
                simp only [Act.put, List.setIfInBounds_toArray, List.set_cons_zero, List.set_cons_succ]
                refine st_yes (d := 106) (v := (.int .i64 pa)) rfl (by rfl) (by first | (go_simp; done) | rfl | (go_simp; omega) | (go_simp; congr 3; omega) | (go_simp; go_num) | go_simp) ?_
                simp only [Act.put, List.setIfInBounds_toArray, List.set_cons_zero, List.set_cons_succ]
                refine st_yes (d := 107) (v := (.pointer (some ⟨(wr.heap.size + 1), 0, none⟩))) rfl (by rfl) (by first | (go_simp; done) | rfl | (go_simp; omega) | (go_simp; congr 3; omega) | (go_simp; go_num) | go_simp) ?_
                simp only [Act.put, List.setIfInBounds_toArray, List.set_cons_zero, List.set_cons_succ]
                refine st_yes (d := 108) (v := (.int .i64 pa)) rfl (by rfl) (by first | (go_simp; done) | rfl | (go_simp; omega) | (go_simp; congr 3; omega) | (go_simp; go_num) | go_simp) ?_
                simp only [Act.put, List.setIfInBounds_toArray, List.set_cons_zero, List.set_cons_succ]
                refine st_yes (d := 109) (v := (.bool false)) rfl (by rfl) (by first | (go_simp; done) | rfl | (go_simp; omega) | (go_simp; congr 3; omega) | (go_simp; go_num) | go_simp) ?_
                simp only [Act.put, List.setIfInBounds_toArray, List.set_cons_zero, List.set_cons_succ]
                refine st_yes (d := 110) (v := (.bool false)) rfl (by rfl) (by first | (go_simp; done) | rfl | (go_simp; omega) | (go_simp; congr 3; omega) | (go_simp; go_num) | go_simp) ?_
                simp only [Act.put, List.setIfInBounds_toArray, List.set_cons_zero, List.set_cons_succ]
                refine st_yes (d := 111) (v := (.pointer (some ⟨wr.heap.size, 0, none⟩))) rfl (by rfl) (by first | (go_simp; done) | rfl | (go_simp; omega) | (go_simp; congr 3; omega) | (go_simp; go_num) | go_simp) ?_
                simp only [Act.put, List.setIfInBounds_toArray, List.set_cons_zero, List.set_cons_succ]
                refine st_yes (d := 112) (v := (.int .i64 pa)) rfl (by rfl) (by first | (go_simp; done) | rfl | (go_simp; omega) | (go_simp; congr 3; omega) | (go_simp; go_num) | go_simp) ?_
                simp only [Act.put, List.setIfInBounds_toArray, List.set_cons_zero, List.set_cons_succ]
                refine st_yes (d := 113) (v := (.pointer (some ⟨(wr.heap.size + 1), 0, none⟩))) rfl (by rfl) (by first | (go_simp; done) | rfl | (go_simp; omega) | (go_simp; congr 3; omega) | (go_simp; go_num) | go_simp) ?_
                simp only [Act.put, List.setIfInBounds_toArray, List.set_cons_zero, List.set_cons_succ]
                refine st_yes (d := 114) (v := (.int .i64 pa)) rfl (by rfl) (by first | (go_simp; done) | rfl | (go_simp; omega) | (go_simp; congr 3; omega) | (go_simp; go_num) | go_simp) ?_
                simp only [Act.put, List.setIfInBounds_toArray, List.set_cons_zero, List.set_cons_succ]
                refine st_yes (d := 115) (v := (.bool true)) rfl (by rfl) (by first | (go_simp; done) | rfl | (go_simp; omega) | (go_simp; congr 3; omega) | (go_simp; go_num) | go_simp) ?_
                simp only [Act.put, List.setIfInBounds_toArray, List.set_cons_zero, List.set_cons_succ]
                refine st_yes (d := 116) (v := (.bool true)) rfl (by rfl) (by first | (go_simp; done) | rfl | (go_simp; omega) | (go_simp; congr 3; omega) | (go_simp; go_num) | go_simp) ?_
                simp only [Act.put, List.setIfInBounds_toArray, List.set_cons_zero, List.set_cons_succ]
                have t1 : ((j : Int) + 1).toNat = j + 1 := by omega
                have t2 : (j : Int) + 1 - 1 = (j : Int) := by omega
                have t3 : (0 : Int) ≤ (j : Int) + 1 := by omega
                have t4 : IntKind.i64.wrap (j : Int) = (j : Int) := IntWalk.i64_in _ (by omega)
                refine st_yes (d := 117) (v := (.slice (some ⟨b2, 0, none⟩) z cap2)) rfl (by rfl) (by first | (go_simp; done) | rfl | (go_simp; omega) | (go_simp; congr 3; omega) | (go_simp; go_num) | go_simp) ?_
                simp only [Act.put, List.setIfInBounds_toArray, List.set_cons_zero, List.set_cons_succ]
                refine st_yes (d := 118) (v := (.int .i64 ((j : Int) + 1))) rfl (by rfl) (by first | (go_simp; done) | rfl | (go_simp; omega) | (go_simp; congr 3; omega) | (go_simp; go_num) | go_simp) ?_
                simp only [Act.put, List.setIfInBounds_toArray, List.set_cons_zero, List.set_cons_succ]
                refine st_yes (d := 119) (v := (.int .i64 (j : Int))) rfl (by rfl) (by first | (go_simp; done) | rfl | (go_simp; omega) | (go_simp; congr 3; omega) | (go_simp; go_num) | go_simp) ?_
                simp only [Act.put, List.setIfInBounds_toArray, List.set_cons_zero, List.set_cons_succ]
                refine st_yes (d := 120) (v := (.pointer (some ⟨b2, j, none⟩))) rfl (by rfl) (by first | (go_simp; done) | rfl | (go_simp; omega) | (go_simp; congr 3; omega) | (go_simp; go_num) | go_simp) ?_
                simp only [Act.put, List.setIfInBounds_toArray, List.set_cons_zero, List.set_cons_succ]
                refine st_yes (d := 121) (v := (.int .i64 (p : Int))) rfl (by rfl) (by first | (go_simp; done) | rfl | (go_simp; omega) | (go_simp; congr 3; omega) | (go_simp; go_num) | go_simp) ?_
                simp only [Act.put, List.setIfInBounds_toArray, List.set_cons_zero, List.set_cons_succ]
                refine st_yes (d := 122) (v := (.slice (some ⟨b2, 0, none⟩) z cap2)) rfl (by rfl) (by first | (go_simp; done) | rfl | (go_simp; omega) | (go_simp; congr 3; omega) | (go_simp; go_num) | go_simp) ?_
                simp only [Act.put, List.setIfInBounds_toArray, List.set_cons_zero, List.set_cons_succ]
                refine st_yes (d := 123) (v := (.int .i64 ((j : Int) + 1))) rfl (by rfl) (by first | (go_simp; done) | rfl | (go_simp; omega) | (go_simp; congr 3; omega) | (go_simp; go_num) | go_simp) ?_
                simp only [Act.put, List.setIfInBounds_toArray, List.set_cons_zero, List.set_cons_succ]
                refine st_yes (d := 124) (v := (.pointer (some ⟨b2, (j + 1), none⟩))) rfl (by rfl) (by first | (go_simp; done) | rfl | (go_simp; omega) | (go_simp; congr 3; omega) | (go_simp; go_num) | go_simp) ?_
                simp only [Act.put, List.setIfInBounds_toArray, List.set_cons_zero, List.set_cons_succ]
                refine st_yes (d := 125) (v := (.int .i64 (q : Int))) rfl (by rfl) (by first | (go_simp; done) | rfl | (go_simp; omega) | (go_simp; congr 3; omega) | (go_simp; go_num) | go_simp) ?_
                simp only [Act.put, List.setIfInBounds_toArray, List.set_cons_zero, List.set_cons_succ]
                refine st_yes (d := 126) (v := (.bool false)) rfl (by rfl) (by first | (go_simp; done) | rfl | (go_simp; omega) | (go_simp; congr 3; omega) | (go_simp; go_num) | go_simp) ?_
                simp only [Act.put, List.setIfInBounds_toArray, List.set_cons_zero, List.set_cons_succ]
                refine st_yes (d := 127) (v := (.bool false)) rfl (by rfl) (by first | (go_simp; done) | rfl | (go_simp; omega) | (go_simp; congr 3; omega) | (go_simp; go_num) | go_simp) ?_
                simp only [Act.put, List.setIfInBounds_toArray, List.set_cons_zero, List.set_cons_succ]
                refine st_yes (d := 128) (v := (.bool false)) rfl (by rfl) (by first | (go_simp; done) | rfl | (go_simp; omega) | (go_simp; congr 3; omega) | (go_simp; go_num) | go_simp) ?_
                simp only [Act.put, List.setIfInBounds_toArray, List.set_cons_zero, List.set_cons_succ]
                refine st_nil ?_
                go_wp2
                exact ⟨⟨j + 1 + 1, by omega, by omega, by go_num, HB3.out⟩, by simp [intOf]; omega⟩
            · have hkz' : ¬ (k : Int) < (z : Int) := by omega
              have HBf := Lib.hid (HB4.out.trans (HB.out.mono HB4.out.size))
              by_cases hSn : (S : Int) < n
              · go_wp2
                go_ret
                exact ⟨rfl, HBf.out⟩
              · have hz0 : z = 0 := by
                  rcases Nat.eq_zero_or_pos z with h | h
                  · exact h
                  · have hzl := Hz.out
                    have h1 := (Hmem.out _).1 (getD_mem (st := st) (k := 0) (by omega))
                    have h2 := Hokk.out _ h1.1
                    omega
                have Hz0 := Lib.hid hz0
                have hd1 : decide ((S : Int) < n) = false := by simpa using hSn
                subst hz0
                go_wp2
                go_ret
                exact ⟨rfl, HBf.out⟩
  · have hl' : (1048576 : Int) < (l.length : Int) := by omega
    go_enter Try.func17, Try.ntmps17
    go_wp2
    go_ret
    exact ⟨rfl, Below.refl _ _⟩

set_option maxRecDepth 100000 in
theorem lifted (os : Os) (started : os.Started) (H : Type) (enc : TypeId × Value → H) :
    ReturnsInHanded {} Try.checked os 17 .any (Rows.fnBillStackSpec.pre6 enc Try.prog Try.f17 Rows.fnBillStackRow.domain false) (Rows.fnBillStackSpec.post enc Try.prog Try.f17 false true false false) := by
  refine returnsInHanded_of_change (C := Try.checked) own started (by kernel_rfl) Try.func17
    (ChangeSpec.witness6 (enc := enc) (C := Try.checked) false ⟨#[], #[.slice none 0 0], []⟩ 8 (by kernel_rfl) (by kernel_rfl) (by kernel_rfl) (by kernel_rfl)) ?_
  intro W base args ds gs before hval0 hW hcnd _
  have hval : ∀ (j : Nat) t v, Try.f17.params[j]? = some t → args[j]? = some v → Value.okWide Try.prog W .any base t v := hval0
  have hW' := hW
  obtain ⟨p, q, hA0, hV, rfl, hfz, hnd⟩ := hW
  have hA : DataW.TrodAll enc Try.prog W 0 (fun _ => true) true Try.f17.params.toList args.toList ds p := hA0
  rw [Try.params17] at hA hval
  obtain ⟨v0, vs0, d0, ds0, p0, q0, hargs, rfl, rfl, h0, r0⟩ := trodAll_cons hA
  obtain ⟨rfl, rfl, rfl⟩ := trodAll_nil r0
  obtain rfl : args = #[v0] := by cases args; simp_all
  obtain ⟨rfl, rfl⟩ := trodVars_none hV
  obtain ⟨a0, len0, cap0, rfl⟩ := okWide_slice Try.underlying64 (hval 0 64 v0 rfl rfl)
  have k0 := h0
  have lt0 : ∀ x ∈ p0, x.block < W.heap.size := by obtain ⟨m, hm⟩ := k0; exact DataW.trod_lt m _ _ _ hm
  obtain ⟨z0, hv0, hm0⟩ := open_byteS h0 rfl
  clear hA0 hval0
  refine (walk _ z0 W hv0 hm0).mono fun e W' ⟨he, bel⟩ => ?_
  subst he
  exact ⟨_, rfl, _, _, _, [], _, [], hW', trodAll_mk1 (shut_bool Try.underlying4 _), (trodAll_cons_mk (Below.trod laidOut (by kernel_rfl) (of_decide_eq_true (by kernel_rfl)) k0 bel lt0) trodAll_mk0), rfl, bel.frame _, fun h => by cases h⟩

theorem closed : joinedFacts Try.prog 17 Try.f17 Rows.fnBillStackSpec Rows.fnBillStackRow = true := by
  delta joinedFacts
  refine and_t (and_t (and_t (and_t (and_t (and_t (and_t ?_ mayE) (liftE rfl)) (makeE rfl)) ?_) ?_) ?_) ?_
  all_goals kernel_rfl
theorem over : Rows.fnBillStackRow.holds Try.pinned (OpenSpec.ofChange Rows.fnBillStackSpec) :=
  OpenClaim.holds_of_wide 17 Try.f17 rfl rfl rfl rfl rfl rfl rfl ⟨rfl, rfl, rfl, rfl, rfl⟩ rfl rfl rfl rfl rfl (by kernel_rfl) Try.func17 closed
    (of_decide_eq_true (by kernel_rfl)) (by unfold Func.isWrapper; first | (rw [if_pos (by decide +kernel)]; kernel_rfl) | (rw [if_neg (by decide +kernel)]; exact ⟨rfl, rfl⟩))
    (fun os started H enc _ => lifted os started H enc)

theorem proved : Rows.FnBillStackSaid := over
#print axioms proved
end Go.Proofs.Ytmdcpigobfhckaa.lawFnBillStack
