/- The law FnSeatsBest holds at every input. No condition. -/
import Derived.Test.YtlkhgnglblgldaaDBG
import Derived.Test.YtlkhgnglblgldaaEBF
import Derived.Test.YtlkhgnglblgldaaEXC
import Derived.Test.YtlkhgnglblgldaaEXD
import Derived.Test.YtlkhgnglblgldaaSI
import Derived.Test.YtlkhgnglblgldaaHI
namespace Go.Proofs.Ytlkhgnglblgldaa.lawFnSeatsBest
open Go.ChangeShapes Go.WideShapes Go.ChangeAt Go.RowKit
set_option linter.unusedVariables false

def meetB (xs : List Bk) (i j : Nat) : Bool := decide ((xs.getD i bk0).a < (xs.getD j bk0).b) && decide ((xs.getD j bk0).a < (xs.getD i bk0).b)
theorem meetB_iff {xs : List Bk} {i j : Nat} : meetB xs i j = true ↔ meetE xs i j := by simp [meetB, meetE]
def hitTo (xs : List Bk) (rs : List Int) (i k : Nat) : Bool := (List.range k).any fun j => meetB xs i (rs.getD j 0).toNat
theorem hitTo_succ (xs : List Bk) (rs : List Int) (i k : Nat) : hitTo xs rs i (k + 1) = (hitTo xs rs i k || meetB xs i (rs.getD k 0).toNat) := by
  simp [hitTo, List.range_succ]
theorem hitTo_yes {xs : List Bk} {rs : List Int} {i k j m : Nat} (hk : k < m) (h : rs.getD k 0 = (j : Int)) (hm : meetE xs i j) : hitTo xs rs i m = true := by
  simp only [hitTo, List.any_eq_true, List.mem_range]
  exact ⟨k, hk, by rw [h, Int.toNat_natCast]; exact meetB_iff.2 hm⟩
def SbO (xs : List Bk) (w : World) (iv : Value) (wr : World) : Prop := ∃ i : Nat, i ≤ xs.length ∧ iv = .int .i64 i ∧ Below w.heap.size w wr
def SbI (xs : List Bk) (rs : List Int) (i : Nat) (w : World) (hv kv : Value) (wr : World) : Prop :=
  ∃ k : Nat, k ≤ rs.length ∧ kv = .int .i64 k ∧ hv = .bool (hitTo xs rs i k) ∧ Below w.heap.size w wr

set_option maxRecDepth 100000 in
set_option maxHeartbeats 2000000 in
theorem walk (v : Value) (l : List Int) (w : World) (hv : BytesIn w v l) (hm : l.length ≤ maxLen) :
    Calls Try.prog 3 #[v] w fun e w' => e = .returned (.bool true) ∧ Below w.heap.size w w' := by
  have Hv := Lib.hid hv
  obtain ⟨av, cv, rfl, hcv, _, _⟩ := hv
  clear hcv
  by_cases hl : l.length ≤ 1048576
  · have hl' : ¬ (1048576 : Int) < (l.length : Int) := by omega
    go_enter Try.func3, Try.ntmps3
    go_wp2_with fail
    refine (drawBest_any _ l _ Hv.out hl).mono ?_; rintro e w1 ⟨n, ad, cap, xs, rfl, hn1, hn6, hcap, h12, hown, hb⟩
    have Hx1 := Lib.hid (hown.ins hcap)
    have HB1 := Lib.hid hb
    have hx : xs.length ≤ 1048576 := by omega
    have wn : W64 n := by unfold W64; omega
    clear hown hb
    have H2 := Lib.hid (fun w' (h : BkIn w' (.slice ad xs.length cap) xs) => seatsBest2_any n _ xs w' h hx)
    have H1 := Lib.hid (fun w' (h : BkIn w' (.slice ad xs.length cap) xs) => seatsBest1_any n _ xs w' wn h hx)
    cases hok : bestOk n xs with
    | false =>
      rw [bestX_no hok, hok] at H2 H1
      clear hok
      go_wp2_with fail
      refine (H2.out _ Hx1.out).mono ?_; rintro e w2 ⟨ad2, cap2, rfl, hc2, ho2, _, hb2⟩
      have Hx2 := Lib.hid (Hx1.out.below hb2)
      have HB2 := Lib.hid (HB1.out.trans (hb2.mono HB1.out.size))
      have HI2 := Lib.hid (ho2.ints hc2)
      clear hb2 hc2 ho2
      go_wp2_with fail
      refine (H1.out _ Hx2.out).mono ?_; rintro e w3 ⟨ad3, cap3, rfl, hc3, ho3, _, hb3⟩
      have HB3 := Lib.hid (HB2.out.trans (hb3.mono HB2.out.size))
      have HI3 := Lib.hid (HI2.out.below hb3)
      have HJ3 := Lib.hid (ho3.ints hc3)
      clear hb3 hc3 ho3
      go_wp2_with fail
      refine (sameInts_any _ _ [] [] _ HI3.out HJ3.out (by simp)).mono ?_; rintro e w4 ⟨⟨x, rfl, hx4⟩, hb4⟩
      obtain rfl : x = true := hx4.2 rfl
      have HB4 := Lib.hid (HB3.out.trans (hb4.mono HB3.out.size))
      have HI4 := Lib.hid (HI3.out.below hb4)
      have HJ4 := Lib.hid (HJ3.out.below hb4)
      clear hb4 hx4
      go_wp2_with fail
      refine (sameInts_any _ _ [] [] _ HI4.out HJ4.out (by simp)).mono ?_; rintro e w5 ⟨⟨x, rfl, hx5⟩, hb5⟩
      obtain rfl : x = true := hx5.2 rfl
      have HB5 := Lib.hid (HB4.out.trans (hb5.mono HB4.out.size))
      clear hb5 hx5
      go_wp2
      go_ret
      exact ⟨rfl, HB5.out⟩
    | true =>
      obtain ⟨f1, f2, f3, f4, f5⟩ := bestX_facts hok
      have HF := Lib.hid (validB_fwd (bestOk_iff.1 hok).1).1
      have hsh := bestX_short n xs
      rw [hok] at H2 H1
      clear hok
      generalize bestX n xs = rs at *
      have F1 := Lib.hid f1; have F2 := Lib.hid f2
      have F3 := Lib.hid (fun i hi => by obtain ⟨k, j, hk, e, hm⟩ := f3 i hi; exact hitTo_yes (m := rs.length) hk e hm)
      have F5 := Lib.hid f5
      clear f1 f2 f3 f5
      go_wp2_with fail
      refine (H2.out _ Hx1.out).mono ?_; rintro e w2 ⟨ad2, cap2, rfl, hc2, ho2, _, hb2⟩
      have Hx2 := Lib.hid (Hx1.out.below hb2)
      have HB2 := Lib.hid (HB1.out.trans (hb2.mono HB1.out.size))
      have HI2 := Lib.hid (ho2.ints hc2)
      clear hb2 hc2 ho2
      go_wp2_with fail
      refine (H1.out _ Hx2.out).mono ?_; rintro e w3 ⟨ad3, cap3, rfl, hc3, ho3, _, hb3⟩
      have Hx3 := Lib.hid (Hx2.out.below hb3)
      have HB3 := Lib.hid (HB2.out.trans (hb3.mono HB2.out.size))
      have HI3 := Lib.hid (HI2.out.below hb3)
      have HJ3 := Lib.hid (ho3.ints hc3)
      clear hb3 hc3 ho3
      go_wp2_with fail
      refine (sameInts_any _ _ rs rs _ HI3.out HJ3.out hsh).mono ?_; rintro e w4 ⟨⟨x, rfl, hx4⟩, hb4⟩
      obtain rfl : x = true := hx4.2 rfl
      have HB4 := Lib.hid (HB3.out.trans (hb4.mono HB3.out.size))
      have Hx4 := Lib.hid (Hx3.out.below hb4)
      have HI4 := Lib.hid (HI3.out.below hb4)
      clear hb4 hx4 HI2 HI3 HJ3 H1 H2 Hx1 Hx2 Hx3
      go_wp2
      go_loopw [9] (fun iv wr => SbO xs w4 iv wr) (fun iv _ => xs.length - (intOf iv).toNat)
      case atStart => exact ⟨0, Nat.zero_le _, rfl, Below.refl _ _⟩
      case round =>
        obtain ⟨i, hi, rfl, hb⟩ := hrel
        have HB := Lib.hid hb
        clear hb
        by_cases hlt : i < xs.length
        · have hi' : (i : Int) < (xs.length : Int) := by omega
          have hi0 : (0 : Int) ≤ (i : Int) := Int.natCast_nonneg _
          have hX := Hx4.out
          obtain ⟨_, _, he, _, ha⟩ := hX
          cases he
          obtain ⟨b, o, rfl, hb0, hrw⟩ := ha (by intro h; simp [h] at hlt)
          have HC := Lib.hid (fun w' (h : Below w4.heap.size w4 w') => hrw.below h hb0)
          clear hrw ha
          go_wp2
          go_loopw [10, 11] (fun hv kv wr => SbI xs rs i w4 hv kv wr) (fun _ kv _ => rs.length - (intOf kv).toNat)
          case atStart => exact ⟨0, Nat.zero_le _, rfl, rfl, HB.out⟩
          case round =>
            clear HB
            obtain ⟨k, hk, rfl, rfl, hb⟩ := hrel
            have HB := Lib.hid hb
            by_cases hkl : k < rs.length
            · obtain ⟨j, hj, hjl⟩ := F1.out k hkl
              have hs := hitTo_succ xs rs i k
              rw [hj, Int.toNat_natCast] at hs
              have Hs := Lib.hid hs
              have hI := HI4.out
              obtain ⟨_, _, he, _, ha⟩ := hI
              cases he
              obtain ⟨rb, ro, rfl, hrb, hrr⟩ := ha (by intro h; simp [h] at hkl)
              have r0 := (hrr.below hb hrb) k hkl
              rw [hj] at r0
              have HR := Lib.hid (fun w' (h : Below w4.heap.size w4 w') => (show w'.cell? ⟨rb, ro + k, none⟩ = some (.int .i64 (j : Int)) by rw [← hj]; exact (hrr.below h hrb) k hkl))
              have HI := Lib.hid (fun w' (h : Below w4.heap.size w4 w') => hasInt_any _ rs (i : Int) w' (HI4.out.below h) hsh)
              have hmem := mem_getD.2 ⟨k, hkl, hj⟩
              have hkM : (k : Int) < (rs.length : Int) := by omega
              have hk0 : (0 : Int) ≤ (k : Int) := Int.natCast_nonneg _
              have hjx : (j : Int) < (xs.length : Int) := by omega
              have hj0 : (0 : Int) ≤ (j : Int) := Int.natCast_nonneg _
              obtain ⟨c0, c1, c2⟩ := HC.out wr hb j hjl
              have hno : meetB xs i j = true → j ≠ i → decide ((i : Int) ∈ rs) = false := fun h1 h2 => decide_eq_false (fun h3 => F2.out i j h3 hmem (fun e => h2 e.symm) (meetB_iff.1 h1))
              have hself : j = i → meetB xs i j = true := fun e => by subst e; exact meetB_iff.2 ⟨(HF.out j hjl).2, (HF.out j hjl).2⟩
              have Hmt := Lib.hid (show meetB xs i j = (decide ((xs.getD i bk0).a < (xs.getD j bk0).b) && decide ((xs.getD j bk0).a < (xs.getD i bk0).b)) from rfl)
              have Hno := Lib.hid hno; have Hself := Lib.hid hself
              have HCi := Lib.hid (fun w' (h : Below w4.heap.size w4 w') => (show w'.cell? ⟨b, o + i * 3, none⟩ = some (.int .i64 (xs.getD i bk0).a) ∧ w'.cell? ⟨b, o + i * 3 + 1, none⟩ = some (.int .i64 (xs.getD i bk0).b) from ⟨(HC.out w' h i hlt).1, (HC.out w' h i hlt).2.1⟩))
              clear hno hself hmem hs ha hrr hb
              generalize (xs.getD j bk0).a = ja at *
              generalize (xs.getD j bk0).b = jb at *
              generalize (xs.getD j bk0).m = jm at *
              generalize (xs.getD i bk0).a = ia at *
              generalize (xs.getD i bk0).b = ib at *
              have hb5 : Below wr.heap.size wr (wr.alloc (.cells #[.int .i64 ja, .int .i64 jb, .bool jm] 31)) := (Below.refl _ _).alloc (Nat.le_refl _) _
              have HB5 := Lib.hid (HB.out.trans (hb5.mono HB.out.size))
              have E0 := Lib.hid (show (wr.alloc (.cells #[.int .i64 ja, .int .i64 jb, .bool jm] 31)).cell? ⟨wr.heap.size, 0, none⟩ = some (.int .i64 ja) by simp)
              have E1 := Lib.hid (show (wr.alloc (.cells #[.int .i64 ja, .int .i64 jb, .bool jm] 31)).cell? ⟨wr.heap.size, 1, none⟩ = some (.int .i64 jb) by simp)
              clear hb5
              go_wp2
              generalize wr.alloc (.cells #[.int .i64 ja, .int .i64 jb, .bool jm] 31) = w5 at *
              clear c0 c1 c2 r0
              obtain ⟨d0, d1⟩ := HCi.out w5 HB5.out
              have e0 := E0.out
              have e1 := E1.out
              have r5 := HR.out w5 HB5.out
              generalize meetB xs i j = mt at *
              generalize hitTo xs rs i k = h1 at *
              by_cases hji : j = i
              · have hq : ((j : Int) != (i : Int)) = false := by simp [hji]
                have hmt := Hself.out hji
                rw [hmt] at Hmt Hs
                have hm1 := Hmt.out.symm
                rw [Bool.and_eq_true] at hm1
                obtain ⟨hm1, hm2⟩ := hm1
                rw [Bool.or_true] at Hs
                clear Hmt Hno Hself hmt
                go_quiet (fail)
                cases h1 <;> (go_wp2; exact ⟨⟨k + 1, hkl, by go_num, by rw [Hs.out], HB5.out.drewN _⟩, by simp [intOf]; omega⟩)
              · have hq : ((j : Int) != (i : Int)) = true := by simp; omega
                have HI5 := Lib.hid (fun hx => Hno.out hx hji)
                clear Hno Hself
                by_cases hA : ia < jb
                · by_cases hB : ja < ib
                  · have hm1 : decide (ia < jb) = true := by simpa using hA
                    have hm2 : decide (ja < ib) = true := by simpa using hB
                    rw [hm1, hm2, Bool.and_true] at Hmt
                    have hmt := Hmt.out
                    have hdec := HI5.out hmt
                    rw [hdec] at HI
                    rw [hmt, Bool.or_true] at Hs
                    clear Hmt HI5 hmt hdec hA hB
                    go_quiet (fail)
                    go_wp2_with fail
                    refine (HI.out _ (HB5.out.drewN _)).mono ?_; rintro e w6 ⟨rfl, m6, rfl⟩
                    cases h1 <;> (go_wp2; exact ⟨⟨k + 1, hkl, by go_num, by rw [Hs.out], HB5.out.drewN _⟩, by simp [intOf]; omega⟩)
                  · have hm1 : decide (ia < jb) = true := by simpa using hA
                    have hm2 : decide (ja < ib) = false := by simpa using hB
                    rw [hm1, hm2, Bool.and_false] at Hmt
                    rw [Hmt.out, Bool.or_false] at Hs
                    clear Hmt HI5 hA hB
                    go_quiet (fail)
                    cases h1 <;> (go_wp2; exact ⟨⟨k + 1, hkl, by go_num, by rw [Hs.out], HB5.out.drewN _⟩, by simp [intOf]; omega⟩)
                · have hm1 : decide (ia < jb) = false := by simpa using hA
                  rw [hm1, Bool.false_and] at Hmt
                  rw [Hmt.out, Bool.or_false] at Hs
                  clear Hmt HI5 hA
                  go_quiet (fail)
                  cases h1 <;> (go_wp2; exact ⟨⟨k + 1, hkl, by go_num, by rw [Hs.out], HB5.out.drewN _⟩, by simp [intOf]; omega⟩)
            · obtain rfl : k = rs.length := by omega
              have hh := F3.out i hlt
              rw [hh]
              clear hh hb
              go_wp2
              exact ⟨⟨i + 1, hlt, by go_num, HB.out⟩, by simp [intOf]; omega⟩
        · obtain rfl : i = xs.length := by omega
          have HBf := Lib.hid (HB4.out.trans (HB.out.mono HB4.out.size))
          by_cases hz : 0 < xs.length
          · have hz' : 0 < rs.length := F5.out.2 hz
            have hz1 : (0 : Int) < (xs.length : Int) := by omega
            have hz2 : (0 : Int) < (rs.length : Int) := by omega
            go_wp2
            go_ret
            exact ⟨ret_bool (by first | rfl | (simp; done) | (simp; omega)), HBf.out⟩
          · have hz' : ¬ 0 < rs.length := fun h => hz (F5.out.1 h)
            have hz1 : ¬ (0 : Int) < (xs.length : Int) := by omega
            have hz2 : ¬ (0 : Int) < (rs.length : Int) := by omega
            go_wp2
            go_ret
            exact ⟨ret_bool (by first | rfl | (simp; done) | (simp; omega)), HBf.out⟩
  · have hl' : (1048576 : Int) < (l.length : Int) := by omega
    go_enter Try.func3, Try.ntmps3
    go_wp2
    go_ret
    exact ⟨rfl, Below.refl _ _⟩

set_option maxRecDepth 100000 in
theorem lifted (os : Os) (started : os.Started) (H : Type) (enc : TypeId × Value → H) :
    ReturnsInHanded {} Try.checked os 3 .any (Rows.fnSeatsBestSpec.pre6 enc Try.prog Try.f3 Rows.fnSeatsBestRow.domain false) (Rows.fnSeatsBestSpec.post enc Try.prog Try.f3 false true false false) := by
  refine returnsInHanded_of_change (C := Try.checked) own started (by kernel_rfl) Try.func3
    (ChangeSpec.witness6 (enc := enc) (C := Try.checked) false ⟨#[], #[.slice none 0 0], []⟩ 8 (by kernel_rfl) (by kernel_rfl) (by kernel_rfl) (by kernel_rfl)) ?_
  intro W base args ds gs before hval0 hW hcnd _
  have hval : ∀ (j : Nat) t v, Try.f3.params[j]? = some t → args[j]? = some v → Value.okWide Try.prog W .any base t v := hval0
  have hW' := hW
  obtain ⟨p, q, hA0, hV, rfl, hfz, hnd⟩ := hW
  have hA : DataW.TrodAll enc Try.prog W 0 (fun _ => true) true Try.f3.params.toList args.toList ds p := hA0
  rw [Try.params3] at hA hval
  obtain ⟨v0, vs0, d0, ds0, p0, q0, hargs, rfl, rfl, h0, r0⟩ := trodAll_cons hA
  obtain ⟨rfl, rfl, rfl⟩ := trodAll_nil r0
  obtain rfl : args = #[v0] := by cases args; simp_all
  obtain ⟨rfl, rfl⟩ := trodVars_none hV
  obtain ⟨a0, len0, cap0, rfl⟩ := okWide_slice Try.underlying22 (hval 0 22 v0 rfl rfl)
  have k0 := h0
  have lt0 : ∀ x ∈ p0, x.block < W.heap.size := by obtain ⟨m, hm⟩ := k0; exact DataW.trod_lt m _ _ _ hm
  obtain ⟨z0, hv0, hm0⟩ := open_byteS h0 rfl
  clear hA0 hval0
  refine (walk _ z0 W hv0 hm0).mono fun e W' ⟨he, bel⟩ => ?_
  subst he
  exact ⟨_, rfl, _, _, _, [], _, [], hW', trodAll_mk1 (shut_bool Try.underlying4 _), (trodAll_cons_mk (Below.trod laidOut (by kernel_rfl) (of_decide_eq_true (by kernel_rfl)) k0 bel lt0) trodAll_mk0), rfl, bel.frame _, fun h => by cases h⟩

theorem over : Rows.fnSeatsBestRow.holds Try.pinned (OpenSpec.ofChange Rows.fnSeatsBestSpec) :=
  OpenClaim.holds_of_wide 3 Try.f3 rfl rfl rfl rfl rfl rfl rfl ⟨rfl, rfl, rfl, rfl, rfl⟩ rfl rfl rfl rfl rfl (by kernel_rfl) Try.func3 (by kernel_rfl)
    (of_decide_eq_true (by kernel_rfl)) (by unfold Func.isWrapper; first | (rw [if_pos (by decide +kernel)]; kernel_rfl) | (rw [if_neg (by decide +kernel)]; exact ⟨rfl, rfl⟩))
    (fun os started H enc _ => lifted os started H enc)

theorem proved : Rows.FnSeatsBestSaid := over
#print axioms proved
end Go.Proofs.Ytlkhgnglblgldaa.lawFnSeatsBest
