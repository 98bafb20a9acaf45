/- The model's TollValid. -/
import Derived.Test.YthhllpnbmelidaaGK
import Derived.Test.YthhllpnbmelidaaGL
namespace Go.Proofs.Ythhllpnbmelidaa
open Go.RowKit
set_option linter.unusedVariables false
set_option linter.unusedSimpArgs false

theorem okT_pass {l : List Gt} {free f t : Int} (h : okT l free f t = true) : passX l f t = passL l f t := by
  refine passX_yes ?_
  unfold okT at h
  unfold passOk okEnds
  simp only [Bool.and_eq_true] at h ⊢
  exact ⟨h.1.1.1, h.1.1.2, h.1.2⟩
theorem okT_free {l : List Gt} {free f t : Int} (h : okT l free f t = true) : 0 ≤ free ∧ free ≤ 999 := by
  unfold okT at h
  simp only [Bool.and_eq_true] at h
  exact (inB_iff _ _ _).1 h.2
theorem validT_nok {l : List Gt} {free f t : Int} {paid : List Int} (h : okT l free f t = false) : validT l free f t paid = false := by unfold validT; rw [h]; rfl
theorem validT_nopay {l : List Gt} {free f t : Int} {paid : List Int} (h : okT l free f t = true) {j : Nat} (hj : j < paid.length) (h2 : okPay (passL l f t) paid j = false) : validT l free f t paid = false := by
  rw [Bool.eq_false_iff]
  intro h3
  unfold validT at h3
  simp only [Bool.and_eq_true, decide_eq_true_eq] at h3
  have := okToPay_at ((okToPay_iff (passL_pas (okT_valid h) f t).asc).2 h3.2.1) hj
  rw [h2] at this; cases this
theorem validT_nocov {k : Int} {l : List Gt} {free f t : Int} {paid : List Int} (h1 : hasL paid k = false) (h2 : freedG l free paid k = false) (hk : k ∈ passL l f t) : validT l free f t paid = false := by
  rw [Bool.eq_false_iff]
  intro h3
  unfold validT coverB at h3
  simp only [Bool.and_eq_true, List.all_eq_true] at h3
  have := h3.2.2 k hk
  rw [h1, h2] at this; cases this
theorem validT_yes {l : List Gt} {free f t : Int} {paid : List Int} (h : okT l free f t = true) (h1 : okToPay (passL l f t) paid paid.length = true) (h2 : ∀ j, j < (passL l f t).length → (hasL paid ((passL l f t).getD j 0) || freedG l free paid ((passL l f t).getD j 0)) = true) : validT l free f t paid = true := by
  unfold validT coverB
  rw [h]
  simp only [Bool.true_and, Bool.and_eq_true, decide_eq_true_eq, List.all_eq_true]
  refine ⟨(okToPay_iff (passL_pas (okT_valid h) f t).asc).1 h1, fun k hk => ?_⟩
  obtain ⟨j, hj, rfl⟩ := mem_getD8.1 hk
  exact h2 j hj
theorem okToPay_in {l : List Gt} {f t : Int} {paid : List Int} (hv : validG l = true) (h : okToPay (passL l f t) paid paid.length = true) : ∀ k ∈ paid, 0 ≤ k ∧ k < l.length := fun k hk => by
  obtain ⟨j, hj, rfl⟩ := mem_getD8.1 hk
  have := okToPay_at h hj
  unfold okPay at this
  simp only [Bool.and_eq_true] at this
  exact (passL_pas hv f t).i _ (hasL_iff.1 this.1)

def Tv1Rel (ps paid : List Int) (w : World) (i : Value) (wr : World) : Prop := ∃ k : Nat, k ≤ paid.length ∧ i = .int .i64 k ∧ okToPay ps paid k = true ∧ Below w.heap.size w wr
def Tv2Rel (l : List Gt) (free : Int) (ps paid : List Int) (w : World) (i : Value) (wr : World) : Prop := ∃ k : Nat, k ≤ ps.length ∧ i = .int .i64 k ∧ (∀ j, j < k → (hasL paid (ps.getD j 0) || freedG l free paid (ps.getD j 0)) = true) ∧ Below w.heap.size w wr

set_option maxRecDepth 100000 in
set_option maxHeartbeats 4000000 in
theorem tv1_any (v : Value) (l : List Gt) (free f t : Int) (vp : Value) (paid : List Int) (w : World) (hv : GtIn w v l) (hp : IntsIn w vp paid) (hl : l.length ≤ 1048576) (hpl : paid.length ≤ 1048576) :
    Calls Try.prog 41 #[v, .int .i64 free, .int .i64 f, .int .i64 t, vp] w (Gives (.bool (validT l free f t paid)) w) := by
  have HP := Lib.hid (pass1_any v l f t w hv hl)
  have HO := Lib.hid (fun w' (h : Below w.heap.size w w') => ok1_any v l free f t w' (hv.below h) hl)
  cases ho : okT l free f t with
  | false =>
    have Hr := Lib.hid (validT_nok (paid := paid) ho)
    have Ho := Lib.hid ho
    obtain ⟨g1, cp1, rfl, _, _⟩ := hp
    clear hv ho
    go_enter Try.func41, Try.ntmps41
    go_wp2_with fail
    refine HP.out.mono ?_; rintro e w1 ⟨ad, cp, rfl, hcp, hown, hin, hb1⟩
    have HB1 := Lib.hid hb1
    clear hown hin hcp hb1
    generalize (passX l f t).length = np at *
    go_wp2_with fail
    refine (HO.out _ HB1.out).mono ?_; rintro e w2 ⟨rfl, hb2⟩
    rw [Ho.out]
    have HB2 := Lib.hid (HB1.out.trans (hb2.mono HB1.out.size))
    clear hb2
    go_wp2
    go_ret
    exact ⟨ret_bool Hr.out.symm, HB2.out⟩
  | true =>
    have hz := okT_valid ho
    have hpx := okT_pass ho
    have hten := (validG_iff.1 hz).1
    have hpn := passL_len l f t
    rw [hpx] at HP
    have HF := Lib.hid (fun (hin : ∀ k ∈ paid, 0 ≤ k ∧ k < l.length) (n : Nat) (hn : n < l.length) w' (h : Below w.heap.size w w') => freed1_any v l free vp paid n w' (hv.below h) hz (hp.below h) hpl hn hin)
    have HHp := Lib.hid (fun (z : Int) w' (h : Below w.heap.size w w') => has8_any vp paid z w' (hp.below h) hpl)
    have Hno := Lib.hid (fun (j : Nat) (hj : j < paid.length) h2 => validT_nopay (paid := paid) ho (j := j) hj h2)
    have Hnc := Lib.hid (fun (k : Int) (hk : k ∈ passL l f t) h1 h2 => validT_nocov (l := l) (free := free) (paid := paid) h1 h2 hk)
    have Hyes := Lib.hid (validT_yes (paid := paid) ho)
    have Hin := Lib.hid (okToPay_in (f := f) (t := t) (paid := paid) hz)
    have Hpi := Lib.hid (passL_pas hz f t).i
    have Ho := Lib.hid ho
    obtain ⟨g1, cp1, rfl, _, hp1⟩ := hp
    have Hp := Lib.hid hp1
    clear hv ho hz hpx hp1
    generalize passL l f t = ps at *
    generalize validT l free f t paid = res at *
    go_enter Try.func41, Try.ntmps41
    go_wp2_with fail
    refine HP.out.mono ?_; rintro e w1 ⟨ad, cp, rfl, hcp, hown, hin, hb1⟩
    have HB1 := Lib.hid hb1
    have HI := Lib.hid (hown.ints hcp)
    have Hown := Lib.hid hown
    clear hown hin hcp hb1
    go_wp2_with fail
    refine (HO.out _ HB1.out).mono ?_; rintro e w2 ⟨rfl, hb2⟩
    rw [Ho.out]
    have HB2 := Lib.hid (HB1.out.trans (hb2.mono HB1.out.size))
    have HI2 := Lib.hid (HI.out.below hb2)
    have HHs := Lib.hid (fun (z : Int) w' (h : Below w2.heap.size w2 w') => has8_any _ ps z w' (HI2.out.below h) (by omega))
    clear hb2 HI Hown HP HO
    go_wp2
    go_loopw [12] (fun i wr => Tv1Rel ps paid w2 i wr) (fun i _ => paid.length - (intOf i).toNat)
    case atStart => exact ⟨0, Nat.zero_le _, rfl, rfl, Below.refl _ _⟩
    case round =>
      obtain ⟨k, hk, rfl, hok, hbel⟩ := hrel
      have Hok := Lib.hid hok; clear hok
      by_cases hlt : k < paid.length
      · obtain ⟨pb, po, rfl, hpb, hprw⟩ := Hp.out (by intro h; simp [h] at hlt)
        have hB2r := HB2.out.trans (hbel.mono HB2.out.size)
        have d0 := (hprw.below hB2r hpb) k hlt
        have HBr := Lib.hid hbel
        have hq := HHs.out (paid.getD k 0) wr hbel
        have hokk : okPay ps paid k = (hasL ps (paid.getD k 0) && (decide (k = 0) || decide (paid.getD (k - 1) 0 < paid.getD k 0))) := rfl
        have hk0 : (0 : Int) ≤ (k : Int) := Int.natCast_nonneg _
        have hk1 : (k : Int) < (paid.length : Int) := by omega
        have HN := Lib.hid (Hno.out k hlt)
        have hsucc := okToPay_succ ps paid k
        rw [Hok.out, Bool.true_and] at hsucc
        have Hsucc := Lib.hid hsucc; clear hsucc
        have HQ := Lib.hid (fun w' (h : Below wr.heap.size wr w') => HHs.out (paid.getD k 0) w' (hbel.trans (h.mono hbel.size)))
        cases h1 : hasL ps (paid.getD k 0) with
        | false =>
          have Hz := Lib.hid (HN.out (by rw [hokk, h1]; rfl))
          clear hokk HN Hsucc
          rw [h1] at HQ
          clear hprw hbel hq hB2r h1
          generalize paid.getD k 0 = x at *
          go_wp2
          go_quiet ((go_at_call 80; exact Calls.hush (HQ.out _ (by first | exact Below.refl _ _ | exact (Below.refl _ _).drewN _))))
          go_wp2
          go_ret
          exact ⟨ret_bool Hz.out.symm, HB2.out.trans ((by first | exact HBr.out.drewN _ | exact HBr.out.drew | exact HBr.out : Below w2.heap.size w2 _).mono HB2.out.size)⟩
        | true =>
          rw [h1] at HQ
          by_cases h0 : k = 0
          · subst h0
            have Hk1 := Lib.hid (Hsucc.out.trans (by rw [hokk, h1]))
            clear hokk HN Hsucc hprw hbel hq hB2r h1
            simp only [Nat.add_zero] at d0
            generalize paid.getD 0 0 = x at *
            go_wp2
            go_quiet ((go_at_call 80; exact Calls.hush (HQ.out _ (by first | exact Below.refl _ _ | exact (Below.refl _ _).drewN _))))
            go_wp2
            exact ⟨⟨1, hlt, by go_num, Hk1.out, by first | exact HBr.out.drewN _ | exact HBr.out.drew | exact HBr.out⟩, by simp [intOf] <;> omega⟩
          · obtain ⟨j, hkj⟩ : ∃ j, k = j + 1 := ⟨k - 1, by omega⟩
            have e0 := (hprw.below hB2r hpb) j (by omega)
            have hkj' : k - 1 = j := by omega
            have hkk : (k : Int) - 1 = (j : Int) := by omega
            have hks : IntKind.i64.wrap ((k : Int) - 1) = (j : Int) := by rw [IntWalk.i64_in _ (by omega)]; omega
            have hj0 : (0 : Int) ≤ (j : Int) := Int.natCast_nonneg _
            have hj1 : (j : Int) < (paid.length : Int) := by omega
            have hjn : j < paid.length := by omega
            have hk1n : 1 ≤ k := by omega
            have hg : decide ((0 : Int) < (k : Int)) = true := by simp only [decide_eq_true_eq]; omega
            have hg2 : decide (0 < k) = true := by simp only [decide_eq_true_eq]; omega
            rw [h1, decide_eq_false h0, hkj', Bool.true_and, Bool.false_or] at hokk
            by_cases hq3 : paid.getD j 0 < paid.getD k 0
            · have Hk1 := Lib.hid (Hsucc.out.trans (by rw [hokk, decide_eq_true hq3]))
              clear hokk HN Hsucc hprw hbel hq hB2r h1 h0 hkj'
              have Hkj := Lib.hid hkj; clear hkj
              generalize paid.getD k 0 = x at *
              generalize paid.getD j 0 = y at *
              have hd : decide (x ≤ y) = false := decide_eq_false (by omega)
              go_wp2
              go_quiet ((go_at_call 80; exact Calls.hush (HQ.out _ (by first | exact Below.refl _ _ | exact (Below.refl _ _).drewN _))))
              go_wp2
              exact ⟨⟨k + 1, hlt, by go_num, Hk1.out, by first | exact HBr.out.drewN _ | exact HBr.out.drew | exact HBr.out⟩, by simp [intOf]; omega⟩
            · have Hz := Lib.hid (HN.out (by rw [hokk, decide_eq_false hq3]))
              clear hokk HN Hsucc hprw hbel hq hB2r h1 h0 hkj'
              have Hkj := Lib.hid hkj; clear hkj
              generalize paid.getD k 0 = x at *
              generalize paid.getD j 0 = y at *
              have hd : decide (x ≤ y) = true := decide_eq_true (by omega)
              go_wp2
              go_quiet ((go_at_call 80; exact Calls.hush (HQ.out _ (by first | exact Below.refl _ _ | exact (Below.refl _ _).drewN _))))
              go_wp2
              go_ret
              exact ⟨ret_bool Hz.out.symm, HB2.out.trans ((by first | exact HBr.out.drewN _ | exact HBr.out.drew | exact HBr.out : Below w2.heap.size w2 _).mono HB2.out.size)⟩
      · obtain rfl : k = paid.length := by omega
        have HB3 := Lib.hid (HB2.out.trans (hbel.mono HB2.out.size))
        have HI3 := Lib.hid (HI2.out.below hbel)
        have HFx := Lib.hid (HF.out (Hin.out Hok.out))
        have Hyes2 := Lib.hid (Hyes.out Hok.out)
        have Hend : ¬ (paid.length : Int) < (paid.length : Int) := by omega
        clear hbel HF Hno HHs HI2 hlt
        go_wp2
        go_loopw [13] (fun i w4 => Tv2Rel l free ps paid wr i w4) (fun i _ => ps.length - (intOf i).toNat)
        case atStart => exact ⟨0, Nat.zero_le _, rfl, fun j hj => by omega, Below.refl _ _⟩
        case round =>
          rename_i w4
          obtain ⟨m, hm, rfl, hall, hbel⟩ := hrel
          have Hall := Lib.hid hall; clear hall
          have HB4 := Lib.hid (HB3.out.trans (hbel.mono HB3.out.size))
          have HI4 := Lib.hid (HI3.out.below hbel)
          have Hbel := Lib.hid hbel
          by_cases hlt : m < ps.length
          · obtain ⟨xa, xc, hxe, _, hx2⟩ := HI4.out
            injection hxe with hx3 hx4 hx5
            obtain ⟨qb, qo, hqe, hqb, hqr⟩ := hx2 (by intro h; simp [h] at hlt)
            obtain rfl : ad = some ⟨qb, qo, none⟩ := hx3.trans hqe
            have d0 := hqr m hlt
            have hm0 : (0 : Int) ≤ (m : Int) := Int.natCast_nonneg _
            have hm1 : (m : Int) < (ps.length : Int) := by omega
            have hkin := Hpi.out _ (mem_getD8.2 ⟨m, hlt, rfl⟩)
            have hmem : ps.getD m 0 ∈ ps := mem_getD8.2 ⟨m, hlt, rfl⟩
            have HN := Lib.hid (Hnc.out _ hmem)
            have hall1 : (hasL paid (ps.getD m 0) || freedG l free paid (ps.getD m 0)) = true → ∀ j, j < m + 1 → (hasL paid (ps.getD j 0) || freedG l free paid (ps.getD j 0)) = true := fun h j hj => by
              by_cases e : j = m
              · rw [e]; exact h
              · exact Hall.out j (by omega)
            have Hall1 := Lib.hid hall1
            have Hh := Lib.hid (HHp.out (ps.getD m 0))
            clear hmem hall1 hx2 hqr hbel hx3 hx4 hx5 hqe HI4
            generalize ps.getD m 0 = x at *
            obtain ⟨n, rfl⟩ : ∃ n : Nat, x = n := ⟨x.toNat, by omega⟩
            have Hf := Lib.hid (HFx.out n (by omega))
            cases h1 : hasL paid (n : Int) with
            | true =>
              rw [h1] at Hh
              have Hk1 := Lib.hid (Hall1.out (by rw [h1]; rfl))
              clear HN Hall1 h1 Hf
              go_wp2_with fail
              refine (Hh.out _ HB4.out).mono ?_; rintro e w5 ⟨rfl, m5, rfl⟩
              go_wp2
              exact ⟨⟨m + 1, hlt, by go_num, Hk1.out, by first | exact Hbel.out.drewN _ | exact Hbel.out⟩, by simp [intOf]; omega⟩
            | false =>
              rw [h1] at Hh
              cases h2 : freedG l free paid (n : Int) with
              | true =>
                rw [h2] at Hf
                have Hk1 := Lib.hid (Hall1.out (by rw [h2]; simp))
                clear HN Hall1 h1 h2
                go_wp2_with fail
                refine (Hh.out _ HB4.out).mono ?_; rintro e w5 ⟨rfl, m5, rfl⟩
                have HB5 := Lib.hid (HB4.out.drewN m5)
                have Hbel5 := Lib.hid (Hbel.out.drewN m5)
                go_wp2_with fail
                refine (Hf.out _ HB5.out).mono ?_; rintro e w6 ⟨rfl, hb6⟩
                have Hbel6 := Lib.hid (Hbel5.out.trans (hb6.mono Hbel5.out.size))
                clear hb6
                go_wp2
                exact ⟨⟨m + 1, hlt, by go_num, Hk1.out, Hbel6.out⟩, by simp [intOf]; omega⟩
              | false =>
                rw [h2] at Hf
                have Hz := Lib.hid (HN.out h1 h2)
                clear HN Hall1 h1 h2
                go_wp2_with fail
                refine (Hh.out _ HB4.out).mono ?_; rintro e w5 ⟨rfl, m5, rfl⟩
                have HB5 := Lib.hid (HB4.out.drewN m5)
                go_wp2_with fail
                refine (Hf.out _ HB5.out).mono ?_; rintro e w6 ⟨rfl, hb6⟩
                have HB6 := Lib.hid (HB5.out.trans (hb6.mono HB5.out.size))
                clear hb6
                go_wp2
                go_ret
                exact ⟨ret_bool Hz.out.symm, HB6.out⟩
          · obtain rfl : m = ps.length := by omega
            have Hz := Lib.hid (Hyes2.out Hall.out)
            clear hbel
            go_wp2
            go_ret
            exact ⟨ret_bool Hz.out.symm, HB4.out⟩

end Go.Proofs.Ythhllpnbmelidaa
