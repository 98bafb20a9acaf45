/- The program's isMile, areEnds, gateFits. -/
import Derived.Test.YthhllpnbmelidaaGJ
import Derived.BigRegion
import Derived.Test.YthhllpnbmelidaaHD
import Derived.Deep.RegionHeld3
namespace Go.Proofs.Ythhllpnbmelidaa
open Go.RowKit
set_option linter.unusedVariables false
set_option linter.unusedSimpArgs false

set_option maxHeartbeats 400000 in
theorem isMile_any (x : Int) (w : World) :
    Calls Try.prog 96 #[.int .i64 x] w fun e w' => e = .returned (.bool (inB x 0 999)) ∧ w = w' := by
  by_cases h1 : 0 ≤ x
  · go_enter Try.func96, Try.ntmps96
    go_wp2
    go_ret
    exact ⟨ret_bool (by simp [inB, h1]), rfl⟩
  · go_enter Try.func96, Try.ntmps96
    go_wp2
    go_ret
    exact ⟨ret_bool (by simp [inB]; omega), rfl⟩

set_option maxHeartbeats 400000 in
theorem areEnds_any (f t : Int) (w : World) :
    Calls Try.prog 76 #[.int .i64 f, .int .i64 t] w fun e w' => e = .returned (.bool (okEnds f t)) ∧ w = w' := by
  have hr : okEnds f t = (decide (0 ≤ f) && decide (f ≤ 1000) && (decide (0 ≤ t) && decide (t ≤ 1000))) := rfl
  by_cases h1 : 0 ≤ f
  · by_cases h2 : f ≤ 1000
    · by_cases h3 : 0 ≤ t
      · have Hr := Lib.hid (show okEnds f t = decide (t ≤ 1000) by rw [hr, decide_eq_true h1, decide_eq_true h2, decide_eq_true h3]; rfl)
        clear hr
        go_enter Try.func76, Try.ntmps76
        go_wp2
        go_ret
        exact ⟨ret_bool Hr.out.symm, rfl⟩
      · have Hr := Lib.hid (show okEnds f t = false by rw [hr, decide_eq_false h3]; simp)
        clear hr
        go_enter Try.func76, Try.ntmps76
        go_wp2
        go_ret
        exact ⟨ret_bool Hr.out.symm, rfl⟩
    · have Hr := Lib.hid (show okEnds f t = false by rw [hr, decide_eq_false h2]; simp)
      clear hr
      go_enter Try.func76, Try.ntmps76
      go_wp2
      go_ret
      exact ⟨ret_bool Hr.out.symm, rfl⟩
  · have Hr := Lib.hid (show okEnds f t = false by rw [hr, decide_eq_false h1]; simp)
    clear hr
    go_enter Try.func76, Try.ntmps76
    go_wp2
    go_ret
    exact ⟨ret_bool Hr.out.symm, rfl⟩

theorem fitsG_parts (a b m : Int) : fitsG ⟨a, b, m⟩ = (inB a 0 999 && decide (0 ≤ b) && decide (b < 4) && decide (1 ≤ m) && decide (m ≤ 99)) := by
  rw [Bool.eq_iff_iff, fitsG_iff]
  simp only [Bool.and_eq_true, inB_iff, decide_eq_true_eq]
  omega

set_option maxHeartbeats 1000000 in
theorem fits8_any (a b m : Int) (w : World) :
    Calls Try.prog 67 #[.agg #[.int .i64 a, .int .i64 b, .int .i64 m]] w (Gives (.bool (fitsG ⟨a, b, m⟩)) w) := by
  have hr := fitsG_parts a b m
  cases h0 : inB a 0 999 with
  | false =>
    have Hr := Lib.hid (show fitsG ⟨a, b, m⟩ = false by rw [hr, h0]; rfl)
    have H0 := Lib.hid h0
    clear hr h0
    go_enter Try.func67, Try.ntmps67
    go_wp2_with fail
    refine (isMile_any _ _).mono ?_; rintro e w' ⟨rfl, rfl⟩
    rw [H0.out]
    go_wp2
    go_ret
    exact ⟨ret_bool Hr.out.symm, (Below.refl _ _).alloc (Nat.le_refl _) _⟩
  | true =>
    have H0 := Lib.hid h0
    have fin : ∀ z, fitsG ⟨a, b, m⟩ = z → Hid (z = fitsG ⟨a, b, m⟩) := fun z h => Lib.hid h.symm
    by_cases h1 : 0 ≤ b
    · by_cases h2 : b < 4
      · by_cases h3 : 1 ≤ m
        · have Hr := Lib.hid (show fitsG ⟨a, b, m⟩ = decide (m ≤ 99) by rw [hr, h0, decide_eq_true h1, decide_eq_true h2, decide_eq_true h3]; rfl)
          clear hr h0 fin
          go_enter Try.func67, Try.ntmps67
          go_wp2_with fail
          refine (isMile_any _ _).mono ?_; rintro e w' ⟨rfl, rfl⟩
          rw [H0.out]
          go_wp2
          go_ret
          exact ⟨ret_bool Hr.out.symm, (Below.refl _ _).alloc (Nat.le_refl _) _⟩
        · have Hr := Lib.hid (show fitsG ⟨a, b, m⟩ = false by rw [hr, decide_eq_false h3]; simp)
          clear hr h0 fin
          go_enter Try.func67, Try.ntmps67
          go_wp2_with fail
          refine (isMile_any _ _).mono ?_; rintro e w' ⟨rfl, rfl⟩
          rw [H0.out]
          go_wp2
          go_ret
          exact ⟨ret_bool Hr.out.symm, (Below.refl _ _).alloc (Nat.le_refl _) _⟩
      · have Hr := Lib.hid (show fitsG ⟨a, b, m⟩ = false by rw [hr, decide_eq_false h2]; simp)
        clear hr h0 fin
        go_enter Try.func67, Try.ntmps67
        go_wp2_with fail
        refine (isMile_any _ _).mono ?_; rintro e w' ⟨rfl, rfl⟩
        rw [H0.out]
        go_wp2
        go_ret
        exact ⟨ret_bool Hr.out.symm, (Below.refl _ _).alloc (Nat.le_refl _) _⟩
    · have Hr := Lib.hid (show fitsG ⟨a, b, m⟩ = false by rw [hr, decide_eq_false h1]; simp)
      clear hr h0 fin
      go_enter Try.func67, Try.ntmps67
      go_wp2_with fail
      refine (isMile_any _ _).mono ?_; rintro e w' ⟨rfl, rfl⟩
      rw [H0.out]
      go_wp2
      go_ret
      exact ⟨ret_bool Hr.out.symm, (Below.refl _ _).alloc (Nat.le_refl _) _⟩

def Gv2Rel (l : List Gt) (w : World) (i : Value) (wr : World) : Prop :=
  ∃ k : Nat, k ≤ l.length ∧ i = .int .i64 k ∧ okToG l k = true ∧ Below w.heap.size w wr

set_option maxRecDepth 100000 in
set_option maxHeartbeats 2000000 in
theorem gv2_any (v : Value) (l : List Gt) (w : World) (hv : GtIn w v l) (hm : l.length ≤ 1048577) :
    Calls Try.prog 25 #[v] w (Gives (.bool (validG l)) w) := by
  obtain ⟨a, cap, rfl, hcap, ha⟩ := hv
  clear hcap
  have Ha := Lib.hid ha; clear ha
  by_cases h12 : l.length ≤ 10
  · go_enter Try.func25, Try.ntmps25
    go_wp2
    go_loopw [10] (fun i wr => Gv2Rel l w i wr) (fun i _ => l.length - (intOf i).toNat)
    case atStart => exact ⟨0, Nat.zero_le _, rfl, rfl, Below.refl _ _⟩
    case round =>
      obtain ⟨k, hk, rfl, hok, hbel⟩ := hrel
      have Hok := Lib.hid hok; clear hok
      by_cases hlt : k < l.length
      · obtain ⟨b, o, rfl, hb0, hrw⟩ := Ha.out (by intro h; simp [h] at hlt)
        have hrw1 := hrw.below hbel hb0
        obtain ⟨c0, c1, c2⟩ := hrw1 k hlt
        have Hrw := Lib.hid hrw1; clear hrw1 hrw
        have hbr : b < wr.heap.size := Nat.lt_of_lt_of_le hb0 hbel.size
        have hokG : okG l k = (fitsG (l.getD k gt0) && decide (lastG l k < (l.getD k gt0).a)) := rfl
        obtain ⟨⟨xa, xb, xm⟩, hr⟩ : ∃ r, l.getD k gt0 = r := ⟨_, rfl⟩
        rw [hr] at c0 c1 c2 hokG
        simp only at c0 c1 c2 hokG
        have HokG := Lib.hid hokG; clear hokG hr
        have Hlt := Lib.hid hlt
        have hk0 : (0 : Int) ≤ (k : Int) := Int.natCast_nonneg _
        have hk1 : (k : Int) < (l.length : Int) := by omega
        have hB : Below wr.heap.size wr (wr.alloc (.cells #[.int .i64 xa, .int .i64 xb, .int .i64 xm] 33)) := (Below.refl _ _).alloc (Nat.le_refl _) _
        have hA0 : (wr.alloc (.cells #[.int .i64 xa, .int .i64 xb, .int .i64 xm] 33)).cell? ⟨wr.heap.size, 0, none⟩ = some (.int .i64 xa) := by go_simp
        have hA1 : (wr.alloc (.cells #[.int .i64 xa, .int .i64 xb, .int .i64 xm] 33)).cell? ⟨wr.heap.size, 1, none⟩ = some (.int .i64 xb) := by go_simp
        have hA2 : (wr.alloc (.cells #[.int .i64 xa, .int .i64 xb, .int .i64 xm] 33)).cell? ⟨wr.heap.size, 2, none⟩ = some (.int .i64 xm) := by go_simp
        cases hf : fitsG ⟨xa, xb, xm⟩ with
        | false =>
          have HF := Lib.hid hf
          have hz : okG l k = false := by rw [HokG.out, hf]; rfl
          have Hz := Lib.hid (validG_no Hlt.out hz); clear hz hf
          go_wp2_with fail
          generalize wr.alloc (.cells #[.int .i64 xa, .int .i64 xb, .int .i64 xm] 33) = w0 at *
          refine wp_region_any (by kernel_rfl) ?_
          change wpAny _ _ _ _ 18 #[false, false, false, false, false, false, false, false, false, false, false, false, false, false, false, false, false, false] _ (World.drew _)
          refine with_Q (fun _ _ _ _ _ h => h) (fun Q hQ hN => ?_)
          refine wpAny_ready (rs := [0]) (by kernel_rfl) (by simp) ?_
          refine AllReady.cons rfl (fun K hK => ?_) AllReady.nil
          go_simp
          refine hK _ _ ?_
          try simp only [Act.put, List.setIfInBounds_toArray, List.set_cons_zero, List.set_cons_succ]
          clear hK K
          refine wpAny_ready (rs := [1]) (by kernel_rfl) (by simp) ?_
          refine AllReady.cons rfl (fun K hK => ?_) AllReady.nil
          go_simp
          go_at_call 67
          refine (fits8_any xa xb xm _).mono ?_; rintro e w1 ⟨rfl, hb1⟩
          refine hK _ _ ?_
          try simp only [Act.put, List.setIfInBounds_toArray, List.set_cons_zero, List.set_cons_succ]
          clear hK K
          rw [HF.out]
          refine take_op (i := 2) (d := 17) (v := .bool true) rfl rfl (by kernel_rfl) (by kernel_rfl) (by kernel_rfl) hQ (Or.inl ⟨by rfl, fun _ => by first | rfl | (go_simp; done) | (go_simp; rfl)⟩) ?_
          simp only [Act.put, List.setIfInBounds_toArray, List.set_cons_zero, List.set_cons_succ]
          refine take_op (i := 3) (d := 18) (v := .bool true) rfl rfl (by kernel_rfl) (by kernel_rfl) (by kernel_rfl) hQ (Or.inl ⟨by rfl, fun _ => by first | rfl | (go_simp; done) | (go_simp; rfl)⟩) ?_
          simp only [Act.put, List.setIfInBounds_toArray, List.set_cons_zero, List.set_cons_succ]
          refine take_op (i := 4) (d := 19) (v := undef) rfl rfl (by kernel_rfl) (by kernel_rfl) (by kernel_rfl) hQ (Or.inr ⟨by first | (simp [Region.wanted, yielded]; done) | (simp [Region.wanted, yielded]; intro h; cases h), rfl⟩) ?_
          simp only [Act.put, List.setIfInBounds_toArray, List.set_cons_zero, List.set_cons_succ]
          refine take_op (i := 5) (d := 20) (v := undef) rfl rfl (by kernel_rfl) (by kernel_rfl) (by kernel_rfl) hQ (Or.inr ⟨by first | (simp [Region.wanted, yielded]; done) | (simp [Region.wanted, yielded]; intro h; cases h), rfl⟩) ?_
          simp only [Act.put, List.setIfInBounds_toArray, List.set_cons_zero, List.set_cons_succ]
          refine take_op (i := 6) (d := 21) (v := undef) rfl rfl (by kernel_rfl) (by kernel_rfl) (by kernel_rfl) hQ (Or.inr ⟨by first | (simp [Region.wanted, yielded]; done) | (simp [Region.wanted, yielded]; intro h; cases h), rfl⟩) ?_
          simp only [Act.put, List.setIfInBounds_toArray, List.set_cons_zero, List.set_cons_succ]
          refine take_op (i := 7) (d := 22) (v := undef) rfl rfl (by kernel_rfl) (by kernel_rfl) (by kernel_rfl) hQ (Or.inr ⟨by first | (simp [Region.wanted, yielded]; done) | (simp [Region.wanted, yielded]; intro h; cases h), rfl⟩) ?_
          simp only [Act.put, List.setIfInBounds_toArray, List.set_cons_zero, List.set_cons_succ]
          refine take_op (i := 8) (d := 23) (v := undef) rfl rfl (by kernel_rfl) (by kernel_rfl) (by kernel_rfl) hQ (Or.inr ⟨by first | (simp [Region.wanted, yielded]; done) | (simp [Region.wanted, yielded]; intro h; cases h), rfl⟩) ?_
          simp only [Act.put, List.setIfInBounds_toArray, List.set_cons_zero, List.set_cons_succ]
          refine take_op (i := 9) (d := 24) (v := undef) rfl rfl (by kernel_rfl) (by kernel_rfl) (by kernel_rfl) hQ (Or.inr ⟨by first | (simp [Region.wanted, yielded]; done) | (simp [Region.wanted, yielded]; intro h; cases h), rfl⟩) ?_
          simp only [Act.put, List.setIfInBounds_toArray, List.set_cons_zero, List.set_cons_succ]
          refine take_op (i := 10) (d := 25) (v := undef) rfl rfl (by kernel_rfl) (by kernel_rfl) (by kernel_rfl) hQ (Or.inr ⟨by first | (simp [Region.wanted, yielded]; done) | (simp [Region.wanted, yielded]; intro h; cases h), rfl⟩) ?_
          simp only [Act.put, List.setIfInBounds_toArray, List.set_cons_zero, List.set_cons_succ]
          refine take_op (i := 11) (d := 26) (v := undef) rfl rfl (by kernel_rfl) (by kernel_rfl) (by kernel_rfl) hQ (Or.inr ⟨by first | (simp [Region.wanted, yielded]; done) | (simp [Region.wanted, yielded]; intro h; cases h), rfl⟩) ?_
          simp only [Act.put, List.setIfInBounds_toArray, List.set_cons_zero, List.set_cons_succ]
          refine take_op (i := 12) (d := 27) (v := undef) rfl rfl (by kernel_rfl) (by kernel_rfl) (by kernel_rfl) hQ (Or.inr ⟨by first | (simp [Region.wanted, yielded]; done) | (simp [Region.wanted, yielded]; intro h; cases h), rfl⟩) ?_
          simp only [Act.put, List.setIfInBounds_toArray, List.set_cons_zero, List.set_cons_succ]
          refine take_op (i := 13) (d := 28) (v := undef) rfl rfl (by kernel_rfl) (by kernel_rfl) (by kernel_rfl) hQ (Or.inr ⟨by first | (simp [Region.wanted, yielded]; done) | (simp [Region.wanted, yielded]; intro h; cases h), rfl⟩) ?_
          simp only [Act.put, List.setIfInBounds_toArray, List.set_cons_zero, List.set_cons_succ]
          refine take_op (i := 14) (d := 29) (v := undef) rfl rfl (by kernel_rfl) (by kernel_rfl) (by kernel_rfl) hQ (Or.inr ⟨by first | (simp [Region.wanted, yielded]; done) | (simp [Region.wanted, yielded]; intro h; cases h), rfl⟩) ?_
          simp only [Act.put, List.setIfInBounds_toArray, List.set_cons_zero, List.set_cons_succ]
          refine take_op (i := 15) (d := 30) (v := undef) rfl rfl (by kernel_rfl) (by kernel_rfl) (by kernel_rfl) hQ (Or.inr ⟨by first | (simp [Region.wanted, yielded]; done) | (simp [Region.wanted, yielded]; intro h; cases h), rfl⟩) ?_
          simp only [Act.put, List.setIfInBounds_toArray, List.set_cons_zero, List.set_cons_succ]
          refine take_op (i := 16) (d := 31) (v := undef) rfl rfl (by kernel_rfl) (by kernel_rfl) (by kernel_rfl) hQ (Or.inr ⟨by first | (simp [Region.wanted, yielded]; done) | (simp [Region.wanted, yielded]; intro h; cases h), rfl⟩) ?_
          simp only [Act.put, List.setIfInBounds_toArray, List.set_cons_zero, List.set_cons_succ]
          refine take_op (i := 17) (d := 32) (v := .bool true) rfl rfl (by kernel_rfl) (by kernel_rfl) (by kernel_rfl) hQ (Or.inl ⟨by rfl, fun _ => by first | rfl | (go_simp; done) | (go_simp; rfl)⟩) ?_
          simp only [Act.put, List.setIfInBounds_toArray, List.set_cons_zero, List.set_cons_succ]
          refine wpAny_done (by kernel_rfl) (hN _ _ ?_) _
          have hB1 := hbel.trans ((hB.drew.trans (hb1.mono hB.drew.size)).mono hbel.size)
          go_wp2
          go_ret
          exact ⟨ret_bool Hz.out.symm, hB1⟩
        | true =>
          have HF := Lib.hid hf
          have hfit := (fitsG_iff _).1 hf
          simp only at hfit
          by_cases hk00 : k = 0
          · subst hk00
            have hok1 : okToG l 1 = true := by
              have h0 : decide (lastG l 0 < xa) = true := by rw [decide_eq_true_eq]; show (-1 : Int) < xa; omega
              rw [okToG_succ, Hok.out, HokG.out, hf, h0]; rfl
            have Hok1 := Lib.hid hok1; clear hok1 hf hfit
            simp only [Nat.zero_mul, Nat.add_zero] at c0 c1 c2
            go_wp2_with fail
            generalize wr.alloc (.cells #[.int .i64 xa, .int .i64 xb, .int .i64 xm] 33) = w0 at *
            refine wp_region_any (by kernel_rfl) ?_
            change wpAny _ _ _ _ 18 #[false, false, false, false, false, false, false, false, false, false, false, false, false, false, false, false, false, false] _ (World.drew _)
            refine with_Q (fun _ _ _ _ _ h => h) (fun Q hQ hN => ?_)
            refine wpAny_ready (rs := [0]) (by kernel_rfl) (by simp) ?_
            refine AllReady.cons rfl (fun K hK => ?_) AllReady.nil
            go_simp
            refine hK _ _ ?_
            try simp only [Act.put, List.setIfInBounds_toArray, List.set_cons_zero, List.set_cons_succ]
            clear hK K
            refine wpAny_ready (rs := [1]) (by kernel_rfl) (by simp) ?_
            refine AllReady.cons rfl (fun K hK => ?_) AllReady.nil
            go_simp
            go_at_call 67
            refine (fits8_any xa xb xm _).mono ?_; rintro e w1 ⟨rfl, hb1⟩
            refine hK _ _ ?_
            try simp only [Act.put, List.setIfInBounds_toArray, List.set_cons_zero, List.set_cons_succ]
            clear hK K
            rw [HF.out]
            refine take_op (i := 2) (d := 17) (v := .bool false) rfl rfl (by kernel_rfl) (by kernel_rfl) (by kernel_rfl) hQ (Or.inl ⟨by rfl, fun _ => by first | rfl | (go_simp; done) | (go_simp; rfl)⟩) ?_
            simp only [Act.put, List.setIfInBounds_toArray, List.set_cons_zero, List.set_cons_succ]
            refine take_op (i := 3) (d := 18) (v := .bool false) rfl rfl (by kernel_rfl) (by kernel_rfl) (by kernel_rfl) hQ (Or.inl ⟨by rfl, fun _ => by first | rfl | (go_simp; done) | (go_simp; rfl)⟩) ?_
            simp only [Act.put, List.setIfInBounds_toArray, List.set_cons_zero, List.set_cons_succ]
            refine take_op (i := 4) (d := 19) (v := .int .i64 0) rfl rfl (by kernel_rfl) (by kernel_rfl) (by kernel_rfl) hQ (Or.inl ⟨by rfl, fun _ => by first | rfl | (go_simp; done) | (go_simp; rfl)⟩) ?_
            simp only [Act.put, List.setIfInBounds_toArray, List.set_cons_zero, List.set_cons_succ]
            refine take_op (i := 5) (d := 20) (v := .bool false) rfl rfl (by kernel_rfl) (by kernel_rfl) (by kernel_rfl) hQ (Or.inl ⟨by rfl, fun _ => by first | rfl | (go_simp; done) | (go_simp; rfl)⟩) ?_
            simp only [Act.put, List.setIfInBounds_toArray, List.set_cons_zero, List.set_cons_succ]
            refine take_op (i := 6) (d := 21) (v := .bool false) rfl rfl (by kernel_rfl) (by kernel_rfl) (by kernel_rfl) hQ (Or.inl ⟨by rfl, fun _ => by first | rfl | (go_simp; done) | (go_simp; rfl)⟩) ?_
            simp only [Act.put, List.setIfInBounds_toArray, List.set_cons_zero, List.set_cons_succ]
            refine take_op (i := 7) (d := 22) (v := undef) rfl rfl (by kernel_rfl) (by kernel_rfl) (by kernel_rfl) hQ (Or.inr ⟨by first | (simp [Region.wanted, yielded]; done) | (simp [Region.wanted, yielded]; intro h; cases h), rfl⟩) ?_
            simp only [Act.put, List.setIfInBounds_toArray, List.set_cons_zero, List.set_cons_succ]
            refine take_op (i := 8) (d := 23) (v := undef) rfl rfl (by kernel_rfl) (by kernel_rfl) (by kernel_rfl) hQ (Or.inr ⟨by first | (simp [Region.wanted, yielded]; done) | (simp [Region.wanted, yielded]; intro h; cases h), rfl⟩) ?_
            simp only [Act.put, List.setIfInBounds_toArray, List.set_cons_zero, List.set_cons_succ]
            refine take_op (i := 9) (d := 24) (v := undef) rfl rfl (by kernel_rfl) (by kernel_rfl) (by kernel_rfl) hQ (Or.inr ⟨by first | (simp [Region.wanted, yielded]; done) | (simp [Region.wanted, yielded]; intro h; cases h), rfl⟩) ?_
            simp only [Act.put, List.setIfInBounds_toArray, List.set_cons_zero, List.set_cons_succ]
            refine take_op (i := 10) (d := 25) (v := undef) rfl rfl (by kernel_rfl) (by kernel_rfl) (by kernel_rfl) hQ (Or.inr ⟨by first | (simp [Region.wanted, yielded]; done) | (simp [Region.wanted, yielded]; intro h; cases h), rfl⟩) ?_
            simp only [Act.put, List.setIfInBounds_toArray, List.set_cons_zero, List.set_cons_succ]
            refine take_op (i := 11) (d := 26) (v := undef) rfl rfl (by kernel_rfl) (by kernel_rfl) (by kernel_rfl) hQ (Or.inr ⟨by first | (simp [Region.wanted, yielded]; done) | (simp [Region.wanted, yielded]; intro h; cases h), rfl⟩) ?_
            simp only [Act.put, List.setIfInBounds_toArray, List.set_cons_zero, List.set_cons_succ]
            refine take_op (i := 12) (d := 27) (v := undef) rfl rfl (by kernel_rfl) (by kernel_rfl) (by kernel_rfl) hQ (Or.inr ⟨by first | (simp [Region.wanted, yielded]; done) | (simp [Region.wanted, yielded]; intro h; cases h), rfl⟩) ?_
            simp only [Act.put, List.setIfInBounds_toArray, List.set_cons_zero, List.set_cons_succ]
            refine take_op (i := 13) (d := 28) (v := undef) rfl rfl (by kernel_rfl) (by kernel_rfl) (by kernel_rfl) hQ (Or.inr ⟨by first | (simp [Region.wanted, yielded]; done) | (simp [Region.wanted, yielded]; intro h; cases h), rfl⟩) ?_
            simp only [Act.put, List.setIfInBounds_toArray, List.set_cons_zero, List.set_cons_succ]
            refine take_op (i := 14) (d := 29) (v := undef) rfl rfl (by kernel_rfl) (by kernel_rfl) (by kernel_rfl) hQ (Or.inr ⟨by first | (simp [Region.wanted, yielded]; done) | (simp [Region.wanted, yielded]; intro h; cases h), rfl⟩) ?_
            simp only [Act.put, List.setIfInBounds_toArray, List.set_cons_zero, List.set_cons_succ]
            refine take_op (i := 15) (d := 30) (v := undef) rfl rfl (by kernel_rfl) (by kernel_rfl) (by kernel_rfl) hQ (Or.inr ⟨by first | (simp [Region.wanted, yielded]; done) | (simp [Region.wanted, yielded]; intro h; cases h), rfl⟩) ?_
            simp only [Act.put, List.setIfInBounds_toArray, List.set_cons_zero, List.set_cons_succ]
            refine take_op (i := 16) (d := 31) (v := .bool false) rfl rfl (by kernel_rfl) (by kernel_rfl) (by kernel_rfl) hQ (Or.inl ⟨by rfl, fun _ => by first | rfl | (go_simp; done) | (go_simp; rfl)⟩) ?_
            simp only [Act.put, List.setIfInBounds_toArray, List.set_cons_zero, List.set_cons_succ]
            refine take_op (i := 17) (d := 32) (v := .bool false) rfl rfl (by kernel_rfl) (by kernel_rfl) (by kernel_rfl) hQ (Or.inl ⟨by rfl, fun _ => by first | rfl | (go_simp; done) | (go_simp; rfl)⟩) ?_
            simp only [Act.put, List.setIfInBounds_toArray, List.set_cons_zero, List.set_cons_succ]
            refine wpAny_done (by kernel_rfl) (hN _ _ ?_) _
            have hB1 := hbel.trans ((hB.drew.trans (hb1.mono hB.drew.size)).mono hbel.size)
            go_wp2
            exact ⟨⟨1, Hlt.out, by go_num, Hok1.out, hB1⟩, by simp [intOf]; omega⟩
          · obtain ⟨j, hkj⟩ : ∃ j, k = j + 1 := ⟨k - 1, by omega⟩
            obtain ⟨p0, _, _⟩ := Hrw.out j (by omega)
            have q0 := keepCell hB p0
            have hlast : lastG l k = (l.getD j gt0).a := by rw [hkj]; rfl
            have Hlast := Lib.hid hlast; clear hlast
            clear hk00
            have hks : IntKind.i64.wrap ((k : Int) - 1) = (j : Int) := by rw [IntWalk.i64_in _ (by omega)]; omega
            have hkk : (k : Int) - 1 = (j : Int) := by omega
            have hkw : IntKind.i64.wrap (j : Int) = (j : Int) := IntWalk.i64_in _ (by omega)
            have hj0 : (0 : Int) ≤ (j : Int) := Int.natCast_nonneg _
            have hj1 : (j : Int) < (l.length : Int) := by omega
            have hjn : j < l.length := by omega
            have hk1n : 1 ≤ k := by omega
            have hg : decide ((0 : Int) < (k : Int)) = true := by simp only [decide_eq_true_eq]; omega
            have hg2 : decide (0 < k) = true := by simp only [decide_eq_true_eq]; omega
            have Hkj := Lib.hid hkj; clear hkj
            generalize (l.getD j gt0).a = pa at *
            have HF2 := Lib.hid (hf); clear hf
            have Hfit := Lib.hid hfit; clear hfit
            by_cases hq : pa < xa
            · have hq1 : decide (xa ≤ pa) = false := by simp only [decide_eq_false_iff_not]; omega
              have hok1 : okToG l (k + 1) = true := by
                have h0 : decide (lastG l k < xa) = true := by rw [decide_eq_true_eq, Hlast.out]; exact hq
                rw [okToG_succ, Hok.out, HokG.out, HF2.out, h0]; rfl
              have Hok1 := Lib.hid hok1; clear hok1 hq
              go_wp2_with fail
              generalize wr.alloc (.cells #[.int .i64 xa, .int .i64 xb, .int .i64 xm] 33) = w0 at *
              go_region_held3 (fun w' => w'.cell? ⟨wr.heap.size, 0, none⟩ = some (.int .i64 xa) ∧ w'.cell? ⟨wr.heap.size, 1, none⟩ = some (.int .i64 xb) ∧ w'.cell? ⟨wr.heap.size, 2, none⟩ = some (.int .i64 xm) ∧ w'.cell? ⟨b, o + j * 3, none⟩ = some (.int .i64 pa)) (first | (go_keep; done) | (go_split_ands; refine ⟨keepCell hb1 ?_, keepCell hb1 ?_, keepCell hb1 ?_, keepCell hb1 ?_⟩ <;> first | assumption | (go_simp; done)))
                (first | (go_at_call 67; refine (fits8_any xa xb xm _).mono ?_; rintro e w1 ⟨rfl, hb1⟩; rw [HF.out]))
              have hB1 := hbel.trans ((hB.drew.trans (hb1.mono hB.drew.size)).mono hbel.size)
              go_wp2
              exact ⟨⟨k + 1, Hlt.out, by go_num, Hok1.out, hB1⟩, by simp [intOf]; omega⟩
            · have hq1 : decide (xa ≤ pa) = true := by simp only [decide_eq_true_eq]; omega
              have hz : okG l k = false := by
                have h0 : decide (lastG l k < xa) = false := by rw [decide_eq_false_iff_not, Hlast.out]; exact hq
                rw [HokG.out, h0, Bool.and_false]
              have Hz := Lib.hid (validG_no Hlt.out hz); clear hz hq
              go_wp2_with fail
              generalize wr.alloc (.cells #[.int .i64 xa, .int .i64 xb, .int .i64 xm] 33) = w0 at *
              go_region_held3 (fun w' => w'.cell? ⟨wr.heap.size, 0, none⟩ = some (.int .i64 xa) ∧ w'.cell? ⟨wr.heap.size, 1, none⟩ = some (.int .i64 xb) ∧ w'.cell? ⟨wr.heap.size, 2, none⟩ = some (.int .i64 xm) ∧ w'.cell? ⟨b, o + j * 3, none⟩ = some (.int .i64 pa)) (first | (go_keep; done) | (go_split_ands; refine ⟨keepCell hb1 ?_, keepCell hb1 ?_, keepCell hb1 ?_, keepCell hb1 ?_⟩ <;> first | assumption | (go_simp; done)))
                (first | (go_at_call 67; refine (fits8_any xa xb xm _).mono ?_; rintro e w1 ⟨rfl, hb1⟩; rw [HF.out]))
              have hB1 := hbel.trans ((hB.drew.trans (hb1.mono hB.drew.size)).mono hbel.size)
              go_wp2
              go_ret
              exact ⟨ret_bool Hz.out.symm, hB1⟩
      · obtain rfl : k = l.length := by omega
        have hz := validG_yes h12 Hok.out
        have Hz := Lib.hid hz; clear hz
        go_wp2
        go_ret
        exact ⟨ret_bool Hz.out.symm, hbel⟩
  · have hz := validG_long h12
    have Hz := Lib.hid hz; clear hz
    have h13 : (10 : Int) < (l.length : Int) := by omega
    go_enter Try.func25, Try.ntmps25
    go_wp2
    go_ret
    exact ⟨ret_bool Hz.out.symm, Below.refl _ _⟩

end Go.Proofs.Ythhllpnbmelidaa
