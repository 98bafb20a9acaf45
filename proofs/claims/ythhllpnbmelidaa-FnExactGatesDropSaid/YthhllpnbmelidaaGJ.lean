/- The model's GatesValid, l8Way, l8Ok. -/
import Derived.Test.YthhllpnbmelidaaGI
import Derived.Test.YthhllpnbmelidaaQW
namespace Go.Proofs.Ythhllpnbmelidaa
open Go.RowKit
set_option linter.unusedVariables false
set_option linter.unusedSimpArgs false

theorem lastG_bd {l : List Gt} {k : Nat} (h : okToG l k = true) : -1 ≤ lastG l k ∧ lastG l k ≤ 999 := by
  cases k with
  | zero => exact ⟨by show (-1 : Int) ≤ -1; omega, by show (-1 : Int) ≤ 999; omega⟩
  | succ j =>
    have := (fitsG_iff _).1 ((okG_iff _ _).1 (okToG_at h (show j < j + 1 by omega))).1
    show -1 ≤ (l.getD j gt0).a ∧ (l.getD j gt0).a ≤ 999
    omega

def Gv1Rel (l : List Gt) (w : World) (lv i : Value) (wr : World) : Prop := ∃ k : Nat, k ≤ l.length ∧ lv = .int .i64 (lastG l k) ∧ i = .int .i64 k ∧ okToG l k = true ∧ Below w.heap.size w wr

set_option maxRecDepth 100000 in
set_option maxHeartbeats 1000000 in
theorem gv1_any (v : Value) (l : List Gt) (w : World) (hv : GtIn w v l) (hl : l.length ≤ 1048577) :
    Calls Try.prog 23 #[v] w (Gives (.bool (validG l)) w) := by
  have Hv := Lib.hid hv
  obtain ⟨a, cap, rfl, hcap, ha⟩ := hv
  clear hcap
  have Ha := Lib.hid ha; clear ha
  go_enter Try.func23, Try.ntmps23
  go_wp2
  go_loopw [3, 4] (fun lv i wr => Gv1Rel l w lv i wr) (fun _ i _ => l.length - (intOf i).toNat)
  case atStart => exact ⟨0, Nat.zero_le _, rfl, rfl, rfl, Below.refl _ _⟩
  case round =>
    obtain ⟨k, hk, rfl, rfl, hok, hw⟩ := hrel
    have HW := Lib.hid hw; clear hw
    obtain ⟨la0, la1⟩ := lastG_bd hok
    have Hok := Lib.hid hok; clear hok
    by_cases hlt : k < l.length
    · obtain ⟨b, o, rfl, hb0, hrw⟩ := Ha.out (by intro h; simp [h] at hlt)
      obtain ⟨c0, c1, c2⟩ := (hrw.below HW.out hb0) k hlt
      clear hrw
      have hokU : okG l k = (fitsG (l.getD k gt0) && decide (lastG l k < (l.getD k gt0).a)) := rfl
      have hfit := fitsG_iff (l.getD k gt0)
      have hlast : lastG l (k + 1) = (l.getD k gt0).a := rfl
      have hk0 : (0 : Int) ≤ (k : Int) := Int.natCast_nonneg _
      have hk1 : (k : Int) < (l.length : Int) := by omega
      generalize hga : (l.getD k gt0).a = xa at *
      generalize hgb : (l.getD k gt0).b = xb at *
      generalize hgm : (l.getD k gt0).m = xm at *
      generalize hgl : lastG l k = la at *
      have Hl := Lib.hid (show okG l k = false → validG l = false from fun h => validG_no hlt h)
      have HokU := Lib.hid hokU; clear hokU
      have Hfit := Lib.hid hfit; clear hfit
      have Hlast := Lib.hid hlast; clear hlast
      clear hga hgb hgl hgm
      have hs : IntKind.i64.wrap (la + 1) = la + 1 := IntWalk.i64_in _ (by omega)
      have hno : ¬ (la + 1 ≤ xa ∧ xa ≤ 999 ∧ 0 ≤ xb ∧ xb ≤ 3 ∧ 1 ≤ xm ∧ xm ≤ 99) → validG l = false := fun hn => Hl.out (by
        rw [Bool.eq_false_iff]; intro h
        rw [HokU.out, Bool.and_eq_true, decide_eq_true_eq] at h
        have := Hfit.out.1 h.1; omega)
      have Hno := Lib.hid hno; clear hno
      have hA0 : (wr.alloc (.cells #[.int .i64 xa, .int .i64 xb, .int .i64 xm] 33)).cell? ⟨wr.heap.size, 0, none⟩ = some (.int .i64 xa) := by go_simp
      have hA1 : (wr.alloc (.cells #[.int .i64 xa, .int .i64 xb, .int .i64 xm] 33)).cell? ⟨wr.heap.size, 1, none⟩ = some (.int .i64 xb) := by go_simp
      have hA2 : (wr.alloc (.cells #[.int .i64 xa, .int .i64 xb, .int .i64 xm] 33)).cell? ⟨wr.heap.size, 2, none⟩ = some (.int .i64 xm) := by go_simp
      have HB := Lib.hid (HW.out.alloc HW.out.size (.cells #[.int .i64 xa, .int .i64 xb, .int .i64 xm] 33))
      cases p1 : inB xa (la + 1) 999 with
      | true =>
        cases p2 : inB xb 0 3 with
        | true =>
          cases p3 : inB xm 1 99 with
          | true =>
            have hok1 : okToG l (k + 1) = true := by
              have q1 := (inB_iff _ _ _).1 p1
              have q2 := (inB_iff _ _ _).1 p2
              have q3 := (inB_iff _ _ _).1 p3
              rw [okToG_succ, Hok.out, HokU.out, Hfit.out.2 (by omega), decide_eq_true (by omega)]; rfl
            have Hok1 := Lib.hid hok1; clear hok1
            go_wp2_with fail
            generalize wr.alloc (.cells #[.int .i64 xa, .int .i64 xb, .int .i64 xm] 33) = w0 at *
            refine (l6In_any _ _ _ _).mono ?_; rintro e w' ⟨rfl, rfl⟩
            rw [p1]
            go_wp2_with fail
            refine (l6In_any _ _ _ _).mono ?_; rintro e w' ⟨rfl, rfl⟩
            rw [p2]
            go_wp2_with fail
            refine (l6In_any _ _ _ _).mono ?_; rintro e w' ⟨rfl, rfl⟩
            rw [p3]
            go_wp2
            exact ⟨⟨k + 1, hlt, by rw [Hlast.out], by go_num, Hok1.out, HB.out⟩, by simp [intOf]; omega⟩
          | false =>
            have Hz := Lib.hid (Hno.out (fun h => by have : inB xm 1 99 = true := (inB_iff _ _ _).2 (by omega); rw [this] at p3; cases p3))
            go_wp2_with fail
            generalize wr.alloc (.cells #[.int .i64 xa, .int .i64 xb, .int .i64 xm] 33) = w0 at *
            refine (l6In_any _ _ _ _).mono ?_; rintro e w' ⟨rfl, rfl⟩
            rw [p1]
            go_wp2_with fail
            refine (l6In_any _ _ _ _).mono ?_; rintro e w' ⟨rfl, rfl⟩
            rw [p2]
            go_wp2_with fail
            refine (l6In_any _ _ _ _).mono ?_; rintro e w' ⟨rfl, rfl⟩
            rw [p3]
            go_wp2
            go_ret
            exact ⟨ret_bool Hz.out.symm, HB.out⟩
        | false =>
          have Hz := Lib.hid (Hno.out (fun h => by have : inB xb 0 3 = true := (inB_iff _ _ _).2 (by omega); rw [this] at p2; cases p2))
          go_wp2_with fail
          generalize wr.alloc (.cells #[.int .i64 xa, .int .i64 xb, .int .i64 xm] 33) = w0 at *
          refine (l6In_any _ _ _ _).mono ?_; rintro e w' ⟨rfl, rfl⟩
          rw [p1]
          go_wp2_with fail
          refine (l6In_any _ _ _ _).mono ?_; rintro e w' ⟨rfl, rfl⟩
          rw [p2]
          go_wp2
          go_ret
          exact ⟨ret_bool Hz.out.symm, HB.out⟩
      | false =>
        have Hz := Lib.hid (Hno.out (fun h => by have : inB xa (la + 1) 999 = true := (inB_iff _ _ _).2 (by omega); rw [this] at p1; cases p1))
        go_wp2_with fail
        generalize wr.alloc (.cells #[.int .i64 xa, .int .i64 xb, .int .i64 xm] 33) = w0 at *
        refine (l6In_any _ _ _ _).mono ?_; rintro e w' ⟨rfl, rfl⟩
        rw [p1]
        go_wp2
        go_ret
        exact ⟨ret_bool Hz.out.symm, HB.out⟩
    · obtain rfl : k = l.length := by omega
      by_cases h12 : l.length ≤ 10
      · have hz := validG_yes h12 Hok.out
        have Hz := Lib.hid hz; clear hz
        have hd : decide ((l.length : Int) ≤ 10) = true := by simp only [decide_eq_true_eq]; omega
        go_wp2
        go_ret
        exact ⟨ret_bool Hz.out.symm, HW.out⟩
      · have hz := validG_long h12
        have Hz := Lib.hid hz; clear hz
        have hd : decide ((l.length : Int) ≤ 10) = false := by simp only [decide_eq_false_iff_not]; omega
        go_wp2
        go_ret
        exact ⟨ret_bool Hz.out.symm, HW.out⟩

def okWay (l : List Gt) (f t : Int) : Bool := validG l && inB f 0 1000 && inB t 0 1000
theorem okWay_pass (l : List Gt) (f t : Int) : okWay l f t = passOk l f t := by
  unfold okWay passOk okEnds; rw [Bool.and_assoc]

set_option maxHeartbeats 400000 in
theorem way1_any (v : Value) (l : List Gt) (f t : Int) (w : World) (hv : GtIn w v l) (hl : l.length ≤ 1048576) :
    Calls Try.prog 75 #[v, .int .i64 f, .int .i64 t] w (Gives (.bool (okWay l f t)) w) := by
  have Hc := Lib.hid (gv1_any v l w hv (by omega))
  clear hv
  cases hz : validG l with
  | true =>
    rw [hz] at Hc
    cases h1 : inB f 0 1000 with
    | true =>
      have Hr := Lib.hid (show okWay l f t = inB t 0 1000 by unfold okWay; rw [hz, h1]; rfl)
      have H1 := Lib.hid h1; clear h1 hz
      go_enter Try.func75, Try.ntmps75
      go_wp2_with fail
      refine Hc.out.mono ?_; rintro e w1 ⟨rfl, hb1⟩
      go_wp2_with fail
      refine (l6In_any _ _ _ _).mono ?_; rintro e w' ⟨rfl, rfl⟩
      rw [H1.out]
      go_wp2_with fail
      refine (l6In_any _ _ _ _).mono ?_; rintro e w' ⟨rfl, rfl⟩
      go_wp2
      go_ret
      exact ⟨ret_bool Hr.out.symm, hb1⟩
    | false =>
      have Hr := Lib.hid (show okWay l f t = false by unfold okWay; rw [hz, h1]; rfl)
      have H1 := Lib.hid h1; clear h1 hz
      go_enter Try.func75, Try.ntmps75
      go_wp2_with fail
      refine Hc.out.mono ?_; rintro e w1 ⟨rfl, hb1⟩
      go_wp2_with fail
      refine (l6In_any _ _ _ _).mono ?_; rintro e w' ⟨rfl, rfl⟩
      rw [H1.out]
      go_wp2
      go_ret
      exact ⟨ret_bool Hr.out.symm, hb1⟩
  | false =>
    rw [hz] at Hc
    have Hr := Lib.hid (show okWay l f t = false by unfold okWay; rw [hz]; rfl)
    clear hz
    go_enter Try.func75, Try.ntmps75
    go_wp2_with fail
    refine Hc.out.mono ?_; rintro e w1 ⟨rfl, hb1⟩
    go_wp2
    go_ret
    exact ⟨ret_bool Hr.out.symm, hb1⟩

set_option maxHeartbeats 400000 in
theorem ok1_any (v : Value) (l : List Gt) (free f t : Int) (w : World) (hv : GtIn w v l) (hl : l.length ≤ 1048576) :
    Calls Try.prog 79 #[v, .int .i64 free, .int .i64 f, .int .i64 t] w (Gives (.bool (okT l free f t)) w) := by
  have Hc := Lib.hid (way1_any v l f t w hv hl)
  clear hv
  have hr : okT l free f t = (okWay l f t && inB free 0 999) := rfl
  have Hr := Lib.hid hr; clear hr
  cases hz : okWay l f t with
  | true =>
    rw [hz] at Hc Hr
    rw [Bool.true_and] at Hr
    clear hz
    go_enter Try.func79, Try.ntmps79
    go_wp2_with fail
    refine Hc.out.mono ?_; rintro e w1 ⟨rfl, hb1⟩
    go_wp2_with fail
    refine (l6In_any _ _ _ _).mono ?_; rintro e w' ⟨rfl, rfl⟩
    go_wp2
    go_ret
    exact ⟨ret_bool Hr.out.symm, hb1⟩
  | false =>
    rw [hz] at Hc Hr
    rw [Bool.false_and] at Hr
    clear hz
    go_enter Try.func79, Try.ntmps79
    go_wp2_with fail
    refine Hc.out.mono ?_; rintro e w1 ⟨rfl, hb1⟩
    go_wp2
    go_ret
    exact ⟨ret_bool Hr.out.symm, hb1⟩

end Go.Proofs.Ythhllpnbmelidaa
