/- SeatsTakings of the model. -/
import Derived.Test.YtmadfbncoibapaaEM
import Derived.Test.YtmadfbncoibapaaEZ
import Derived.Test.YtmadfbncoibapaaIZ
namespace Go.Proofs.Ytmadfbncoibapaa
open Go.RowKit

theorem IntsIn.at {w : World} {v : Value} {q : List Int} (h : IntsIn w v q) : ∃ (a : Option Addr) (cap : Nat), v = .slice a q.length cap ∧ (q ≠ [] → ∃ b o, a = some ⟨b, o, none⟩ ∧ b < w.heap.size ∧ IntAt w b o q) := by
  obtain ⟨a, c, e, _, h⟩ := h; exact ⟨a, c, e, h⟩

set_option maxRecDepth 100000 in
set_option maxHeartbeats 4000000 in
theorem takings1_any (n : Int) (v vm : Value) (l : List Bk) (ms : List Int) (a b : Int) (w : World) (wn : W64 n) (hv : BkIn w v l) (hvm : IntsIn w vm ms) (hl : l.length ≤ 1048576) (hlm : ms.length ≤ 1048576) :
    Calls Try.prog 41 #[.int .i64 n, v, vm, .int .i64 a, .int .i64 b] w (Quiet (.int .i64 (takV n l ms a b)) w) := by
  have HV := Lib.hid (books1_any n v l w wn hv hl)
  have HT := Lib.hid (fun w' (h : Drewn w w') (g : Int) (k : Bool) => taken1_any v l g k w' (hv.below h.below) hl)
  obtain ⟨ad, cap, rfl, ha⟩ := hvm.at
  have Ha := Lib.hid ha; clear ha hvm
  clear hv
  have hok := takOk_iff (n := n) (l := l) (ms := ms) (a := a) (b := b)
  cases hz : validB n l with
  | false =>
    rw [takV_no (Bool.eq_false_iff.2 fun h => by have := (hok.1 h).1; rw [hz] at this; cases this)]
    rw [hz] at HV
    clear hok hz
    go_enter Try.func41, Try.ntmps41
    go_wp2_with fail
    refine HV.out.mono ?_; rintro e w1 ⟨rfl, m1, rfl⟩
    go_wp2
    go_ret
    exact ⟨rfl, m1, rfl⟩
  | true =>
    rw [hz] at HV
    by_cases hlen : (ms.length : Int) = n
    · have hne : ((ms.length : Int) != n) = false := by simp [hlen]
      cases hfa : fareB a with
      | false =>
        rw [takV_no (Bool.eq_false_iff.2 fun h => by have := (hok.1 h).2.2.1; rw [hfa] at this; cases this)]
        have P1 := Lib.hid (show inB a 0 100 = false from hfa)
        clear hok hz hfa hlen
        go_enter Try.func41, Try.ntmps41
        go_wp2_with fail
        refine HV.out.mono ?_; rintro e w1 ⟨rfl, m1, rfl⟩
        go_wp2_with fail
        refine (l6In_any _ _ _ _).mono ?_; rintro e w2 ⟨rfl, rfl⟩
        rw [P1.out]
        go_wp2
        go_ret
        exact ⟨rfl, m1, rfl⟩
      | true =>
        cases hfb : fareB b with
        | false =>
          rw [takV_no (Bool.eq_false_iff.2 fun h => by have := (hok.1 h).2.2.2; rw [hfb] at this; cases this)]
          have P1 := Lib.hid (show inB a 0 100 = true from hfa)
          have P2 := Lib.hid (show inB b 0 100 = false from hfb)
          clear hok hz hfa hfb hlen
          go_enter Try.func41, Try.ntmps41
          go_wp2_with fail
          refine HV.out.mono ?_; rintro e w1 ⟨rfl, m1, rfl⟩
          go_wp2_with fail
          refine (l6In_any _ _ _ _).mono ?_; rintro e w2 ⟨rfl, rfl⟩
          rw [P1.out]
          go_wp2_with fail
          refine (l6In_any _ _ _ _).mono ?_; rintro e w2 ⟨rfl, rfl⟩
          rw [P2.out]
          go_wp2
          go_ret
          exact ⟨rfl, m1, rfl⟩
        | true =>
          have P1 := Lib.hid (show inB a 0 100 = true from hfa)
          have P2 := Lib.hid (show inB b 0 100 = true from hfb)
          obtain ⟨⟨hn1, hn7⟩, hl16, _, _⟩ := validB_iff.1 hz
          have Hfa := Lib.hid (fareB_iff.1 hfa)
          have Hfb := Lib.hid (fareB_iff.1 hfb)
          have Hno := Lib.hid (fun g (hg : g < ms.length) (h : ¬ (1 ≤ ms.getD g 0 ∧ ms.getD g 0 ≤ 99)) => takV_no (Bool.eq_false_iff.2 fun h' => by
            have := (milesB_iff.1 (hok.1 h').2.1).2
            rw [milesTo_no hg h] at this; cases this))
          have Hyes := Lib.hid (fun (h : milesTo ms ms.length = true) => takV_yes (hok.2 ⟨hz, milesB_iff.2 ⟨hlen, h⟩, hfa, hfb⟩))
          subst hlen
          clear hok hz hfa hfb
          go_enter Try.func41, Try.ntmps41
          go_wp2_with fail
          refine HV.out.mono ?_; rintro e w1 ⟨rfl, m1, rfl⟩
          go_wp2_with fail
          refine (l6In_any _ _ _ _).mono ?_; rintro e w2 ⟨rfl, rfl⟩
          rw [P1.out]
          go_wp2_with fail
          refine (l6In_any _ _ _ _).mono ?_; rintro e w2 ⟨rfl, rfl⟩
          rw [P2.out]
          go_wp2
          go_loopw [11, 12] (fun s i wr => ∃ k : Nat, k ≤ ms.length ∧ s = .int .i64 (legTo l ms a b k) ∧ i = .int .i64 k ∧ milesTo ms k = true ∧ Drewn w wr) (fun _ i _ => ms.length - (intOf i).toNat)
          case atStart => exact ⟨0, Nat.zero_le _, rfl, rfl, milesTo_zero ms, m1, rfl⟩
          case round =>
            obtain ⟨k, hk, rfl, rfl, hmt, hw⟩ := hrel
            have HW := Lib.hid hw
            have Hmt := Lib.hid hmt
            have hbd := legTo_bd hl16 Hfa.out Hfb.out hmt
            by_cases hlt : k < ms.length
            · have hlt' : (k : Int) < (ms.length : Int) := by omega
              have hk0 : (0 : Int) ≤ (k : Int) := Int.natCast_nonneg _
              obtain ⟨bq, oq, rfl, hbq0, hrq⟩ := Ha.out (by intro h; simp [h] at hlt)
              have c := (hrq.below hw.below hbq0) k hlt
              have hno := Hno.out k hlt
              have hs : legTo l ms a b (k + 1) = legTo l ms a b k + ms.getD k 0 * (a * (takenB l (k : Int) true : Int) + b * (takenB l (k : Int) false : Int)) := rfl
              have hms := milesTo_succ ms k
              rw [hmt] at hms
              have t1 := takenB_le l (k : Int) true
              have t2 := takenB_le l (k : Int) false
              have hT := fun (kk : Bool) (nn : Nat) => HT.out (wr.drewN nn) (hw.drewN nn) (k : Int) kk
              clear hrq hw hmt
              obtain ⟨f, hf⟩ : ∃ f : Bool → Nat, ∀ kk, takenB l (k : Int) kk = f kk := ⟨_, fun _ => rfl⟩
              simp only [hf] at hs t1 t2 hT
              have HTk := Lib.hid hT
              clear hT hf
              generalize ms.getD k 0 = y at *
              generalize legTo l ms a b k = s0 at *
              by_cases hy : 1 ≤ y ∧ y ≤ 99
              · obtain ⟨hy1, hy2⟩ := hy
                have p3 : inB y 1 99 = true := (inB_iff _ _ _).2 ⟨hy1, hy2⟩
                have P3 := Lib.hid p3
                have Hms := Lib.hid (show milesTo ms (k + 1) = true by rw [hms, decide_eq_true hy1, decide_eq_true hy2]; rfl)
                have ha' := Hfa.out
                have hb' := Hfb.out
                have b1 := mul_bd ha'.1 ha'.2 (show (0 : Int) ≤ (f true : Int) by omega) (show (f true : Int) ≤ 16 by omega)
                have b2 := mul_bd hb'.1 hb'.2 (show (0 : Int) ≤ (f false : Int) by omega) (show (f false : Int) ≤ 16 by omega)
                have b3 := mul_bd (show (0 : Int) ≤ y by omega) hy2 (show 0 ≤ a * (f true : Int) + b * (f false : Int) by omega) (show a * (f true : Int) + b * (f false : Int) ≤ 3200 by omega)
                have w1 : IntKind.i64.wrap (a * (f true : Int)) = a * (f true : Int) := IntWalk.i64_in _ (by omega)
                have w2 : IntKind.i64.wrap (b * (f false : Int)) = b * (f false : Int) := IntWalk.i64_in _ (by omega)
                have w3 : IntKind.i64.wrap (a * (f true : Int) + b * (f false : Int)) = a * (f true : Int) + b * (f false : Int) := IntWalk.i64_in _ (by omega)
                have w4 : IntKind.i64.wrap (y * (a * (f true : Int) + b * (f false : Int))) = y * (a * (f true : Int) + b * (f false : Int)) := IntWalk.i64_in _ (by omega)
                have w5 : IntKind.i64.wrap (s0 + y * (a * (f true : Int) + b * (f false : Int))) = s0 + y * (a * (f true : Int) + b * (f false : Int)) := IntWalk.i64_in _ (by omega)
                have v1 : wrap64 (a * (f true : Int)) = a * (f true : Int) := by unfold wrap64; omega
                have v2 : wrap64 (b * (f false : Int)) = b * (f false : Int) := by unfold wrap64; omega
                have v3 : wrap64 (a * (f true : Int) + b * (f false : Int)) = a * (f true : Int) + b * (f false : Int) := by unfold wrap64; omega
                have v4 : wrap64 (y * (a * (f true : Int) + b * (f false : Int))) = y * (a * (f true : Int) + b * (f false : Int)) := by unfold wrap64; omega
                have v5 : wrap64 (s0 + y * (a * (f true : Int) + b * (f false : Int))) = s0 + y * (a * (f true : Int) + b * (f false : Int)) := by unfold wrap64; omega
                have Hs := Lib.hid hs
                clear hs hms hno p3 b1 b2 b3 ha' hb' t1 t2 hbd
                go_wp2_with fail
                refine (l6In_any _ _ _ _).mono ?_; rintro e w2 ⟨rfl, rfl⟩
                rw [P3.out]
                go_wp2_with fail
                go_quiet ((go_at_call 50; exact Calls.hush (HTk.out _ _)))
                go_wp2
                exact ⟨⟨k + 1, hlt, by rw [Hs.out], by go_num, Hms.out, HW.out.drewN _⟩, by simp [intOf]; omega⟩
              · have P3 := Lib.hid (show inB y 1 99 = false from Bool.eq_false_iff.2 fun h => hy ((inB_iff _ _ _).1 h))
                have Hn := Lib.hid (hno hy)
                clear hs hms hno hbd HTk t1 t2
                go_wp2_with fail
                refine (l6In_any _ _ _ _).mono ?_; rintro e w2 ⟨rfl, rfl⟩
                rw [P3.out]
                go_wp2
                go_ret
                exact ⟨ret_int Hn.out.symm, HW.out⟩
            · obtain rfl : k = ms.length := by omega
              have Hy := Lib.hid (Hyes.out Hmt.out)
              clear hw hmt hbd
              go_wp2
              go_ret
              exact ⟨ret_int Hy.out.symm, HW.out⟩
    · have hne : ((ms.length : Int) != n) = true := by simpa using hlen
      rw [takV_no (Bool.eq_false_iff.2 fun h => hlen (milesB_iff.1 (hok.1 h).2.1).1)]
      clear hok hz hlen
      go_enter Try.func41, Try.ntmps41
      go_wp2_with fail
      refine HV.out.mono ?_; rintro e w1 ⟨rfl, m1, rfl⟩
      go_wp2
      go_ret
      exact ⟨rfl, m1, rfl⟩

end Go.Proofs.Ytmadfbncoibapaa
