/- SeatsTakings of the program. -/
import Derived.Test.YtmadfbncoibapaaEQ
import Derived.Test.YtmadfbncoibapaaEZ
namespace Go.Proofs.Ytmadfbncoibapaa
open Go.RowKit

set_option maxHeartbeats 400000 in
theorem fareFits_any (a : Int) (w : World) : Calls Try.prog 65 #[.int .i64 a] w fun e w' => e = .returned (.bool (fareB a)) ∧ w = w' := by
  by_cases h1 : 0 ≤ a
  · go_enter Try.func65, Try.ntmps65
    go_wp2
    go_ret
    exact ⟨ret_bool (by simp [fareB, h1]), rfl⟩
  · go_enter Try.func65, Try.ntmps65
    go_wp2
    go_ret
    exact ⟨ret_bool (by simp [fareB]; omega), rfl⟩

set_option maxHeartbeats 400000 in
theorem fareOf_any (k : Bool) (x : Nat) (a b : Int) (w : World) : Calls Try.prog 67 #[psV k x, .int .i64 a, .int .i64 b] w fun e w' => e = .returned (.int .i64 (fareK k a b)) ∧ w = w' := by
  cases k with
  | true =>
    have hta : ∀ w, (Instr.typeAssert (.iface 92 (.int .u8 x)) 65 92 true).run Try.prog w = .ok (.tuple #[.int .u8 x, .bool true]) w := fun w => by kernel_rfl
    show Calls Try.prog 67 #[.iface 92 (.int .u8 x), .int .i64 a, .int .i64 b] w fun e w' => e = .returned (.int .i64 a) ∧ w = w'
    go_enter Try.func67, Try.ntmps67
    go_wp2
    go_ret
    exact ⟨rfl, rfl⟩
  | false =>
    have hta : ∀ w, (Instr.typeAssert (.iface 94 (.int .u8 x)) 65 92 true).run Try.prog w = .ok (.tuple #[.int .u8 0, .bool false]) w := fun w => by kernel_rfl
    show Calls Try.prog 67 #[.iface 94 (.int .u8 x), .int .i64 a, .int .i64 b] w fun e w' => e = .returned (.int .i64 b) ∧ w = w'
    go_enter Try.func67, Try.ntmps67
    go_wp2
    go_ret
    exact ⟨rfl, rfl⟩

set_option maxRecDepth 100000 in
set_option maxHeartbeats 1000000 in
theorem milesFit_any (n : Int) (v : Value) (ms : List Int) (w : World) (hv : IntsIn w v ms) (hl : ms.length ≤ 1048576) :
    Calls Try.prog 64 #[.int .i64 n, v] w (Quiet (.bool (milesB n ms)) w) := by
  obtain ⟨a, cap, rfl, hcap, ha⟩ := hv
  clear hcap
  have Ha := Lib.hid ha; clear ha
  by_cases hlen : (ms.length : Int) = n
  · have hne : ((ms.length : Int) != n) = false := by simp [hlen]
    have HB := Lib.hid (show milesB n ms = milesTo ms ms.length by unfold milesB; rw [decide_eq_true hlen]; rfl)
    clear hlen
    go_enter Try.func64, Try.ntmps64
    go_wp2
    go_loopw [13] (fun i wr => ∃ k : Nat, k ≤ ms.length ∧ i = .int .i64 k ∧ milesTo ms k = true ∧ Drewn w wr) (fun i _ => ms.length - (intOf i).toNat)
    case atStart => exact ⟨0, Nat.zero_le _, rfl, milesTo_zero ms, Drewn.refl w⟩
    case round =>
      obtain ⟨k, hk, rfl, hok, hw⟩ := hrel
      have HW := Lib.hid hw
      have Hok := Lib.hid hok
      clear hok
      by_cases hlt : k < ms.length
      · have hlt' : (k : Int) < (ms.length : Int) := by omega
        obtain ⟨b, o, rfl, hb0, hr⟩ := Ha.out (by intro h; simp [h] at hlt)
        have c := (hr.below hw.below hb0) k hlt
        have hs := milesTo_succ ms k
        have hno := milesTo_no (ms := ms) hlt
        rw [Hok.out] at hs
        clear hr hw
        generalize ms.getD k 0 = y at *
        by_cases q1 : 1 ≤ y
        · by_cases q2 : y ≤ 99
          · have Hs := Lib.hid (show milesTo ms (k + 1) = true by rw [hs, decide_eq_true q1, decide_eq_true q2]; rfl)
            clear hs hno
            go_wp2
            exact ⟨⟨k + 1, hlt, by go_num, Hs.out, HW.out⟩, by simp [intOf]; omega⟩
          · have Hno := Lib.hid (hno (fun h => q2 h.2))
            have q2' : (99 : Int) < y := by omega
            clear hs hno q2
            go_wp2
            go_ret
            exact ⟨ret_bool (by rw [HB.out, Hno.out]), HW.out⟩
        · have Hno := Lib.hid (hno (fun h => q1 h.1))
          have q1' : y < 1 := by omega
          clear hs hno q1
          go_wp2
          go_ret
          exact ⟨ret_bool (by rw [HB.out, Hno.out]), HW.out⟩
      · obtain rfl : k = ms.length := by omega
        clear hw
        go_wp2
        go_ret
        exact ⟨ret_bool (by rw [HB.out, Hok.out]), HW.out⟩
  · have hne : ((ms.length : Int) != n) = true := by simpa using hlen
    have HB := Lib.hid (show milesB n ms = false by unfold milesB; rw [decide_eq_false hlen]; rfl)
    clear hlen
    go_enter Try.func64, Try.ntmps64
    go_wp2
    go_ret
    exact ⟨ret_bool HB.out.symm, 0, rfl⟩

set_option maxRecDepth 100000 in
set_option maxHeartbeats 1000000 in
theorem miles_any (r : Bk) (v : Value) (ms : List Int) (w : World) (hr : fit7 r) (hv : IntsIn w v ms) (hl : ms.length ≤ 7) (hm : milesTo ms ms.length = true) :
    Calls Try.prog 66 #[.int .u8 (maskB r : Nat), v] w (Quiet (.int .i64 (legMiles r ms ms.length)) w) := by
  obtain ⟨a, cap, rfl, hcap, ha⟩ := hv
  clear hcap
  have Ha := Lib.hid ha; clear ha
  have HH := Lib.hid (fun (g : Nat) (w : World) (hg : g < 8) => has_any (maskB r) g w (maskB_lt hr) hg)
  have Hhas := Lib.hid (fun (g : Nat) (hg : g < 8) => maskB_has hr hg)
  have Hm := Lib.hid hm; clear hm hr
  generalize hx : maskB r = x at *
  clear hx
  go_enter Try.func66, Try.ntmps66
  go_wp2
  go_loopw [5, 10] (fun s i wr => ∃ k : Nat, k ≤ ms.length ∧ s = .int .i64 (legMiles r ms k) ∧ i = .int .i64 k ∧ Drewn w wr) (fun _ i _ => ms.length - (intOf i).toNat)
  case atStart => exact ⟨0, Nat.zero_le _, rfl, rfl, Drewn.refl w⟩
  case round =>
    obtain ⟨k, hk, rfl, rfl, hw⟩ := hrel
    have HW := Lib.hid hw
    by_cases hlt : k < ms.length
    · have hlt' : (k : Int) < (ms.length : Int) := by omega
      obtain ⟨b, o, rfl, hb0, hr⟩ := Ha.out (by intro h; simp [h] at hlt)
      have c := (hr.below hw.below hb0) k hlt
      have hs : legMiles r ms (k + 1) = legMiles r ms k + if r.a ≤ (k : Int) ∧ (k : Int) < r.b then ms.getD k 0 else 0 := rfl
      have hy := milesTo_at Hm.out hlt
      have hbd := legMiles_bd r (ms := ms) (g := k) (by
        have h := Hm.out
        simp only [milesTo, List.all_eq_true, List.mem_range] at h ⊢
        exact fun g hg => h g (by omega))
      have HHk := Lib.hid (fun w => HH.out k w (by omega))
      have hh := Hhas.out k (by omega)
      clear hr hw
      generalize ms.getD k 0 = y at *
      generalize legMiles r ms k = z at *
      cases hq : hasB x k with
      | true =>
        rw [hq] at HHk hh
        have h2 : r.a ≤ (k : Int) ∧ (k : Int) < r.b := by simpa using hh.symm
        rw [if_pos h2] at hs
        have Hs := Lib.hid hs; clear hs hh h2 hq
        go_wp2_with fail
        refine (HHk.out _).mono ?_; rintro e w1 ⟨rfl, rfl⟩
        go_wp2
        exact ⟨⟨k + 1, hlt, by rw [Hs.out], by go_num, HW.out⟩, by simp [intOf]; omega⟩
      | false =>
        rw [hq] at HHk hh
        have h2 : ¬ (r.a ≤ (k : Int) ∧ (k : Int) < r.b) := fun h => by rw [decide_eq_true h.1, decide_eq_true h.2] at hh; cases hh
        rw [if_neg h2] at hs
        have Hs := Lib.hid hs; clear hs hh h2 hq
        go_wp2_with fail
        refine (HHk.out _).mono ?_; rintro e w1 ⟨rfl, rfl⟩
        go_wp2
        exact ⟨⟨k + 1, hlt, by rw [Hs.out]; go_num, by go_num, HW.out⟩, by simp [intOf]; omega⟩
    · obtain rfl : k = ms.length := by omega
      clear hw
      go_wp2
      go_ret
      exact ⟨rfl, HW.out⟩

set_option maxRecDepth 100000 in
set_option maxHeartbeats 4000000 in
theorem takings2_any (n : Int) (v vm : Value) (l : List Bk) (ms : List Int) (a b : Int) (w : World) (hv : BkIn w v l) (hvm : IntsIn w vm ms) (hl : l.length ≤ 1048576) (hlm : ms.length ≤ 1048576) :
    Calls Try.prog 42 #[.int .i64 n, v, vm, .int .i64 a, .int .i64 b] w (Gives (.int .i64 (takV n l ms a b)) w) := by
  have HV := Lib.hid (books2_any n v l w hv hl)
  have HM := Lib.hid (fun w' (h : Below w.heap.size w w') => milesFit_any n vm ms w' (hvm.below h) hlm)
  have Hvm := Lib.hid hvm
  obtain ⟨ad, cap, rfl, hcap, ha⟩ := hv
  clear hcap
  have Ha := Lib.hid ha; clear ha
  have HFa := Lib.hid (fun w => fareFits_any a w)
  have HFb := Lib.hid (fun w => fareFits_any b w)
  have hok := takOk_iff (n := n) (l := l) (ms := ms) (a := a) (b := b)
  cases hz : validB n l with
  | false =>
    rw [takV_no (Bool.eq_false_iff.2 fun h => by have := (hok.1 h).1; rw [hz] at this; cases this)]
    rw [hz] at HV
    clear hok hz hvm
    go_enter Try.func42, Try.ntmps42
    go_wp2_with fail
    refine HV.out.mono ?_; rintro e w1 ⟨rfl, hb1⟩
    have HB := Lib.hid hb1; clear hb1
    go_wp2
    go_ret
    exact ⟨rfl, HB.out⟩
  | true =>
    rw [hz] at HV
    cases hm : milesB n ms with
    | false =>
      rw [takV_no (Bool.eq_false_iff.2 fun h => by have := (hok.1 h).2.1; rw [hm] at this; cases this)]
      rw [hm] at HM
      clear hok hz hvm hm
      go_enter Try.func42, Try.ntmps42
      go_wp2_with fail
      refine HV.out.mono ?_; rintro e w1 ⟨rfl, hb1⟩
      have HB := Lib.hid hb1; clear hb1
      go_wp2_with fail
      refine (HM.out _ HB.out).mono ?_; rintro e w2 ⟨rfl, m2, rfl⟩
      go_wp2
      go_ret
      exact ⟨rfl, HB.out.drewN _⟩
    | true =>
      rw [hm] at HM
      cases hfa : fareB a with
      | false =>
        rw [takV_no (Bool.eq_false_iff.2 fun h => by have := (hok.1 h).2.2.1; rw [hfa] at this; cases this)]
        rw [hfa] at HFa
        clear hok hz hvm hm hfa
        go_enter Try.func42, Try.ntmps42
        go_wp2_with fail
        refine HV.out.mono ?_; rintro e w1 ⟨rfl, hb1⟩
        have HB := Lib.hid hb1; clear hb1
        go_wp2_with fail
        refine (HM.out _ HB.out).mono ?_; rintro e w2 ⟨rfl, m2, rfl⟩
        go_wp2_with fail
        refine (HFa.out _).mono ?_; rintro e w3 ⟨rfl, rfl⟩
        go_wp2
        go_ret
        exact ⟨rfl, HB.out.drewN _⟩
      | true =>
        rw [hfa] at HFa
        cases hfb : fareB b with
        | false =>
          rw [takV_no (Bool.eq_false_iff.2 fun h => by have := (hok.1 h).2.2.2; rw [hfb] at this; cases this)]
          rw [hfb] at HFb
          clear hok hz hvm hm hfa hfb
          go_enter Try.func42, Try.ntmps42
          go_wp2_with fail
          refine HV.out.mono ?_; rintro e w1 ⟨rfl, hb1⟩
          have HB := Lib.hid hb1; clear hb1
          go_wp2_with fail
          refine (HM.out _ HB.out).mono ?_; rintro e w2 ⟨rfl, m2, rfl⟩
          go_wp2_with fail
          refine (HFa.out _).mono ?_; rintro e w3 ⟨rfl, rfl⟩
          go_wp2_with fail
          refine (HFb.out _).mono ?_; rintro e w3 ⟨rfl, rfl⟩
          go_wp2
          go_ret
          exact ⟨rfl, HB.out.drewN _⟩
        | true =>
          have HX := Lib.hid (takV_yes (hok.2 ⟨hz, hm, hfa, hfb⟩))
          rw [hfb] at HFb
          obtain ⟨⟨hn1, hn7⟩, hl16, hfit, _⟩ := validB_iff.1 hz
          have Hf := Lib.hid (fun i (hi : i < l.length) => fit7_of hn7 (hfit i hi))
          obtain ⟨hml, hmt⟩ := milesB_iff.1 hm
          have hm7 : ms.length ≤ 7 := by omega
          have Hmt := Lib.hid hmt
          have Hbd := Lib.hid (fun j => bookTo_bd (l := l) (n := ms.length) hm7 hmt (fareB_iff.1 hfa) (fareB_iff.1 hfb) j)
          have HMi := Lib.hid (fun w' (h : Below w.heap.size w w') r hr => miles_any r vm ms w' hr (hvm.below h) hm7 hmt)
          have Hfr := Lib.hid (And.intro (fareB_iff.1 hfa) (fareB_iff.1 hfb))
          clear hok hz hvm hm hfa hfb hmt hfit
          go_enter Try.func42, Try.ntmps42
          go_wp2_with fail
          refine HV.out.mono ?_; rintro e w1 ⟨rfl, hb1⟩
          have HB := Lib.hid hb1; clear hb1
          go_wp2_with fail
          refine (HM.out _ HB.out).mono ?_; rintro e w2 ⟨rfl, m2, rfl⟩
          go_wp2_with fail
          refine (HFa.out _).mono ?_; rintro e w3 ⟨rfl, rfl⟩
          go_wp2_with fail
          refine (HFb.out _).mono ?_; rintro e w3 ⟨rfl, rfl⟩
          go_wp2
          go_loopw [11, 37] (fun s i wr => ∃ k : Nat, k ≤ l.length ∧ s = .int .i64 (bookTo l ms a b ms.length k) ∧ i = .int .i64 k ∧ Below w.heap.size w wr) (fun _ i _ => l.length - (intOf i).toNat)
          case atStart => exact ⟨0, Nat.zero_le _, rfl, rfl, HB.out.drewN _⟩
          case round =>
            clear HB
            obtain ⟨k, hk, rfl, rfl, hbel⟩ := hrel
            have HB := Lib.hid hbel
            by_cases hlt : k < l.length
            · have hlt' : (k : Int) < (l.length : Int) := by omega
              obtain ⟨bb, o, rfl, hb0, hrw⟩ := Ha.out (by intro h; simp [h] at hlt)
              obtain ⟨c0, c1, c2⟩ := (hrw.below hbel hb0) k hlt
              clear hrw hbel
              have hs : bookTo l ms a b ms.length (k + 1) = bookTo l ms a b ms.length k + legMiles (l.getD k bk0) ms ms.length * fareK (l.getD k bk0).m a b := rfl
              have hbk := Hbd.out k
              have hlm := legMiles_bd (l.getD k bk0) Hmt.out
              have hfk : 0 ≤ fareK (l.getD k bk0).m a b ∧ fareK (l.getD k bk0).m a b ≤ 100 := by cases (l.getD k bk0).m; exact Hfr.out.2; exact Hfr.out.1
              have hpr := mul_bd hlm.1 (show legMiles (l.getD k bk0) ms ms.length ≤ 693 by omega) hfk.1 hfk.2
              have HPs := Lib.hid (fun w => pass_any (l.getD k bk0) w (Hf.out k hlt))
              have HMk := Lib.hid (fun w' h => HMi.out w' h (l.getD k bk0) (Hf.out k hlt))
              have HFk := Lib.hid (fun w => fareOf_any (l.getD k bk0).m (maskB (l.getD k bk0)) a b w)
              have HBa := Lib.hid (HB.out.alloc HB.out.size (.cells #[.int .i64 (l.getD k bk0).a, .int .i64 (l.getD k bk0).b, .bool (l.getD k bk0).m] 35))
              obtain ⟨r, hr⟩ : ∃ r, l.getD k bk0 = r := ⟨_, rfl⟩
              rw [hr] at c0 c1 c2 hs hlm hfk hpr HPs HMk HFk HBa
              clear hr
              generalize legMiles r ms ms.length = lm at *
              generalize bookTo l ms a b ms.length k = s0 at *
              generalize maskB r = mk at *
              have hw1 : IntKind.i64.wrap (lm * fareK r.m a b) = lm * fareK r.m a b := IntWalk.i64_in _ (by omega)
              have hw2 : IntKind.i64.wrap (s0 + lm * fareK r.m a b) = s0 + lm * fareK r.m a b := IntWalk.i64_in _ (by omega)
              have hw3 : wrap64 (lm * fareK r.m a b) = lm * fareK r.m a b := by unfold wrap64; omega
              have hw4 : wrap64 (s0 + lm * fareK r.m a b) = s0 + lm * fareK r.m a b := by unfold wrap64; omega
              obtain ⟨xa, xb, xm⟩ := r
              simp only at c0 c1 c2 hs hpr HPs HFk HBa hw1 hw2 hw3 hw4
              have Hs := Lib.hid hs; clear hs hlm hfk hpr
              generalize fareK xm a b = fk at *
              cases xm with
              | true =>
                have hm : ∀ w, (method 244 92 (.int .u8 mk) "loop.example/mailcoaches/impl.legs").run Try.prog w = .ok (122, .int .u8 mk) w := fun _ => by kernel_rfl
                have hna : ∀ w, (nilAhead 244 92 (.int .u8 mk) "loop.example/mailcoaches/impl.legs").run Try.prog w = .ok (some false) w := fun _ => by kernel_rfl
                go_wp2_with fail
                refine (HPs.out _).mono ?_; rintro e w4 ⟨rfl, hb4⟩
                have HB4 := Lib.hid (HBa.out.trans (hb4.mono HBa.out.size)); clear hb4 c0 c1 c2
                simp only [psV] at HFk ⊢
                go_wp2_with (go_at_call 122; refine (legsT_any mk _).mono ?_; rintro e w5 ⟨rfl, m5, rfl⟩)
                refine (HMk.out _ (HB4.out.drewN m5)).mono ?_; rintro e w6 ⟨rfl, m6, rfl⟩
                go_wp2_with fail
                refine (HFk.out _).mono ?_; rintro e w7 ⟨rfl, rfl⟩
                go_wp2
                exact ⟨⟨k + 1, hlt, by rw [Hs.out], by go_num, HB4.out.drewN _⟩, by simp [intOf]; omega⟩
              | false =>
                have hm : ∀ w, (method 244 94 (.int .u8 mk) "loop.example/mailcoaches/impl.legs").run Try.prog w = .ok (123, .int .u8 mk) w := fun _ => by kernel_rfl
                have hna : ∀ w, (nilAhead 244 94 (.int .u8 mk) "loop.example/mailcoaches/impl.legs").run Try.prog w = .ok (some false) w := fun _ => by kernel_rfl
                go_wp2_with fail
                refine (HPs.out _).mono ?_; rintro e w4 ⟨rfl, hb4⟩
                have HB4 := Lib.hid (HBa.out.trans (hb4.mono HBa.out.size)); clear hb4 c0 c1 c2
                simp only [psV] at HFk ⊢
                go_wp2_with (go_at_call 123; refine (legsF_any mk _).mono ?_; rintro e w5 ⟨rfl, m5, rfl⟩)
                refine (HMk.out _ (HB4.out.drewN m5)).mono ?_; rintro e w6 ⟨rfl, m6, rfl⟩
                go_wp2_with fail
                refine (HFk.out _).mono ?_; rintro e w7 ⟨rfl, rfl⟩
                go_wp2
                exact ⟨⟨k + 1, hlt, by rw [Hs.out], by go_num, HB4.out.drewN _⟩, by simp [intOf]; omega⟩
            · obtain rfl : k = l.length := by omega
              have He := Lib.hid (show takV n l ms a b = bookTo l ms a b ms.length l.length by rw [HX.out, book_leg])
              clear hbel
              go_wp2
              go_ret
              exact ⟨ret_int He.out.symm, HB.out⟩

end Go.Proofs.Ytmadfbncoibapaa
