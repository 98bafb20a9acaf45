/- The program's sumTaken, ShareMake, ShareDue, ShareRide, ShareSettle. -/
import Derived.Test.YtcllgpfnojncoaaQL
import Derived.Test.YtcllgpfnojncoaaQJ
import Derived.Test.YtcllgpfnojncoaaQSU
namespace Go.Proofs.Ytcllgpfnojncoaa
open Go.RowKit

def TkRel (t : List Int) (w : World) (s i : Value) (wr : World) : Prop := ∃ k : Nat, k ≤ t.length ∧ i = .int .i64 k ∧ s = .int .i64 (t.take k).sum ∧ (∀ j, j < k → 0 ≤ t.getD j 0) ∧ (0 ≤ (t.take k).sum ∧ (t.take k).sum ≤ 1000000) ∧ w = wr

set_option maxRecDepth 100000 in
set_option maxHeartbeats 1000000 in
theorem taken2_any (v : Value) (t : List Int) (w : World) (hv : IntsIn w v t) :
    Calls Try.prog 76 #[v] w fun e w' => e = .returned (.tuple #[.int .i64 (tkV t), .bool (tkOk t)]) ∧ w' = w := by
  obtain ⟨a, cap, rfl, hcap, ha⟩ := hv
  clear hcap
  have Ha := Lib.hid ha; clear ha
  have hno : tkOk t = false → tkV t = 0 := fun h => by unfold tkV; rw [h]; rfl
  by_cases h6 : t.length = 6
  · have hd : ((t.length : Int) != 6) = false := by simp; omega
    have h6i : (t.length : Int) = 6 := by omega
    have Hno := Lib.hid hno; clear hno
    go_enter Try.func76, Try.ntmps76
    go_wp2
    go_loopw [4, 12] (fun s i wr => TkRel t w s i wr) (fun _ i _ => t.length - (intOf i).toNat)
    case atStart => exact ⟨0, Nat.zero_le _, rfl, by simp, fun j hj => by omega, by simp, rfl⟩
    case round =>
      obtain ⟨k, hk, rfl, rfl, hnn, ⟨s0, s1⟩, hw⟩ := hrel
      obtain rfl : w = wr := hw
      by_cases hlt : k < t.length
      · obtain ⟨b, o, rfl, hb0, hrw⟩ := Ha.out (by intro h; simp [h] at hlt)
        have c0 := hrw k hlt
        have hsum := takeI_sum hlt
        have hmem : t.getD k 0 ∈ t := by rw [List.getD_eq_getElem?_getD, List.getElem?_eq_getElem hlt]; exact List.getElem_mem hlt
        have hbad : (t.getD k 0 < 0 ∨ 1000000 - (t.take k).sum < t.getD k 0) → tkOk t = false := fun h => bnot_of tkOk_iff (fun q => by
          have h1 := q.2.1 _ hmem
          have h2 := take_sum_le q.2.1 (k + 1)
          have h3 := q.2.2
          omega)
        have hnn' : 0 ≤ t.getD k 0 → ∀ j, j < k + 1 → 0 ≤ t.getD j 0 := fun h j hj => by
          by_cases e : j = k
          · subst e; exact h
          · exact hnn j (by omega)
        have Hbad := Lib.hid hbad
        have Hnn := Lib.hid hnn'
        have Hsum := Lib.hid hsum
        have hk6 : k < 6 := by omega
        generalize t.getD k 0 = x at *
        generalize (t.take k).sum = s at *
        have hsw : wrap64 (1000000 - s) = 1000000 - s := by unfold wrap64; omega
        clear hsum hbad hnn hnn' hmem hrw
        by_cases hx0 : x < 0
        · have hb := Lib.hid (Hbad.out (.inl hx0))
          go_wp2
          go_ret2
          rw [Hno.out hb.out, hb.out]
          exact ⟨rfl, rfl⟩
        · by_cases hx1 : 1000000 - s < x
          · have hb := Lib.hid (Hbad.out (.inr hx1))
            go_wp2
            go_ret2
            rw [Hno.out hb.out, hb.out]
            exact ⟨rfl, rfl⟩
          · have Hn := Lib.hid (Hnn.out (by omega))
            clear Hbad Hnn
            go_wp2
            exact ⟨⟨k + 1, hlt, by go_num, by rw [Hsum.out], Hn.out, by rw [Hsum.out]; omega, rfl⟩, by simp [intOf]; omega⟩
      · obtain rfl : k = t.length := by omega
        rw [List.take_length] at s0 s1 ⊢
        have hok : tkOk t = true := tkOk_iff.2 ⟨h6, fun x hx => by
          obtain ⟨i, hi, rfl⟩ := List.mem_iff_getElem.1 hx
          have := hnn i hi
          rwa [List.getD_eq_getElem?_getD, List.getElem?_eq_getElem hi] at this, s1⟩
        have hv : tkV t = t.sum := by unfold tkV; rw [hok]; rfl
        have Hok := Lib.hid hok
        have Hv := Lib.hid hv
        clear hok hv hnn
        go_wp2
        go_ret2
        rw [Hok.out, Hv.out]
        exact ⟨rfl, rfl⟩
  · have hd : ((t.length : Int) != 6) = true := by simp; omega
    have hok : tkOk t = false := bnot_of tkOk_iff (fun h => h6 h.1)
    have Hok := Lib.hid hok
    have Hv := Lib.hid (hno hok)
    clear hok hno
    go_enter Try.func76, Try.ntmps76
    go_wp2
    go_ret2
    rw [Hok.out, Hv.out]
    exact ⟨rfl, rfl⟩

set_option maxHeartbeats 1000000 in
theorem make2_any (v : Value) (l : List Pt) (amt : Int) (w : World) (hv : PtIn w v l) (hm : l.length ≤ 1048576) :
    Calls Try.prog 41 #[v, .int .i64 amt] w (IntsOk (makeX l amt) (makeOk l amt) w) := by
  have Hval := Lib.hid (valid2_any v l w hv hm)
  cases hz : validP l with
  | false =>
    have ho : makeOk l amt = false := by unfold makeOk; rw [hz]; rfl
    have hx : makeX l amt = [] := by unfold makeX; rw [ho]; rfl
    have Hx := Lib.hid hx; clear hx
    have Ho := Lib.hid ho; clear ho
    rw [hz] at Hval
    obtain ⟨a, cap, rfl, _, _⟩ := hv
    go_enter Try.func41, Try.ntmps41
    go_wp2_with fail
    refine Hval.out.mono ?_; rintro e w1 ⟨rfl, hb1⟩
    have HB := Lib.hid hb1; clear hb1
    go_wp2
    go_ret2
    rw [Hx.out, Ho.out]
    exact IntsOk.no HB.out.size (by simp) (HB.out.alloc HB.out.size _)
  | true =>
    rw [hz] at Hval
    obtain ⟨b, o, cap, rfl, _, hb, hl⟩ := hv.full hz
    cases ha : okAm amt with
    | false =>
      have ho : makeOk l amt = false := by unfold makeOk; rw [hz, ha]; rfl
      have hx : makeX l amt = [] := by unfold makeX; rw [ho]; rfl
      have Hx := Lib.hid hx; clear hx
      have Ho := Lib.hid ho; clear ho
      have HA := Lib.hid ha; clear ha hz
      go_enter Try.func41, Try.ntmps41
      go_wp2_with fail
      refine Hval.out.mono ?_; rintro e w1 ⟨rfl, hb1⟩
      have HB := Lib.hid hb1; clear hb1
      go_wp2_with fail
      refine (amountFits_any _ _).mono ?_; rintro e w1 ⟨rfl, rfl⟩
      rw [HA.out]
      go_wp2
      go_ret2
      rw [Hx.out, Ho.out]
      exact IntsOk.no HB.out.size (by simp) (HB.out.alloc HB.out.size _)
    | true =>
      have ho : makeOk l amt = true := by unfold makeOk; rw [hz, ha]; rfl
      have hx : makeX l amt = shareL (cnt6 (ownP l)) amt := by unfold makeX; rw [ho]; rfl
      have Hx := Lib.hid hx; clear hx
      have Ho := Lib.hid ho; clear ho
      have HA := Lib.hid ha
      have Ham := Lib.hid (okAm_iff.1 ha); clear ha
      have Hps := Lib.hid (cntP_pos hz)
      have Hle := Lib.hid (cnt6_le (ownP l) (ownP_len hz))
      have Hz := Lib.hid hz; clear hz
      go_enter Try.func41, Try.ntmps41
      go_wp2_with fail
      refine Hval.out.mono ?_; rintro e w1 ⟨rfl, hb1⟩
      have Hw := Lib.hid (workedM b o cap l w1 Hz.out (Nat.lt_of_lt_of_le hb hb1.size) (hl.below hb1 hb))
      have HB := Lib.hid hb1; clear hb1 hl
      go_wp2_with fail
      refine (amountFits_any _ _).mono ?_; rintro e w1 ⟨rfl, rfl⟩
      rw [HA.out]
      go_wp2_with fail
      refine (milesOf_any _ _ _ _).mono ?_; rintro e w' ⟨rfl, rfl⟩
      go_wp2_with fail
      refine Hw.out.mono ?_; rintro e w2 ⟨ad, cp, rfl, hcp, hown, _, hb3⟩
      have hsz := HB.out.size
      have hB2 := HB.out.trans ((((Below.refl w1.heap.size w1).alloc (Nat.le_refl _) _).trans (hb3.mono (by simp))).mono hsz)
      have Hsh := Lib.hid (shares_any _ (cnt6 (ownP l)) amt w2 (hown.ints hcp) (by rw [cnt6_len]; omega) Hle.out Ham.out Hps.out)
      have HB2 := Lib.hid hB2
      clear hown hb3 hB2 hcp
      generalize hn : (cnt6 (ownP l)).length = n at *
      go_wp2_with fail
      refine Hsh.out.mono ?_
      intro e w3 h3
      obtain ⟨ad3, cp3, rfl, hR⟩ := IntsOne.ok (ok := true) h3 HB2.out Hx.out
      have HR := Lib.hid hR; clear h3 hR
      generalize hm2 : (makeX l amt).length = m2 at *
      go_wp2
      go_ret2
      rw [Ho.out]
      exact HR.out

end Go.Proofs.Ytcllgpfnojncoaa
