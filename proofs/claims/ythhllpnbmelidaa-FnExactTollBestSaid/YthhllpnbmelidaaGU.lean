/- slices.Contains and Equal of numbers; the way. -/
import Derived.Test.YthhllpnbmelidaaGT
import Derived.BigRegion
namespace Go.Proofs.Ythhllpnbmelidaa
open Go.RowKit
set_option linter.unusedVariables false
set_option linter.unusedSimpArgs false

def IxRel (l : List Int) (z : Int) (w : World) (i : Value) (wr : World) : Prop :=
  ∃ k : Nat, k ≤ l.length ∧ i = .int .i64 k ∧ (∀ j, j < k → l.getD j 0 ≠ z) ∧ wr = w

set_option maxHeartbeats 400000 in
theorem index8_any (v : Value) (l : List Int) (z : Int) (w : World) (hv : IntsIn w v l) (hl : l.length ≤ 1048576) :
    Calls Try.prog 100 #[v, .int .i64 z] w fun e w' => (∃ i : Int, e = .returned (.int .i64 i) ∧ decide (0 ≤ i) = hasL l z) ∧ w' = w := by
  obtain ⟨a, cap, rfl, hcap, ha⟩ := hv
  clear hcap
  have Ha := Lib.hid ha; clear ha
  go_enter Try.func100, Try.ntmps100
  go_wp2
  go_loopw [8] (fun i wr => IxRel l z w i wr) (fun i _ => l.length - (intOf i).toNat)
  case atStart => exact ⟨0, Nat.zero_le _, rfl, fun i hi => by omega, rfl⟩
  case round =>
    obtain ⟨k, hk, rfl, hno, hw⟩ := hrel
    obtain rfl : w = wr := hw.symm
    have Hno := Lib.hid hno; clear hno
    by_cases hlt : k < l.length
    · obtain ⟨b, o, rfl, hb, hrw⟩ := Ha.out (by intro h; simp [h] at hlt)
      have c0 := hrw k hlt
      have hk0 : (0 : Int) ≤ (k : Int) := Int.natCast_nonneg _
      have hk1 : (k : Int) < (l.length : Int) := by omega
      have Hx := Lib.hid (show l.getD k 0 = l.getD k 0 from rfl)
      generalize hx : l.getD k 0 = x at *
      have Hx := Lib.hid hx; clear hx hrw
      by_cases hq : (z == x) = true
      · have Hm := Lib.hid (show true = hasL l z from (hasL_iff.2 (mem_getD8.2 ⟨k, hlt, by rw [Hx.out]; have := eq_of_beq hq; exact this.symm⟩)).symm)
        go_wp2
        go_ret
        exact ⟨⟨k, rfl, by rw [← Hm.out]; exact decide_eq_true hk0⟩, rfl⟩
      · have hq' : (z == x) = false := by simpa using hq
        clear hq
        go_wp2
        refine ⟨⟨k + 1, hlt, by go_num, fun i hi => ?_, rfl⟩, by simp [intOf]; omega⟩
        by_cases hik : i = k
        · subst hik; rw [Hx.out]; intro e; rw [e] at hq'; simp at hq'
        · exact Hno.out i (by omega)
    · obtain rfl : k = l.length := by omega
      have Hm := Lib.hid (show false = hasL l z from (Bool.eq_false_iff.2 (fun h => by obtain ⟨k, hk, e⟩ := mem_getD8.1 (hasL_iff.1 h); exact Hno.out k hk e)).symm)
      go_wp2
      go_ret
      exact ⟨⟨-1, rfl, by rw [← Hm.out]; rfl⟩, rfl⟩

set_option maxHeartbeats 400000 in
theorem contains8_any (v : Value) (l : List Int) (z : Int) (w : World) (hv : IntsIn w v l) (hl : l.length ≤ 1048576) :
    Calls Try.prog 85 #[v, .int .i64 z] w (Gives (.bool (hasL l z)) w) := by
  have HI := Lib.hid (index8_any v l z w hv hl)
  clear hv
  go_enter Try.func85, Try.ntmps85
  go_wp2_with fail
  refine HI.out.mono ?_; rintro e w1 ⟨⟨i, rfl, hi⟩, rfl⟩
  have Hi := Lib.hid hi; clear hi
  go_wp2
  go_ret
  exact ⟨ret_bool Hi.out, Below.refl _ _⟩

def Eq8Rel (l m : List Int) (w : World) (i : Value) (wr : World) : Prop :=
  ∃ k : Nat, k ≤ l.length ∧ i = .int .i64 k ∧ (∀ j, j < k → l.getD j 0 = m.getD j 0) ∧ Drewn w wr
theorem eq8_of {l m : List Int} (h : l.length = m.length) (h2 : ∀ j, j < l.length → l.getD j 0 = m.getD j 0) : l = m := by
  refine List.ext_getElem h (fun i h3 h4 => ?_)
  have := h2 i h3
  rw [List.getD_eq_getElem?_getD, List.getD_eq_getElem?_getD, List.getElem?_eq_getElem h3, List.getElem?_eq_getElem h4] at this
  exact this

set_option maxHeartbeats 400000 in
theorem equal8_any (v u : Value) (l m : List Int) (w : World) (hv : IntsIn w v l) (hu : IntsIn w u m) (hl : l.length ≤ 1048576) (hm : m.length ≤ 1048576) :
    Calls Try.prog 86 #[v, u] w (Gives (.bool (decide (l = m))) w) := by
  obtain ⟨a, cap, rfl, _, ha⟩ := hv
  obtain ⟨c, cap2, rfl, _, hc⟩ := hu
  have Ha := Lib.hid ha; clear ha
  have Hc := Lib.hid hc; clear hc
  by_cases hn : l.length = m.length
  · have hne : ((l.length : Int) != (m.length : Int)) = false := by rw [hn]; simp
    have hne2 : (l.length != m.length) = false := by rw [hn]; simp
    have Hn := Lib.hid hn
    go_enter Try.func86, Try.ntmps86
    clear hn
    go_wp2
    go_loopw [13] (fun i wr => Eq8Rel l m w i wr) (fun i _ => l.length - (intOf i).toNat)
    case atStart => exact ⟨0, Nat.zero_le _, rfl, fun i hi => by omega, Drewn.refl _⟩
    case round =>
      obtain ⟨k, hk, rfl, hall, hw⟩ := hrel
      have HWr := Lib.hid hw
      have Hall := Lib.hid hall; clear hall
      by_cases hlt : k < l.length
      · have hlm : k < m.length := by have := Hn.out; omega
        obtain ⟨b, o, rfl, hb, hrw⟩ := Ha.out (by intro h; simp [h] at hlt)
        obtain ⟨b2, o2, rfl, hb2, hrw2⟩ := Hc.out (by intro h; simp [h] at hlm)
        have c0 := (hrw.below hw.below hb) k hlt
        have d0 := (hrw2.below hw.below hb2) k hlm
        have hk0 : (0 : Int) ≤ (k : Int) := Int.natCast_nonneg _
        have hk1 : (k : Int) < (l.length : Int) := by omega
        have hk2 : (k : Int) < (m.length : Int) := by omega
        clear hrw hrw2 hw
        generalize hx : l.getD k 0 = x at *
        generalize hy : m.getD k 0 = y at *
        have Hx := Lib.hid hx; have Hy := Lib.hid hy; clear hx hy
        by_cases hq : (x != y) = true
        · have Hm := Lib.hid (show decide (l = m) = false from decide_eq_false (fun e => by
            have h1 := Hx.out; rw [e, Hy.out] at h1; rw [h1] at hq; simp at hq))
          go_wp2
          go_region
          all_goals
            go_wp2
            go_ret
            exact ⟨ret_bool Hm.out.symm, by first | exact HWr.out.below.drewN _ | exact HWr.out.below.drew | exact HWr.out.below⟩
        · have hq' : (x != y) = false := by simpa using hq
          have Hk1 := Lib.hid (show ∀ j, j < k + 1 → l.getD j 0 = m.getD j 0 from fun j hj => by
            by_cases e : j = k
            · rw [e, Hx.out, Hy.out]; simpa using hq'
            · exact Hall.out j (by omega))
          clear hq
          go_wp2
          go_region
          all_goals
            go_wp2
            exact ⟨⟨k + 1, hlt, by go_num, Hk1.out, by first | exact HWr.out.drewN 1 | exact HWr.out⟩, by simp [intOf]; omega⟩
      · obtain rfl : k = l.length := by omega
        have Hm := Lib.hid (show decide (l = m) = true from decide_eq_true (eq8_of Hn.out Hall.out))
        clear hw
        go_wp2
        go_ret
        exact ⟨ret_bool Hm.out.symm, HWr.out.below⟩
  · have hne : ((l.length : Int) != (m.length : Int)) = true := by rw [bne_iff_ne]; omega
    have hne2 : (l.length != m.length) = true := by rw [bne_iff_ne]; exact hn
    have Hm := Lib.hid (show decide (l = m) = false from decide_eq_false (fun e => hn (by rw [e])))
    clear hn
    go_enter Try.func86, Try.ntmps86
    go_wp2
    go_ret
    exact ⟨ret_bool Hm.out.symm, Below.refl _ _⟩

theorem okT_parts (l : List Gt) (free f t : Int) : okT l free f t = (validG l && (inB free 0 999 && okEnds f t)) := by
  unfold okT okEnds
  cases validG l <;> cases inB f 0 1000 <;> cases inB t 0 1000 <;> cases inB free 0 999 <;> rfl
/-- What tollWayOf gives. -/
def TwOut (v : Value) (l : List Gt) (free f t : Int) (w : World) (e : Ending) (w' : World) : Prop :=
  Below w.heap.size w w' ∧ (okT l free f t = false → e = .returned (.tuple #[.pointer none, .bool false])) ∧
    (okT l free f t = true → ∃ wb vp, e = .returned (.tuple #[.pointer (some ⟨wb, 0, none⟩), .bool true]) ∧ WayAt w' wb v vp l (passL l f t) free)

set_option maxHeartbeats 1000000 in
theorem wayOf_any (v : Value) (l : List Gt) (free f t : Int) (w : World) (hv : GtIn w v l) (hl : l.length ≤ 1048576) :
    Calls Try.prog 82 #[v, .int .i64 free, .int .i64 f, .int .i64 t] w (TwOut v l free f t w) := by
  have HV := Lib.hid (gv2_any v l w hv (by omega))
  have HP := Lib.hid (fun w' (h : Below w.heap.size w w') => pass2_any v l f t w' (hv.below h) hl)
  have Hv := Lib.hid hv
  obtain ⟨a, cap, rfl, _, _⟩ := hv
  have hpt := okT_parts l free f t
  cases hz : validG l with
  | false =>
    have ho : okT l free f t = false := by rw [hpt, hz]; rfl
    have Ho := Lib.hid ho
    rw [hz] at HV
    clear hpt hz ho
    go_enter Try.func82, Try.ntmps82
    go_wp2_with fail
    refine HV.out.mono ?_; rintro e w1 ⟨rfl, hb1⟩
    go_wp2
    go_ret2
    exact ⟨hb1, fun _ => rfl, fun h => absurd h (by rw [Ho.out]; simp)⟩
  | true =>
    rw [hz] at HV
    rw [hz, Bool.true_and] at hpt
    cases h1 : inB free 0 999 with
    | false =>
      have Ho := Lib.hid (show okT l free f t = false by rw [hpt, h1]; rfl)
      have H1 := Lib.hid h1
      clear hpt hz h1
      go_enter Try.func82, Try.ntmps82
      go_wp2_with fail
      refine HV.out.mono ?_; rintro e w1 ⟨rfl, hb1⟩
      go_wp2_with fail
      refine (isMile_any _ _).mono ?_; rintro e w' ⟨rfl, rfl⟩
      rw [H1.out]
      go_wp2
      go_ret2
      exact ⟨hb1, fun _ => rfl, fun h => absurd h (by rw [Ho.out]; simp)⟩
    | true =>
      have H1 := Lib.hid h1
      rw [h1, Bool.true_and] at hpt
      cases h2 : okEnds f t with
      | false =>
        have Ho := Lib.hid (show okT l free f t = false by rw [hpt, h2])
        have H2 := Lib.hid h2
        clear hpt hz h1 h2
        go_enter Try.func82, Try.ntmps82
        go_wp2_with fail
        refine HV.out.mono ?_; rintro e w1 ⟨rfl, hb1⟩
        go_wp2_with fail
        refine (isMile_any _ _).mono ?_; rintro e w' ⟨rfl, rfl⟩
        rw [H1.out]
        go_wp2_with fail
        refine (areEnds_any _ _ _).mono ?_; rintro e w' ⟨rfl, rfl⟩
        rw [H2.out]
        go_wp2
        go_ret2
        exact ⟨hb1, fun _ => rfl, fun h => absurd h (by rw [Ho.out]; simp)⟩
      | true =>
        have ho : okT l free f t = true := by rw [hpt, h2]
        have Ho := Lib.hid ho
        have H2 := Lib.hid h2
        have Hpx := Lib.hid (okT_pass ho)
        clear hpt hz h1 h2 ho
        go_enter Try.func82, Try.ntmps82
        go_wp2_with fail
        refine HV.out.mono ?_; rintro e w1 ⟨rfl, hb1⟩
        have HB1 := Lib.hid hb1; clear hb1
        go_wp2_with fail
        refine (isMile_any _ _).mono ?_; rintro e w' ⟨rfl, rfl⟩
        rw [H1.out]
        go_wp2_with fail
        refine (areEnds_any _ _ _).mono ?_; rintro e w' ⟨rfl, rfl⟩
        rw [H2.out]
        go_wp2_with fail
        refine (HP.out _ HB1.out).mono ?_; rintro e w2 ⟨ad, cp, rfl, hcp, hown, hin, hb2⟩
        rw [Hpx.out] at hcp hown ⊢
        have HI := Lib.hid (hown.ints hcp)
        have HB2 := Lib.hid (HB1.out.trans (hb2.mono HB1.out.size))
        have HVg := Lib.hid (Hv.out.below HB2.out)
        clear hcp hown hin hb2
        generalize hn : (passL l f t).length = n at *
        have Hn := Lib.hid hn; clear hn
        go_wp2
        go_ret2
        have hbx : Below w2.heap.size w2 (w2.alloc (.cells #[.slice a l.length cap, .slice ad n cp, .int .i64 free] 98)) := (Below.refl _ _).alloc (Nat.le_refl _) _
        exact ⟨HB2.out.trans (hbx.mono HB2.out.size), fun h => absurd h (by rw [Ho.out]; simp), fun _ => ⟨w2.heap.size, _, rfl, Whole.made w2 _ _, HVg.out.below hbx, HI.out.below hbx⟩⟩

end Go.Proofs.Ythhllpnbmelidaa
