/- The program's checks: ownerFits, amountFits, partFits, PartsValid, PartsLength, ifParts. -/
import Derived.Test.YthdkjjfnockldaaQA
import Derived.Test.YthdkjjfnockldaaQW
import Derived.Test.YthdkjjfnockldaaHD
import Derived.Lib.Hide
import Derived.IntWalk
namespace Go.Proofs.Ythdkjjfnockldaa
open Go.RowKit

set_option maxHeartbeats 400000 in
theorem ownerFits_any (x : Int) (w : World) : Calls Try.prog 63 #[.int .i64 x] w fun e w' => e = .returned (.bool (okOw x)) ∧ w' = w := by
  by_cases h0 : 0 ≤ x
  · by_cases h5 : x < 6
    · have hr := okOw_iff.2 ⟨h0, show x ≤ 5 by omega⟩
      have HR := Lib.hid hr; clear hr
      go_enter Try.func63, Try.ntmps63
      go_wp2
      go_ret
      exact ⟨ret_bool HR.out.symm, rfl⟩
    · have hr := bnot_of (okOw_iff (x := x)) (fun h => by omega)
      have HR := Lib.hid hr; clear hr
      go_enter Try.func63, Try.ntmps63
      go_wp2
      go_ret
      exact ⟨ret_bool HR.out.symm, rfl⟩
  · have hr := bnot_of (okOw_iff (x := x)) (fun h => by omega)
    have HR := Lib.hid hr; clear hr
    go_enter Try.func63, Try.ntmps63
    go_wp2
    go_ret
    exact ⟨ret_bool HR.out.symm, rfl⟩

set_option maxHeartbeats 400000 in
theorem amountFits_any (x : Int) (w : World) : Calls Try.prog 69 #[.int .i64 x] w fun e w' => e = .returned (.bool (okAm x)) ∧ w' = w := by
  by_cases h0 : 0 ≤ x
  · by_cases h5 : x ≤ 1000000
    · have hr := okAm_iff.2 ⟨h0, h5⟩
      have HR := Lib.hid hr; clear hr
      go_enter Try.func69, Try.ntmps69
      go_wp2
      go_ret
      exact ⟨ret_bool HR.out.symm, rfl⟩
    · have hr := bnot_of (okAm_iff (x := x)) (fun h => by omega)
      have HR := Lib.hid hr; clear hr
      go_enter Try.func69, Try.ntmps69
      go_wp2
      go_ret
      exact ⟨ret_bool HR.out.symm, rfl⟩
  · have hr := bnot_of (okAm_iff (x := x)) (fun h => by omega)
    have HR := Lib.hid hr; clear hr
    go_enter Try.func69, Try.ntmps69
    go_wp2
    go_ret
    exact ⟨ret_bool HR.out.symm, rfl⟩

set_option maxHeartbeats 1000000 in
theorem partFits_any (a b : Int) (w : World) : Calls Try.prog 76 #[.agg #[.int .i64 a, .int .i64 b]] w (Gives (.bool (okPt ⟨a, b⟩)) w) := by
  have hB : Below w.heap.size w (w.alloc (.cells #[.int .i64 a, .int .i64 b] 41)) := (Below.refl _ _).alloc (Nat.le_refl _) _
  cases ho : okOw a with
  | false =>
    have hr : okPt ⟨a, b⟩ = false := bnot_of (okPt_iff (r := ⟨a, b⟩)) (fun h => by have := okOw_iff.2 ⟨h.1, h.2.1⟩; rw [ho] at this; cases this)
    have HR := Lib.hid hr; clear hr
    have Ho := Lib.hid ho; clear ho
    go_enter Try.func76, Try.ntmps76
    go_wp2_with (go_at_call 63; refine (ownerFits_any _ _).mono ?_; rintro e w' ⟨rfl, rfl⟩; rw [Ho.out])
    go_ret
    exact ⟨ret_bool HR.out.symm, hB⟩
  | true =>
    obtain ⟨a0, a5⟩ := okOw_iff.1 ho
    have Ho := Lib.hid ho; clear ho
    by_cases h1 : 1 ≤ b
    · by_cases h9 : b ≤ 99
      · have hr : okPt ⟨a, b⟩ = true := okPt_iff.2 ⟨a0, a5, h1, h9⟩
        have HR := Lib.hid hr; clear hr
        go_enter Try.func76, Try.ntmps76
        go_wp2_with (go_at_call 63; refine (ownerFits_any _ _).mono ?_; rintro e w' ⟨rfl, rfl⟩; rw [Ho.out])
        go_ret
        exact ⟨ret_bool HR.out.symm, hB⟩
      · have hr : okPt ⟨a, b⟩ = false := bnot_of (okPt_iff (r := ⟨a, b⟩)) (fun h => h9 h.2.2.2)
        have HR := Lib.hid hr; clear hr
        go_enter Try.func76, Try.ntmps76
        go_wp2_with (go_at_call 63; refine (ownerFits_any _ _).mono ?_; rintro e w' ⟨rfl, rfl⟩; rw [Ho.out])
        go_ret
        exact ⟨ret_bool (by rw [HR.out]; simpa using h9), hB⟩
    · have hr : okPt ⟨a, b⟩ = false := bnot_of (okPt_iff (r := ⟨a, b⟩)) (fun h => h1 h.2.2.1)
      have HR := Lib.hid hr; clear hr
      go_enter Try.func76, Try.ntmps76
      go_wp2_with (go_at_call 63; refine (ownerFits_any _ _).mono ?_; rintro e w' ⟨rfl, rfl⟩; rw [Ho.out])
      go_ret
      exact ⟨ret_bool HR.out.symm, hB⟩

def okToP (l : List Pt) (k : Nat) : Prop := ∀ i, i < k → okPt (l.getD i pt0) = true
theorem validP_yes {l : List Pt} (h1 : 1 ≤ l.length) (h12 : l.length ≤ 12) (h : okToP l l.length) : validP l = true :=
  validP_iff.2 ⟨h1, h12, fun r hr => by
    obtain ⟨i, hi, rfl⟩ := List.mem_iff_getElem.1 hr
    have := h i hi
    rwa [Pt.getD_eq l hi] at this⟩
theorem validP_no {l : List Pt} {k : Nat} (hk : k < l.length) (h : okPt (l.getD k pt0) = false) : validP l = false := by
  refine bnot_of validP_iff (fun hv => ?_)
  have := hv.2.2 _ (List.getElem_mem hk)
  rw [← Pt.getD_eq l hk, h] at this; cases this
theorem validP_len {l : List Pt} (h : ¬ (1 ≤ l.length ∧ l.length ≤ 12)) : validP l = false := bnot_of validP_iff (fun hv => h ⟨hv.1, hv.2.1⟩)

def PvRel (l : List Pt) (w : World) (i : Value) (wr : World) : Prop := ∃ k : Nat, k ≤ l.length ∧ i = .int .i64 k ∧ okToP l k ∧ Below w.heap.size w wr

set_option maxRecDepth 100000 in
set_option maxHeartbeats 1000000 in
theorem valid2_any (v : Value) (l : List Pt) (w : World) (hv : PtIn w v l) (hm : l.length ≤ 1048576) :
    Calls Try.prog 49 #[v] w (Gives (.bool (validP l)) w) := by
  obtain ⟨a, cap, rfl, hcap, ha⟩ := hv
  clear hcap
  have Ha := Lib.hid ha; clear ha
  by_cases h1 : (l.length : Int) < 1
  · have hz := validP_len (l := l) (by omega)
    have Hz := Lib.hid hz; clear hz
    go_enter Try.func49, Try.ntmps49
    go_wp2
    go_ret
    exact ⟨ret_bool Hz.out.symm, Below.refl _ _⟩
  · by_cases h12 : (12 : Int) < (l.length : Int)
    · have hz := validP_len (l := l) (by omega)
      have Hz := Lib.hid hz; clear hz
      go_enter Try.func49, Try.ntmps49
      go_wp2
      go_ret
      exact ⟨ret_bool Hz.out.symm, Below.refl _ _⟩
    · go_enter Try.func49, Try.ntmps49
      go_wp2
      go_loopw [15] (fun i wr => PvRel l w i wr) (fun i _ => l.length - (intOf i).toNat)
      case atStart => exact ⟨0, Nat.zero_le _, rfl, fun i hi => by omega, Below.refl _ _⟩
      case round =>
        obtain ⟨k, hk, rfl, hok, hbel⟩ := hrel
        have Hok := Lib.hid hok; clear hok
        by_cases hlt : k < l.length
        · obtain ⟨b, o, rfl, hb0, hrw⟩ := Ha.out (by intro h; simp [h] at hlt)
          obtain ⟨c0, c1⟩ := (hrw.below hbel hb0) k hlt
          have Hno := Lib.hid (validP_no hlt)
          obtain ⟨⟨xa, xb⟩, hr⟩ : ∃ r, l.getD k pt0 = r := ⟨_, rfl⟩
          rw [hr] at c0 c1
          simp only at c0 c1
          have Hr := Lib.hid hr; clear hr hrw
          have hB : Below wr.heap.size wr (wr.alloc (.cells #[.int .i64 xa, .int .i64 xb] 41)) := (Below.refl _ _).alloc (Nat.le_refl _) _
          cases hf : okPt ⟨xa, xb⟩ with
          | false =>
            have HF := Lib.hid hf; clear hf
            go_wp2_with (go_at_call 76; refine (partFits_any _ _ _).mono ?_; rintro e w1 ⟨rfl, hb1⟩; rw [HF.out])
            go_ret
            exact ⟨ret_bool (Hno.out (by rw [Hr.out]; exact HF.out)).symm, hbel.trans ((hB.trans (hb1.mono hB.size)).mono hbel.size)⟩
          | true =>
            have HF := Lib.hid hf; clear hf
            go_wp2_with (go_at_call 76; refine (partFits_any _ _ _).mono ?_; rintro e w1 ⟨rfl, hb1⟩; rw [HF.out])
            refine ⟨⟨k + 1, hlt, by go_num, fun i hi => ?_, hbel.trans ((hB.trans (hb1.mono hB.size)).mono hbel.size)⟩, by simp [intOf]; omega⟩
            by_cases e : i = k
            · subst e; rw [Hr.out]; exact HF.out
            · exact Hok.out i (by omega)
        · obtain rfl : k = l.length := by omega
          have Hz := Lib.hid (validP_yes (l := l) (by omega) (by omega) Hok.out)
          go_wp2
          go_ret
          exact ⟨ret_bool Hz.out.symm, hbel⟩

/-- A road's slice, written out. -/
theorem PtIn.full {w : World} {v : Value} {l : List Pt} (hv : PtIn w v l) (hz : validP l = true) : ∃ b o cap, v = .slice (some ⟨b, o, none⟩) l.length cap ∧ l.length ≤ cap ∧ b < w.heap.size ∧ PtAt w b o l := by
  obtain ⟨a, cap, rfl, hc, ha⟩ := hv
  obtain ⟨b, o, rfl, hb, hl⟩ := ha (by intro h; have := (validP_iff.1 hz).1; simp [h] at this)
  exact ⟨b, o, cap, rfl, hc, hb, hl⟩

end Go.Proofs.Ythdkjjfnockldaa
