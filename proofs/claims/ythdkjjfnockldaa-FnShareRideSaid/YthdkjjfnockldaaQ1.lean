/- The model's PartsValid, l5Miles, l5Sum, l5Owners. -/
import Derived.Test.YthdkjjfnockldaaQV
import Derived.Test.YthdkjjfnockldaaQG
import Derived.Test.YthdkjjfnockldaaQJ
import Derived.Test.YthdkjjfnockldaaIO
import Derived.Deep.RegionWith
namespace Go.Proofs.Ythdkjjfnockldaa
open Go.RowKit

def Pv1Rel (l : List Pt) (w : World) (i : Value) (wr : World) : Prop := ∃ k : Nat, k ≤ l.length ∧ i = .int .i64 k ∧ okToP l k ∧ w = wr

theorem okPt_in (r : Pt) : okPt r = true ↔ inB r.a 0 5 = true ∧ inB r.b 1 99 = true := by
  rw [okPt_iff, inB_iff, inB_iff]; omega

set_option maxRecDepth 100000 in
set_option maxHeartbeats 1000000 in
theorem valid1_any (v : Value) (l : List Pt) (w : World) (hv : PtIn w v l) (hm : l.length ≤ 2097152) :
    Calls Try.prog 52 #[v] w fun e w' => e = .returned (.bool (validP l)) ∧ w' = w := by
  obtain ⟨a, cap, rfl, hcap, ha⟩ := hv
  clear hcap
  have Ha := Lib.hid ha; clear ha
  go_enter Try.func52, Try.ntmps52
  go_wp2
  go_loopw [3] (fun i wr => Pv1Rel l w i wr) (fun i _ => l.length - (intOf i).toNat)
  case atStart => exact ⟨0, Nat.zero_le _, rfl, fun i hi => by omega, rfl⟩
  case round =>
    obtain ⟨k, hk, rfl, hok, hw⟩ := hrel
    obtain rfl : w = wr := hw
    have Hok := Lib.hid hok; clear hok
    by_cases hlt : k < l.length
    · obtain ⟨b, o, rfl, hb0, hrw⟩ := Ha.out (by intro h; simp [h] at hlt)
      obtain ⟨c0, c1⟩ := hrw k hlt
      have Hno := Lib.hid (validP_no hlt)
      have hin := okPt_in (l.getD k pt0)
      obtain ⟨⟨xa, xb⟩, hr⟩ : ∃ r, l.getD k pt0 = r := ⟨_, rfl⟩
      rw [hr] at c0 c1 hin
      simp only at c0 c1 hin
      have Hr := Lib.hid hr; clear hr hrw
      have Hin := Lib.hid hin; clear hin
      have hk1 : (k : Int) < (l.length : Int) := by omega
      cases h1 : inB xa 0 5 with
      | false =>
        have Hz := Lib.hid (Hno.out (by rw [Hr.out]; exact bnot_of Hin.out (fun h => by rw [h1] at h; cases h.1)))
        have H1 := Lib.hid h1; clear h1
        go_wp2_with (go_at_call 60; refine (l6In_any _ _ _ _).mono ?_; rintro e w1 ⟨rfl, rfl⟩; rw [H1.out])
        go_ret
        exact ⟨ret_bool Hz.out.symm, rfl⟩
      | true =>
        cases h2 : inB xb 1 99 with
        | false =>
          have Hz := Lib.hid (Hno.out (by rw [Hr.out]; exact bnot_of Hin.out (fun h => by rw [h2] at h; cases h.2)))
          have H1 := Lib.hid h1; clear h1
          have H2 := Lib.hid h2; clear h2
          go_wp2_with fail
          refine (l6In_any _ _ _ _).mono ?_; rintro e w1 ⟨rfl, rfl⟩; rw [H1.out]
          go_wp2_with fail
          refine (l6In_any _ _ _ _).mono ?_; rintro e w1 ⟨rfl, rfl⟩; rw [H2.out]
          go_wp2
          go_ret
          exact ⟨ret_bool Hz.out.symm, rfl⟩
        | true =>
          have Hz := Lib.hid (Hin.out.2 ⟨h1, h2⟩)
          have H1 := Lib.hid h1; clear h1
          have H2 := Lib.hid h2; clear h2
          go_wp2_with fail
          refine (l6In_any _ _ _ _).mono ?_; rintro e w1 ⟨rfl, rfl⟩; rw [H1.out]
          go_wp2_with fail
          refine (l6In_any _ _ _ _).mono ?_; rintro e w1 ⟨rfl, rfl⟩; rw [H2.out]
          go_wp2
          refine ⟨⟨k + 1, hlt, by go_num, fun i hi => ?_, rfl⟩, by simp [intOf]; omega⟩
          by_cases e : i = k
          · subst e; rw [Hr.out]; exact Hz.out
          · exact Hok.out i (by omega)
    · obtain rfl : k = l.length := by omega
      cases h : inB (l.length : Int) 1 12 with
      | true =>
        have h2 := (inB_iff _ _ _).1 h
        have Hz := Lib.hid (validP_yes (by omega) (by omega) Hok.out)
        have H := Lib.hid h; clear h h2
        go_wp2_with fail
        refine (l6In_any _ _ _ _).mono ?_; rintro e w1 ⟨rfl, rfl⟩; rw [H.out]
        go_wp2
        go_ret
        exact ⟨ret_bool Hz.out.symm, rfl⟩
      | false =>
        have Hz := Lib.hid (validP_len (l := l) (fun q => by rw [(inB_iff _ _ _).2 (by omega)] at h; cases h))
        have H := Lib.hid h; clear h
        go_wp2_with fail
        refine (l6In_any _ _ _ _).mono ?_; rintro e w1 ⟨rfl, rfl⟩; rw [H.out]
        go_wp2
        go_ret
        exact ⟨ret_bool Hz.out.symm, rfl⟩

theorem valid1_gives (v : Value) (l : List Pt) (w : World) (hv : PtIn w v l) (hm : l.length ≤ 2097152) :
    Calls Try.prog 52 #[v] w (Gives (.bool (validP l)) w) :=
  (valid1_any v l w hv hm).mono fun e w' h => ⟨h.1, h.2 ▸ Below.refl _ _⟩

def SmRel (t : List Int) (w : World) (s i : Value) (wr : World) : Prop := ∃ k : Nat, k ≤ t.length ∧ i = .int .i64 k ∧ s = .int .i64 (t.take k).sum ∧ w = wr

set_option maxRecDepth 100000 in
set_option maxHeartbeats 1000000 in
theorem sum1_any (v : Value) (t : List Int) (w : World) (hv : IntsIn w v t) (hn : t.length ≤ 12) (hm : ∀ i, 0 ≤ t.getD i 0 ∧ t.getD i 0 ≤ 2000000000) :
    Calls Try.prog 54 #[v] w fun e w' => e = .returned (.int .i64 t.sum) ∧ w' = w := by
  obtain ⟨a, cap, rfl, hcap, ha⟩ := hv
  clear hcap
  have Ha := Lib.hid ha; clear ha
  have Hm := Lib.hid hm; clear hm
  go_enter Try.func54, Try.ntmps54
  go_wp2
  go_loopw [3, 4] (fun s i wr => SmRel t w s i wr) (fun _ i _ => t.length - (intOf i).toNat)
  case atStart => exact ⟨0, Nat.zero_le _, rfl, by simp, rfl⟩
  case round =>
    obtain ⟨k, hk, rfl, rfl, hw⟩ := hrel
    obtain rfl : w = wr := hw
    by_cases hlt : k < t.length
    · obtain ⟨b, o, rfl, hb0, hrw⟩ := Ha.out (by intro h; simp [h] at hlt)
      have c0 := hrw k hlt
      have hsum := takeI_sum hlt
      obtain ⟨x0, x1⟩ := Hm.out k
      obtain ⟨s0, s1⟩ := takeI_bd Hm.out k hk
      have Hsum := Lib.hid hsum
      have hk12 : k < 12 := by omega
      generalize t.getD k 0 = x at *
      generalize (t.take k).sum = s at *
      have hs9 : s ≤ 24000000000 := by omega
      clear hsum hrw s1
      go_wp2
      exact ⟨⟨k + 1, hlt, by go_num, by rw [Hsum.out], rfl⟩, by simp [intOf]; omega⟩
    · obtain rfl : k = t.length := by omega
      rw [List.take_length]
      go_wp2
      go_ret
      exact ⟨rfl, rfl⟩

def O1Rel (l : List Pt) (w : World) (u i : Value) (wr : World) : Prop := ∃ k : Nat, k ≤ l.length ∧ i = .int .i64 k ∧ RowI wr w.heap.size u (ownP (l.take k)) ∧ Below w.heap.size w wr
def O2Rel (base : List Int) (a : Int) (c : Nat) (w : World) (u i : Value) (wr : World) : Prop := ∃ k : Nat, k ≤ c ∧ i = .int .i64 k ∧ RowI wr w.heap.size u (base ++ List.replicate k a) ∧ Below w.heap.size w wr

set_option maxRecDepth 100000 in
set_option maxHeartbeats 2000000 in
theorem owners1_any (v : Value) (l : List Pt) (w : World) (hv : PtIn w v l) (hz : validP l = true) :
    Calls Try.prog 61 #[v] w (IntsOne (ownP l) w) := by
  obtain ⟨i0, hi, hz0, hz1, hz2⟩ := info_parts Try.info3
  obtain ⟨b, o, cap, rfl, _, hb, hl⟩ := PtIn.full hv hz
  have Hl := Lib.hid hl; clear hl hv
  have hl12 := (validP_iff.1 hz).2.1
  have Hz := Lib.hid hz; clear hz
  go_enter Try.func61, Try.ntmps61
  go_wp2
  go_loopw [3, 4] (fun u i wr => O1Rel l w u i wr) (fun _ i _ => l.length - (intOf i).toNat)
  case atStart => exact ⟨0, Nat.zero_le _, rfl, RowI.made w w.heap.size (Nat.le_refl _), (Below.refl _ _).alloc (Nat.le_refl _) _⟩
  case round =>
    obtain ⟨k, hk, rfl, hrow, hbel⟩ := hrel
    by_cases hlt : k < l.length
    · have hup := ownP_succ hlt
      have hle := ownP_take_le hlt
      have hln := ownP_len Hz.out
      have hat := validP_at Hz.out hlt
      have Hc := Lib.hid (fun w' (h : Below w.heap.size w w') => (Hl.out.below h hb) k hlt)
      generalize (l.getD k pt0).a = xa at *
      generalize (l.getD k pt0).b = xb at *
      obtain ⟨c, rfl⟩ : ∃ c : Nat, xb = c := ⟨xb.toNat, by omega⟩
      rw [Int.toNat_natCast] at hup hle
      generalize hbs : ownP (l.take k) = base at *
      have hbc : base.length + c ≤ 1188 := by omega
      have hc9 : c ≤ 99 := by omega
      have Hup := Lib.hid hup
      have Hrow := Lib.hid hrow
      have HB := Lib.hid hbel
      clear hup hle hln hat hrow hbel hbs
      go_wp2
      go_loopw [3, 5] (fun u i wr => O2Rel base xa c w u i wr) (fun _ i _ => c - (intOf i).toNat)
      case atStart => exact ⟨0, Nat.zero_le _, rfl, by simpa using Hrow.out, HB.out⟩
      case round =>
        obtain ⟨q, hq, rfl, hrow, hbel⟩ := hrel
        obtain ⟨c0, c1⟩ := Hc.out _ hbel
        by_cases hlt2 : q < c
        · have hlen : (base ++ List.replicate q xa).length = base.length + q := by simp
          have hown := hrow
          unfold RowI at hown
          rw [hlen] at hown
          have hsz := hbel.size
          have HB2 := Lib.hid hbel
          have Hlen := Lib.hid hlen
          have hqc : (q : Int) < (c : Int) := by omega
          clear hrow hlen hbel
          generalize hys : base ++ List.replicate q xa = ys at *
          generalize hbn : base.length = bn at *
          have Hys := Lib.hid hys
          clear hys
          go_wp2_with (at_builtin; refine wpList_append_own _ rfl _ _ 25 rfl w.heap.size 3 i0 (.int .i64 0) 1 8 Try.underlying25 hi hz0 hz1 hz2 rfl (by decide) _ _ _ rfl (hown.alloc _) ⟨wr.heap.size, 0, none⟩ 1 1 [.int .i64 xa] rfl rfl (cell_one_new _ _ _) (by simp [Value.oneCell']) (by simp only [maxLen]; omega) (by omega) (by simp; omega) ?_; intro v' w8 hown8 hgrow _)
          have HB8 := Lib.hid ((HB2.out.alloc hsz (.cells #[.int .i64 xa] 3)).grown hgrow (by simp; omega) (fun j hj => (hown.lt j hj).1))
          have Hown8 := Lib.hid (show RowI w8 w.heap.size v' (base ++ List.replicate (q + 1) xa) by
            rw [List.replicate_succ', ← List.append_assoc, Hys.out]
            refine RowI.snoc ?_
            rw [Hlen.out]
            exact hown8)
          clear hown8 hgrow hown
          go_wp2
          exact ⟨⟨q + 1, hlt2, by go_num, Hown8.out, HB8.out⟩, by simp [intOf]; omega⟩
        · obtain rfl : q = c := by omega
          rw [← Hup.out] at hrow
          have HR := Lib.hid hrow
          have HB2 := Lib.hid hbel
          clear hrow hbel
          go_wp2
          go_roundw
          case rel => exact ⟨k + 1, hlt, by go_num, HR.out, HB2.out⟩
          case measure => simp [intOf]; omega
    · obtain rfl : k = l.length := by omega
      rw [List.take_length] at hrow
      have HR := Lib.hid (IntsOne.row hrow (Nat.le_refl _) hbel)
      clear hrow hbel
      go_wp2
      go_ret
      exact HR.out

end Go.Proofs.Ythdkjjfnockldaa
