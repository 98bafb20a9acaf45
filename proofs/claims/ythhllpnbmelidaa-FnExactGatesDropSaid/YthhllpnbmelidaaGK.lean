/- The model's GatesPassed, GatesTrust. -/
import Derived.Test.YthhllpnbmelidaaGJ
import Derived.Test.YthhllpnbmelidaaIO
import Derived.Laws.AppendOwn
namespace Go.Proofs.Ythhllpnbmelidaa
open Go.RowKit
set_option linter.unusedVariables false
set_option linter.unusedSimpArgs false

theorem one_int8 (w : World) (x : Int) : ∀ j u, [Value.int .i64 x][j]? = some u → (w.alloc (.cells #[.int .i64 x] 3)).cell? ((⟨w.heap.size, 0, none⟩ : Addr).add j) = some u := cell_one_new _ _ _

theorem passX_no {l : List Gt} {f t : Int} (h : passOk l f t = false) : passX l f t = [] := by unfold passX; rw [h]; rfl
theorem passX_yes {l : List Gt} {f t : Int} (h : passOk l f t = true) : passX l f t = passL l f t := by unfold passX; rw [if_pos h]
theorem trustX_no {l : List Gt} {t : Int} (h : validG l = false) : trustX l t = [] := by unfold trustX; rw [h]; rfl
theorem trustX_yes {l : List Gt} {t : Int} (h : validG l = true) : trustX l t = whereG (fun g => decide (g.b = t)) l := by unfold trustX; rw [if_pos h]
def WhRel (p : Gt → Bool) (l : List Gt) (w : World) (u i : Value) (wr : World) : Prop := ∃ k : Nat, k ≤ l.length ∧ i = .int .i64 k ∧ RowI wr w.heap.size u (whereTo p l k) ∧ Below w.heap.size w wr

set_option maxRecDepth 100000 in
set_option maxHeartbeats 1000000 in
theorem pass1_any (v : Value) (l : List Gt) (f t : Int) (w : World) (hv : GtIn w v l) (hl : l.length ≤ 1048576) :
    Calls Try.prog 34 #[v, .int .i64 f, .int .i64 t] w (IntsOne (passX l f t) w) := by
  obtain ⟨i0, hi0, hz0, hz1, hz2⟩ := info_parts Try.info3
  have HC := Lib.hid (fun w' (h : Below w.heap.size w w') => (okWay_pass l f t ▸ way1_any v l f t w' (hv.below h) hl))
  obtain ⟨a, cap, rfl, hcap, ha⟩ := hv
  clear hcap
  have Ha := Lib.hid ha; clear ha
  cases hz : passOk l f t with
  | false =>
    rw [passX_no hz]
    have Hz := Lib.hid hz; clear hz
    go_enter Try.func34, Try.ntmps34
    go_wp2
    go_loopw [7, 8] (fun u i wr => i = .int .i64 0 ∧ RowI wr w.heap.size u [] ∧ Below w.heap.size w wr) (fun _ _ _ => 0)
    case atStart => exact ⟨rfl, RowI.made w _ (Nat.le_refl _), (Below.refl _ _).alloc (Nat.le_refl _) _⟩
    case round =>
      obtain ⟨rfl, hrow, hbel⟩ := hrel
      have HB := Lib.hid hbel
      have HR := Lib.hid hrow
      clear hbel hrow
      by_cases h0 : 0 < l.length
      · have h0' : (0 : Int) < (l.length : Int) := by omega
        go_wp2_with fail
        refine (HC.out _ HB.out).mono ?_; rintro e w1 ⟨rfl, hb1⟩
        rw [Hz.out]
        have HB1 := Lib.hid (HB.out.trans (hb1.mono HB.out.size))
        have HR1 := Lib.hid (HR.out.below hb1)
        clear hb1
        go_wp2
        go_ret
        exact IntsOne.row HR1.out (Nat.le_refl _) HB1.out
      · have h0' : ¬ (0 : Int) < (l.length : Int) := by omega
        go_wp2
        go_ret
        exact IntsOne.row HR.out (Nat.le_refl _) HB.out
  | true =>
    rw [passX_yes hz]
    have Hz := Lib.hid hz; clear hz
    go_enter Try.func34, Try.ntmps34
    go_wp2
    go_loopw [7, 8] (fun u i wr => WhRel (inW f t) l w u i wr) (fun _ i _ => l.length - (intOf i).toNat)
    case atStart => exact ⟨0, Nat.zero_le _, rfl, RowI.made w _ (Nat.le_refl _), (Below.refl _ _).alloc (Nat.le_refl _) _⟩
    case round =>
      obtain ⟨k, hk, rfl, hrow, hbel⟩ := hrel
      by_cases hlt : k < l.length
      · obtain ⟨b, o, rfl, hb0, hrw⟩ := Ha.out (by intro h; simp [h] at hlt)
        have hk0 : (0 : Int) ≤ (k : Int) := Int.natCast_nonneg _
        have hk1 : (k : Int) < (l.length : Int) := by omega
        have HR := Lib.hid hrow
        have HB := Lib.hid hbel
        clear hrow
        have Hrw := Lib.hid hrw; clear hrw hbel
        go_wp2_with fail
        refine (HC.out _ HB.out).mono ?_; rintro e w1 ⟨rfl, hb1⟩
        rw [Hz.out]
        have HB1 := Lib.hid (HB.out.trans (hb1.mono HB.out.size))
        have HBr := HB1
        have hs1 := HB1.out.size
        have HR1 := Lib.hid (HR.out.below hb1)
        obtain ⟨c0, c1, c2⟩ := (Hrw.out.below HB1.out hb0) k hlt
        have hsucc := whereTo_succ (inW f t) l k
        have hm0 := whereTo_len (inW f t) l k
        have hin : inW f t (l.getD k gt0) = (decide (f ≤ (l.getD k gt0).a) && decide ((l.getD k gt0).a < t)) := rfl
        rw [hin] at hsucc
        clear hin
        generalize (l.getD k gt0).a = xa at *
        generalize (l.getD k gt0).b = xb at *
        generalize (l.getD k gt0).m = xm at *
        clear c1 c2
        clear hb1 HB HR
        have Hs := Lib.hid hsucc; clear hsucc
        by_cases q1 : f ≤ xa
        · by_cases q2 : xa < t
          · have q0 := q1
            have Hy := Lib.hid (Hs.out.trans (if_pos (by first | exact decide_eq_true q1 | simp [inW, q1, q2] | (simp [inW]; omega)))); clear Hs
            have hrow' := HR1.out; unfold RowI at hrow'
            generalize hen : (whereTo (inW f t) l k).map (Value.int .i64) = en at *
            generalize hmm : (whereTo (inW f t) l k).length = m at *
            have Hen := Lib.hid hen; have Hmm := Lib.hid hmm; clear hen hmm
            go_wp2_with (at_builtin; refine wpList_append_own _ rfl _ _ 39 rfl w.heap.size 3 i0 _ 1 8 Try.underlying39 hi0 hz0 hz1 hz2 rfl (by decide) _ m en rfl (World.ownsRow.alloc hrow' _) ⟨w1.heap.size, 0, none⟩ 1 1 [.int .i64 (k : Int)] rfl rfl (one_int8 w1 (k : Int)) (by simp [Value.oneCell']) (by simp only [maxLen]; omega) (by omega) (by simp; omega) ?_; intro v' w8 hown8 hgrow8 _; have HO8 := Lib.hid hown8; have HB8 := Lib.hid ((HBr.out.alloc HBr.out.size _).grown hgrow8 (by simp; omega) (fun j hj => (hrow'.lt j hj).1)); clear hown8 hgrow8 hrow')
            rw [← Hen.out, ← Hmm.out] at HO8
            have HO9 := Lib.hid (RowI.snoc HO8.out)
            rw [← Hy.out] at HO9
            go_wp2
            exact ⟨⟨k + 1, hlt, by go_num, HO9.out, HB8.out⟩, by simp [intOf]; omega⟩
          · have q0 := q1
            have Hy := Lib.hid (Hs.out.trans (if_neg (by first | (simp; exact q1) | (simp [inW]; omega)))); clear Hs
            rw [← Hy.out] at HR1
            go_wp2
            exact ⟨⟨k + 1, hlt, by go_num, HR1.out, HB1.out⟩, by simp [intOf]; omega⟩
        · have q0 := q1
          have Hy := Lib.hid (Hs.out.trans (if_neg (by first | (simp; exact q1) | (simp [inW]; omega)))); clear Hs
          rw [← Hy.out] at HR1
          go_wp2
          exact ⟨⟨k + 1, hlt, by go_num, HR1.out, HB1.out⟩, by simp [intOf]; omega⟩
      · obtain rfl : k = l.length := by omega
        have HB := Lib.hid hbel
        have HR := Lib.hid hrow
        clear hbel hrow hlt hk
        go_wp2
        go_ret
        exact IntsOne.row HR.out (Nat.le_refl _) HB.out

set_option maxRecDepth 100000 in
set_option maxHeartbeats 1000000 in
theorem trust1_any (v : Value) (l : List Gt) (t : Int) (w : World) (hv : GtIn w v l) (hl : l.length ≤ 1048576) :
    Calls Try.prog 39 #[v, .int .i64 t] w (IntsOne (trustX l t) w) := by
  obtain ⟨i0, hi0, hz0, hz1, hz2⟩ := info_parts Try.info3
  have HC := Lib.hid (fun w' (h : Below w.heap.size w w') => gv1_any v l w' (hv.below h) (by omega))
  obtain ⟨a, cap, rfl, hcap, ha⟩ := hv
  clear hcap
  have Ha := Lib.hid ha; clear ha
  cases hz : validG l with
  | false =>
    rw [trustX_no hz]
    have Hz := Lib.hid hz; clear hz
    go_enter Try.func39, Try.ntmps39
    go_wp2
    go_loopw [5, 6] (fun u i wr => i = .int .i64 0 ∧ RowI wr w.heap.size u [] ∧ Below w.heap.size w wr) (fun _ _ _ => 0)
    case atStart => exact ⟨rfl, RowI.made w _ (Nat.le_refl _), (Below.refl _ _).alloc (Nat.le_refl _) _⟩
    case round =>
      obtain ⟨rfl, hrow, hbel⟩ := hrel
      have HB := Lib.hid hbel
      have HR := Lib.hid hrow
      clear hbel hrow
      by_cases h0 : 0 < l.length
      · have h0' : (0 : Int) < (l.length : Int) := by omega
        go_wp2_with fail
        refine (HC.out _ HB.out).mono ?_; rintro e w1 ⟨rfl, hb1⟩
        rw [Hz.out]
        have HB1 := Lib.hid (HB.out.trans (hb1.mono HB.out.size))
        have HR1 := Lib.hid (HR.out.below hb1)
        clear hb1
        go_wp2
        go_ret
        exact IntsOne.row HR1.out (Nat.le_refl _) HB1.out
      · have h0' : ¬ (0 : Int) < (l.length : Int) := by omega
        go_wp2
        go_ret
        exact IntsOne.row HR.out (Nat.le_refl _) HB.out
  | true =>
    rw [trustX_yes hz]
    have Hz := Lib.hid hz; clear hz
    go_enter Try.func39, Try.ntmps39
    go_wp2
    go_loopw [5, 6] (fun u i wr => WhRel (fun g => decide (g.b = t)) l w u i wr) (fun _ i _ => l.length - (intOf i).toNat)
    case atStart => exact ⟨0, Nat.zero_le _, rfl, RowI.made w _ (Nat.le_refl _), (Below.refl _ _).alloc (Nat.le_refl _) _⟩
    case round =>
      obtain ⟨k, hk, rfl, hrow, hbel⟩ := hrel
      by_cases hlt : k < l.length
      · obtain ⟨b, o, rfl, hb0, hrw⟩ := Ha.out (by intro h; simp [h] at hlt)
        have hk0 : (0 : Int) ≤ (k : Int) := Int.natCast_nonneg _
        have hk1 : (k : Int) < (l.length : Int) := by omega
        have HR := Lib.hid hrow
        have HB := Lib.hid hbel
        clear hrow
        have Hrw := Lib.hid hrw; clear hrw hbel
        go_wp2_with fail
        refine (HC.out _ HB.out).mono ?_; rintro e w1 ⟨rfl, hb1⟩
        rw [Hz.out]
        have HB1 := Lib.hid (HB.out.trans (hb1.mono HB.out.size))
        have HBr := HB1
        have hs1 := HB1.out.size
        have HR1 := Lib.hid (HR.out.below hb1)
        obtain ⟨c0, c1, c2⟩ := (Hrw.out.below HB1.out hb0) k hlt
        have hsucc := whereTo_succ (fun g => decide (g.b = t)) l k
        have hm0 := whereTo_len (fun g => decide (g.b = t)) l k
        generalize (l.getD k gt0).a = xa at *
        generalize (l.getD k gt0).b = xb at *
        generalize (l.getD k gt0).m = xm at *
        clear c0 c2
        clear hb1 HB HR
        have Hs := Lib.hid hsucc; clear hsucc
        by_cases q1 : xb = t
        · have q0 : (xb == t) = true := by simpa using q1
          have Hy := Lib.hid (Hs.out.trans (if_pos (by first | exact decide_eq_true q1 | simp [inW, q1, q2] | (simp [inW]; omega)))); clear Hs
          have hrow' := HR1.out; unfold RowI at hrow'
          generalize hen : (whereTo (fun g => decide (g.b = t)) l k).map (Value.int .i64) = en at *
          generalize hmm : (whereTo (fun g => decide (g.b = t)) l k).length = m at *
          have Hen := Lib.hid hen; have Hmm := Lib.hid hmm; clear hen hmm
          go_wp2_with (at_builtin; refine wpList_append_own _ rfl _ _ 39 rfl w.heap.size 3 i0 _ 1 8 Try.underlying39 hi0 hz0 hz1 hz2 rfl (by decide) _ m en rfl (World.ownsRow.alloc hrow' _) ⟨w1.heap.size, 0, none⟩ 1 1 [.int .i64 (k : Int)] rfl rfl (one_int8 w1 (k : Int)) (by simp [Value.oneCell']) (by simp only [maxLen]; omega) (by omega) (by simp; omega) ?_; intro v' w8 hown8 hgrow8 _; have HO8 := Lib.hid hown8; have HB8 := Lib.hid ((HBr.out.alloc HBr.out.size _).grown hgrow8 (by simp; omega) (fun j hj => (hrow'.lt j hj).1)); clear hown8 hgrow8 hrow')
          rw [← Hen.out, ← Hmm.out] at HO8
          have HO9 := Lib.hid (RowI.snoc HO8.out)
          rw [← Hy.out] at HO9
          go_wp2
          exact ⟨⟨k + 1, hlt, by go_num, HO9.out, HB8.out⟩, by simp [intOf]; omega⟩
        · have q0 : (xb == t) = false := by simpa using q1
          have Hy := Lib.hid (Hs.out.trans (if_neg (by first | (simp; exact q1) | (simp [inW]; omega)))); clear Hs
          rw [← Hy.out] at HR1
          go_wp2
          exact ⟨⟨k + 1, hlt, by go_num, HR1.out, HB1.out⟩, by simp [intOf]; omega⟩
      · obtain rfl : k = l.length := by omega
        have HB := Lib.hid hbel
        have HR := Lib.hid hrow
        clear hbel hrow hlt hk
        go_wp2
        go_ret
        exact IntsOne.row HR.out (Nat.le_refl _) HB.out

end Go.Proofs.Ythhllpnbmelidaa
