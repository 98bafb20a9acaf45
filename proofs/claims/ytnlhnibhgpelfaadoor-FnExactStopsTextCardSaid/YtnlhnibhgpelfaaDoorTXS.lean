/- StopsText: the model's. -/
import Derived.Test.YtnlhnibhgpelfaaDoorTX
namespace Go.Proofs.YtnlhnibhgpelfaaDoor
open Go.RowKit

theorem add_str (x y : ByteArray) (h : x.size + y.size ≤ 1000) (w : World) : (binOp .add 9 (.string x) (.string y)).run Tryd.prog w = .ok (.string (x ++ y)) w := by
  go_simp
  omega
def BelT (X w : World) : Prop := Below X.heap.size X w
theorem textB_zero (l : List Rd) : textB l 0 = ⟨#[]⟩ := by simp [textB, textL, List.intercalate]
theorem textB_size (l : List Rd) {k : Nat} (h : k ≤ l.length) : (textB l k).size ≤ 14 * k := by
  have := textL_len l k h
  show (textL l k).toArray.size ≤ _
  simpa using this
def TsRel (l : List Rd) (w : World) (sv iv : Value) (wr : World) : Prop := ∃ k : Nat, k ≤ l.length ∧ sv = .string (textB l k) ∧ iv = .int .i64 k ∧ Below w.heap.size w wr
def textsV1 (n : Int) (l : List Rd) : ByteArray := if validS n l = true then textB l l.length else ⟨#[]⟩

set_option maxRecDepth 100000 in
set_option maxHeartbeats 2000000 in
theorem texts1_any (n : Int) (v : Value) (l : List Rd) (w : World) (hv : RoadsIn w v l) (hm : l.length ≤ 1048576) :
    Calls Tryd.prog 8 #[.int .i64 n, v] w (Gives (.string (textsV1 n l)) w) := by
  have hvv := hv
  obtain ⟨a, cap, rfl, ha⟩ := hv
  have HV := Lib.hid (fun w' (h : Below w.heap.size w w') => valid1_any n _ l w' (hvv.below h) hm)
  clear hvv
  cases hz : validS n l with
  | true =>
    obtain ⟨hn1, hn8, l2, l8⟩ := (validS_iff.1 hz).1
    have hr : textsV1 n l = textB l l.length := by unfold textsV1; rw [if_pos hz]
    rw [hr]
    rw [hz] at HV
    have Hz := Lib.hid hz; clear hz hr
    obtain ⟨b, o, rfl, hlt0, hrw⟩ := ha (by rintro rfl; simp at l2)
    have Hrw := Lib.hid hrw; clear hrw ha
    go_enter Tryd.func8, Tryd.ntmps8
    go_wp2
    go_loopw [5, 6] (fun sv iv wr => TsRel l w sv iv wr) (fun _ i _ => l.length - (intOf i).toNat)
    case atStart => exact ⟨0, Nat.zero_le _, by rw [textB_zero], rfl, Below.refl _ _⟩
    case round =>
      obtain ⟨k, hk, rfl, rfl, hbel⟩ := hrel
      have Hbel := Lib.hid hbel; clear hbel
      by_cases hlt : k < l.length
      · have hk0 : (0 : Int) ≤ (k : Int) := Int.natCast_nonneg _
        have hk1 : (k : Int) < (l.length : Int) := by omega
        go_wp2_with fail
        refine (HV.out _ Hbel.out).mono ?_; rintro e w1 ⟨rfl, hb1⟩
        have HB1 := Lib.hid (Hbel.out.trans (hb1.mono Hbel.out.size)); clear hb1
        obtain ⟨c0, c1, c2⟩ := (Hrw.out.below HB1.out hlt0) k hlt
        obtain ⟨va0, va1, va2, va3, va4, _⟩ := validS_at Hz.out hlt
        have hrr : l.getD k rd0 = ⟨(l.getD k rd0).a, (l.getD k rd0).b, (l.getD k rd0).m⟩ := rfl
        have hsz := textB_size l hk
        have Hst0 := Lib.hid (show k = 0 → addT (textB l k) (l.getD k rd0) = textB l (k + 1) from fun h => by subst h; rw [textB_zero]; exact textB_one l hlt)
        have Hst1 := Lib.hid (show k ≠ 0 → addT (textB l k ++ ⟨#[32]⟩) (l.getD k rd0) = textB l (k + 1) from fun h => by
          obtain ⟨j, rfl⟩ : ∃ j, k = j + 1 := ⟨k - 1, by omega⟩
          exact textB_more l hlt)
        rw [hrr] at Hst0 Hst1
        unfold addT at Hst0 Hst1
        have hk8 : k < 8 := by omega
        clear hrr
        generalize (l.getD k rd0).a = xa at *
        generalize (l.getD k rd0).b = xb at *
        generalize (l.getD k rd0).m = xm at *
        generalize textB l k = s at *
        have hs8 : s.size ≤ 112 := by omega
        have htb := clockT_size xb
        have htm := clockT_size xm
        have HD := Lib.hid (show ∀ w', BelT w1 w' → Calls Tryd.prog 18 #[.int .i64 xa] w' (fun e w'' => e = .returned (.string ⟨#[dgB xa.toNat]⟩) ∧ BelT w1 w'') from fun w' h => (l6DecI_any xa w' va0 (by omega)).mono fun e w'' ⟨he, hb⟩ => ⟨he, Below.trans h (hb.mono (Below.size h))⟩)
        have HT := Lib.hid (show ∀ t w', BelT w1 w' → Calls Tryd.prog 5 #[.int .i64 t] w' (fun e w'' => e = .returned (.string (clockT t)) ∧ BelT w1 w'') from fun t w' h => (text1_any t w').mono fun e w'' ⟨he, hb⟩ => ⟨he, Below.trans h (hb.mono (Below.size h))⟩)
        have HTb := Lib.hid (fun w' h => HT.out xb w' h)
        have HTm := Lib.hid (fun w' h => HT.out xm w' h)
        have Hcl := Lib.hid (show ∀ w' x u, BelT w1 w' → w1.cell? ⟨b, x, none⟩ = some u → w'.cell? ⟨b, x, none⟩ = some u from fun w' x u h hc => (Below.cell h (p := ⟨b, x, none⟩) (World.block_lt_of_cell? _ _ hc)).trans hc)
        clear HT
        have hd1 : (⟨#[dgB xa.toNat]⟩ : ByteArray).size = 1 := rfl
        generalize (⟨#[dgB xa.toNat]⟩ : ByteArray) = d at *
        generalize clockT xb = tb at *
        generalize clockT xm = tm at *
        have kb : BelT w1 w1.drew := (Below.refl _ _).drew
        have C0 := Lib.hid c0; have C1 := Lib.hid c1; have C2 := Lib.hid c2
        by_cases hq : k = 0
        · have hq0 : ¬ (k : Int) > 0 := by omega
          have Hst := Lib.hid (Hst0.out hq)
          clear hq
          go_wp2
          clear hq0
          have qs0 : ¬ (9223372036854775807 < s.size + 1) := by omega
          have qs1 : ¬ (9223372036854775806 < s.size) := by omega
          have qs2 : ¬ (9223372036854775807 < s.size + 1 + 1) := by omega
          have qs3 : ¬ (9223372036854775806 < s.size + 1) := by omega
          have qs4 : ¬ (9223372036854775805 < s.size) := by omega
          have qs5 : ¬ (9223372036854775807 < s.size + 1 + 1 + tb.size) := by omega
          have qs6 : ¬ (9223372036854775807 < s.size + 1 + 1 + tb.size + 1) := by omega
          have qs7 : ¬ (9223372036854775806 < s.size + 1 + 1 + tb.size) := by omega
          have qs8 : ¬ (9223372036854775807 < s.size + 1 + 1 + tb.size + 1 + tm.size) := by omega
          go_region_held3 (fun w' => w'.cell? ⟨b, o + k * 3, none⟩ = some (.int .i64 xa) ∧ w'.cell? ⟨b, o + k * 3 + 1, none⟩ = some (.int .i64 xb) ∧ w'.cell? ⟨b, o + k * 3 + 2, none⟩ = some (.int .i64 xm) ∧ BelT w1 w') (first | (go_keep; done) | (go_split_ands; refine ⟨?_, ?_, ?_, ?_⟩ <;> first | assumption | (go_simp; done)) | exact ⟨Hcl.out _ _ _ (by assumption) C0.out, Hcl.out _ _ _ (by assumption) C1.out, Hcl.out _ _ _ (by assumption) C2.out, by assumption⟩)
            (first | (go_at_call 18; with_reducible refine (HD.out _ (by first | assumption | (go_split_ands; assumption))).mono ?_; rintro e w5 ⟨rfl, kw5⟩) | (go_at_call 5; with_reducible refine (HTb.out _ (by first | assumption | (go_split_ands; assumption))).mono ?_; rintro e w6 ⟨rfl, kw6⟩) | (go_at_call 5; with_reducible refine (HTm.out _ (by first | assumption | (go_split_ands; assumption))).mono ?_; rintro e w7 ⟨rfl, kw7⟩))
          all_goals
            go_wp2
            exact ⟨⟨k + 1, hlt, by rw [← Hst.out], by go_num, HB1.out.trans (Below.mono (show BelT w1 _ by assumption) HB1.out.size)⟩, by simp [intOf]; omega⟩
        · have hq0 : (k : Int) > 0 := by omega
          have Hst := Lib.hid (Hst1.out hq)
          clear hq
          have hs9 : (s ++ (⟨#[32]⟩ : ByteArray)).size ≤ 113 := by rw [ByteArray.size_append]; show s.size + 1 ≤ 113; omega
          go_wp2
          clear hq0
          generalize hsx : s ++ (⟨#[32]⟩ : ByteArray) = sx at *
          clear hsx
          have qs0 : ¬ (9223372036854775807 < sx.size + 1) := by omega
          have qs1 : ¬ (9223372036854775806 < sx.size) := by omega
          have qs2 : ¬ (9223372036854775807 < sx.size + 1 + 1) := by omega
          have qs3 : ¬ (9223372036854775806 < sx.size + 1) := by omega
          have qs4 : ¬ (9223372036854775805 < sx.size) := by omega
          have qs5 : ¬ (9223372036854775807 < sx.size + 1 + 1 + tb.size) := by omega
          have qs6 : ¬ (9223372036854775807 < sx.size + 1 + 1 + tb.size + 1) := by omega
          have qs7 : ¬ (9223372036854775806 < sx.size + 1 + 1 + tb.size) := by omega
          have qs8 : ¬ (9223372036854775807 < sx.size + 1 + 1 + tb.size + 1 + tm.size) := by omega
          go_region_held3 (fun w' => w'.cell? ⟨b, o + k * 3, none⟩ = some (.int .i64 xa) ∧ w'.cell? ⟨b, o + k * 3 + 1, none⟩ = some (.int .i64 xb) ∧ w'.cell? ⟨b, o + k * 3 + 2, none⟩ = some (.int .i64 xm) ∧ BelT w1 w') (first | (go_keep; done) | (go_split_ands; refine ⟨?_, ?_, ?_, ?_⟩ <;> first | assumption | (go_simp; done)) | exact ⟨Hcl.out _ _ _ (by assumption) C0.out, Hcl.out _ _ _ (by assumption) C1.out, Hcl.out _ _ _ (by assumption) C2.out, by assumption⟩)
            (first | (go_at_call 18; with_reducible refine (HD.out _ (by first | assumption | (go_split_ands; assumption))).mono ?_; rintro e w5 ⟨rfl, kw5⟩) | (go_at_call 5; with_reducible refine (HTb.out _ (by first | assumption | (go_split_ands; assumption))).mono ?_; rintro e w6 ⟨rfl, kw6⟩) | (go_at_call 5; with_reducible refine (HTm.out _ (by first | assumption | (go_split_ands; assumption))).mono ?_; rintro e w7 ⟨rfl, kw7⟩))
          all_goals
            go_wp2
            exact ⟨⟨k + 1, hlt, by rw [← Hst.out], by go_num, HB1.out.trans (Below.mono (show BelT w1 _ by assumption) HB1.out.size)⟩, by simp [intOf]; omega⟩
      · have hkl : k = l.length := by omega
        subst hkl
        have hk1 : ¬ (l.length : Int) < (l.length : Int) := by omega
        go_wp2
        go_ret
        exact ⟨rfl, Hbel.out⟩
  | false =>
    have hr : textsV1 n l = ⟨#[]⟩ := by unfold textsV1; rw [hz]; rfl
    rw [hr]
    rw [hz] at HV
    have Hz := Lib.hid hz; clear hz hr
    have Ha := Lib.hid ha; clear ha
    go_enter Tryd.func8, Tryd.ntmps8
    go_wp2
    go_loopw [5, 6] (fun sv iv wr => sv = .string ⟨#[]⟩ ∧ iv = .int .i64 0 ∧ Below w.heap.size w wr) (fun _ _ _ => 0)
    case atStart => exact ⟨rfl, rfl, Below.refl _ _⟩
    case round =>
      obtain ⟨rfl, rfl, hbel⟩ := hrel
      have Hbel := Lib.hid hbel; clear hbel
      by_cases hlt : 0 < l.length
      · have hk1 : (0 : Int) < (l.length : Int) := by omega
        go_wp2_with fail
        refine (HV.out _ Hbel.out).mono ?_; rintro e w1 ⟨rfl, hb1⟩
        have HB1 := Lib.hid (Hbel.out.trans (hb1.mono Hbel.out.size)); clear hb1
        go_wp2
        go_ret
        exact ⟨rfl, HB1.out⟩
      · have hk1 : ¬ (0 : Int) < (l.length : Int) := by omega
        go_wp2
        go_ret
        exact ⟨rfl, Hbel.out⟩

end Go.Proofs.YtnlhnibhgpelfaaDoor
