/- The program's gatesWhere, GatesTrust, GatesPassed, ifGates. -/
import Derived.Test.YthhllpnbmelidaaGM
import Derived.Test.YthhllpnbmelidaaGK
namespace Go.Proofs.Ythhllpnbmelidaa
open Go.RowKit
set_option linter.unusedVariables false
set_option linter.unusedSimpArgs false

set_option maxHeartbeats 400000 in
theorem inW_any (x : Gt) (cf ct : Nat) (f t : Int) (w : World) (h1 : w.cell? ⟨cf, 0, none⟩ = some (.int .i64 f)) (h2 : w.cell? ⟨ct, 0, none⟩ = some (.int .i64 t)) :
    Calls Try.prog 77 #[.agg #[.int .i64 x.a, .int .i64 x.b, .int .i64 x.m], .pointer (some ⟨cf, 0, none⟩), .pointer (some ⟨ct, 0, none⟩)] w (Gives (.bool (inW f t x)) w) := by
  obtain ⟨xa, xb, xm⟩ := x
  have hB : Below w.heap.size w (w.alloc (.cells #[.int .i64 xa, .int .i64 xb, .int .i64 xm] 33)) := (Below.refl _ _).alloc (Nat.le_refl _) _
  have k1 := keepCell hB h1
  have k2 := keepCell hB h2
  have hr : inW f t ⟨xa, xb, xm⟩ = (decide (f ≤ xa) && decide (xa < t)) := rfl
  by_cases q : f ≤ xa
  · have Hr := Lib.hid (show inW f t ⟨xa, xb, xm⟩ = decide (xa < t) by rw [hr, decide_eq_true q]; rfl)
    clear hr
    go_enter Try.func77, Try.ntmps77
    go_wp2
    go_ret
    exact ⟨ret_bool Hr.out.symm, hB⟩
  · have Hr := Lib.hid (show inW f t ⟨xa, xb, xm⟩ = false by rw [hr, decide_eq_false q]; rfl)
    clear hr
    go_enter Try.func77, Try.ntmps77
    go_wp2
    go_ret
    exact ⟨ret_bool Hr.out.symm, hB⟩

set_option maxHeartbeats 400000 in
theorem isT_any (x : Gt) (ct : Nat) (t : Int) (w : World) (h1 : w.cell? ⟨ct, 0, none⟩ = some (.int .i64 t)) :
    Calls Try.prog 78 #[.agg #[.int .i64 x.a, .int .i64 x.b, .int .i64 x.m], .pointer (some ⟨ct, 0, none⟩)] w (Gives (.bool (decide (x.b = t))) w) := by
  obtain ⟨xa, xb, xm⟩ := x
  have hB : Below w.heap.size w (w.alloc (.cells #[.int .i64 xa, .int .i64 xb, .int .i64 xm] 33)) := (Below.refl _ _).alloc (Nat.le_refl _) _
  have k1 := keepCell hB h1
  have Hr := Lib.hid (show decide (xb = t) = (xb == t) by rw [Bool.eq_iff_iff]; simp)
  go_enter Try.func78, Try.ntmps78
  go_wp2
  go_ret
  exact ⟨ret_bool Hr.out.symm, hB⟩

set_option maxHeartbeats 400000 in
theorem isLess_any (x : Gt) (cg : Nat) (y : Int) (w : World) (h1 : w.cell? ⟨cg, 0, none⟩ = some (.int .i64 y)) :
    Calls Try.prog 70 #[.agg #[.int .i64 x.a, .int .i64 x.b, .int .i64 x.m], .pointer (some ⟨cg, 0, none⟩)] w (Gives (.bool (decide (x.a < y))) w) := by
  obtain ⟨xa, xb, xm⟩ := x
  have hB : Below w.heap.size w (w.alloc (.cells #[.int .i64 xa, .int .i64 xb, .int .i64 xm] 33)) := (Below.refl _ _).alloc (Nat.le_refl _) _
  have k1 := keepCell hB h1
  go_enter Try.func70, Try.ntmps70
  go_wp2
  go_ret
  exact ⟨ret_bool rfl, hB⟩

set_option maxRecDepth 100000 in
set_option maxHeartbeats 1000000 in
theorem whereP_any (v : Value) (l : List Gt) (p : Gt → Bool) (c0 c1 : Nat) (w : World) (hv : GtIn w v l) (hl : l.length ≤ 1048576) (hc : ∀ (x : Gt) w', Below w.heap.size w w' → Calls Try.prog 77 #[.agg #[.int .i64 x.a, .int .i64 x.b, .int .i64 x.m], .pointer (some ⟨c0, 0, none⟩), .pointer (some ⟨c1, 0, none⟩)] w' (Gives (.bool (p x)) w')) :
    Calls Try.prog 69 #[v, .func (.func 77) #[] #[.pointer (some ⟨c0, 0, none⟩), .pointer (some ⟨c1, 0, none⟩)]] w (IntsOne (whereG p l) w) := by
  obtain ⟨i0, hi0, hz0, hz1, hz2⟩ := info_parts Try.info3
  have HC := Lib.hid hc; clear hc
  obtain ⟨a, cap, rfl, hcap, ha⟩ := hv
  clear hcap
  have Ha := Lib.hid ha; clear ha
  go_enter Try.func69, Try.ntmps69
  go_wp2
  go_loopw [5, 11] (fun u i wr => WhRel p l w u i wr) (fun _ i _ => l.length - (intOf i).toNat)
  case atStart => exact ⟨0, Nat.zero_le _, rfl, RowI.made w _ (Nat.le_refl _), (Below.refl _ _).alloc (Nat.le_refl _) _⟩
  case round =>
    obtain ⟨k, hk, rfl, hrow, hbel⟩ := hrel
    by_cases hlt : k < l.length
    · obtain ⟨b, o, rfl, hb0, hrw⟩ := Ha.out (by intro h; simp [h] at hlt)
      have hk0 : (0 : Int) ≤ (k : Int) := Int.natCast_nonneg _
      have hk1 : (k : Int) < (l.length : Int) := by omega
      obtain ⟨c0', c1', c2'⟩ := (hrw.below hbel hb0) k hlt
      have hsucc := whereTo_succ p l k
      have hm0 := whereTo_len p l k
      have hcall := fun w' h => HC.out (l.getD k gt0) w' h
      generalize p (l.getD k gt0) = pk at *
      generalize (l.getD k gt0).a = xa at *
      generalize (l.getD k gt0).b = xb at *
      generalize (l.getD k gt0).m = xm at *
      have HCk := Lib.hid hcall; clear hcall hrw
      have hB : Below wr.heap.size wr (wr.alloc (.cells #[.int .i64 xa, .int .i64 xb, .int .i64 xm] 33)) := (Below.refl _ _).alloc (Nat.le_refl _) _
      have hA0 : (wr.alloc (.cells #[.int .i64 xa, .int .i64 xb, .int .i64 xm] 33)).cell? ⟨wr.heap.size, 0, none⟩ = some (.int .i64 xa) := by go_simp
      have hA1 : (wr.alloc (.cells #[.int .i64 xa, .int .i64 xb, .int .i64 xm] 33)).cell? ⟨wr.heap.size, 1, none⟩ = some (.int .i64 xb) := by go_simp
      have hA2 : (wr.alloc (.cells #[.int .i64 xa, .int .i64 xb, .int .i64 xm] 33)).cell? ⟨wr.heap.size, 2, none⟩ = some (.int .i64 xm) := by go_simp
      have HB := Lib.hid (hbel.trans (hB.mono hbel.size))
      have HR := Lib.hid (hrow.below hB)
      have Hs := Lib.hid hsucc; clear hsucc hrow hbel hB
      go_wp2_with fail
      generalize wr.alloc (.cells #[.int .i64 xa, .int .i64 xb, .int .i64 xm] 33) = w0 at *
      go_wp2_with fail
      refine (HCk.out _ HB.out).mono ?_; rintro e w1 ⟨rfl, hb1⟩
      have HB1 := Lib.hid (HB.out.trans (hb1.mono HB.out.size))
      have HBr := HB1
      have hs1 := HB1.out.size
      have HR1 := Lib.hid (HR.out.below hb1)
      clear hb1 HB HR HCk
      cases pk with
      | true =>
        have Hy := Lib.hid (Hs.out.trans (if_pos rfl)); clear Hs
        have hrow' := HR1.out; unfold RowI at hrow'
        generalize hen : (whereTo p l k).map (Value.int .i64) = en at *
        generalize hmm : (whereTo p l k).length = m at *
        have Hen := Lib.hid hen; have Hmm := Lib.hid hmm; clear hen hmm
        go_wp2_with (at_builtin; refine wpList_append_own _ rfl _ _ 39 rfl w.heap.size 3 i0 _ 1 8 Try.underlying39 hi0 hz0 hz1 hz2 rfl (by decide) _ m en rfl (World.ownsRow.alloc hrow' _) ⟨w1.heap.size, 0, none⟩ 1 1 [.int .i64 (k : Int)] rfl rfl (one_int8 w1 (k : Int)) (by simp [Value.oneCell']) (by simp only [maxLen]; omega) (by omega) (by simp; omega) ?_; intro v' w8 hown8 hgrow8 _; have HO8 := Lib.hid hown8; have HB8 := Lib.hid ((HBr.out.alloc HBr.out.size _).grown hgrow8 (by simp; omega) (fun j hj => (hrow'.lt j hj).1)); clear hown8 hgrow8 hrow')
        rw [← Hen.out, ← Hmm.out] at HO8
        have HO9 := Lib.hid (RowI.snoc HO8.out)
        rw [← Hy.out] at HO9
        go_wp2
        exact ⟨⟨k + 1, hlt, by go_num, HO9.out, HB8.out⟩, by simp [intOf]; omega⟩
      | false =>
        have Hy := Lib.hid (Hs.out.trans (if_neg (by simp))); clear Hs
        rw [← Hy.out] at HR1
        go_wp2
        exact ⟨⟨k + 1, hlt, by go_num, HR1.out, HB1.out⟩, by simp [intOf]; omega⟩
    · obtain rfl : k = l.length := by omega
      have HB := Lib.hid hbel
      have HR := Lib.hid hrow
      clear hbel hrow hlt hk
      go_wp2
      go_ret
      exact IntsOne.row HR.out (Nat.le_refl _) HB.out

set_option maxRecDepth 100000 in
set_option maxHeartbeats 1000000 in
theorem whereT_any (v : Value) (l : List Gt) (p : Gt → Bool) (c0 : Nat) (w : World) (hv : GtIn w v l) (hl : l.length ≤ 1048576) (hc : ∀ (x : Gt) w', Below w.heap.size w w' → Calls Try.prog 78 #[.agg #[.int .i64 x.a, .int .i64 x.b, .int .i64 x.m], .pointer (some ⟨c0, 0, none⟩)] w' (Gives (.bool (p x)) w')) :
    Calls Try.prog 69 #[v, .func (.func 78) #[] #[.pointer (some ⟨c0, 0, none⟩)]] w (IntsOne (whereG p l) w) := by
  obtain ⟨i0, hi0, hz0, hz1, hz2⟩ := info_parts Try.info3
  have HC := Lib.hid hc; clear hc
  obtain ⟨a, cap, rfl, hcap, ha⟩ := hv
  clear hcap
  have Ha := Lib.hid ha; clear ha
  go_enter Try.func69, Try.ntmps69
  go_wp2
  go_loopw [5, 11] (fun u i wr => WhRel p l w u i wr) (fun _ i _ => l.length - (intOf i).toNat)
  case atStart => exact ⟨0, Nat.zero_le _, rfl, RowI.made w _ (Nat.le_refl _), (Below.refl _ _).alloc (Nat.le_refl _) _⟩
  case round =>
    obtain ⟨k, hk, rfl, hrow, hbel⟩ := hrel
    by_cases hlt : k < l.length
    · obtain ⟨b, o, rfl, hb0, hrw⟩ := Ha.out (by intro h; simp [h] at hlt)
      have hk0 : (0 : Int) ≤ (k : Int) := Int.natCast_nonneg _
      have hk1 : (k : Int) < (l.length : Int) := by omega
      obtain ⟨c0', c1', c2'⟩ := (hrw.below hbel hb0) k hlt
      have hsucc := whereTo_succ p l k
      have hm0 := whereTo_len p l k
      have hcall := fun w' h => HC.out (l.getD k gt0) w' h
      generalize p (l.getD k gt0) = pk at *
      generalize (l.getD k gt0).a = xa at *
      generalize (l.getD k gt0).b = xb at *
      generalize (l.getD k gt0).m = xm at *
      have HCk := Lib.hid hcall; clear hcall hrw
      have hB : Below wr.heap.size wr (wr.alloc (.cells #[.int .i64 xa, .int .i64 xb, .int .i64 xm] 33)) := (Below.refl _ _).alloc (Nat.le_refl _) _
      have hA0 : (wr.alloc (.cells #[.int .i64 xa, .int .i64 xb, .int .i64 xm] 33)).cell? ⟨wr.heap.size, 0, none⟩ = some (.int .i64 xa) := by go_simp
      have hA1 : (wr.alloc (.cells #[.int .i64 xa, .int .i64 xb, .int .i64 xm] 33)).cell? ⟨wr.heap.size, 1, none⟩ = some (.int .i64 xb) := by go_simp
      have hA2 : (wr.alloc (.cells #[.int .i64 xa, .int .i64 xb, .int .i64 xm] 33)).cell? ⟨wr.heap.size, 2, none⟩ = some (.int .i64 xm) := by go_simp
      have HB := Lib.hid (hbel.trans (hB.mono hbel.size))
      have HR := Lib.hid (hrow.below hB)
      have Hs := Lib.hid hsucc; clear hsucc hrow hbel hB
      go_wp2_with fail
      generalize wr.alloc (.cells #[.int .i64 xa, .int .i64 xb, .int .i64 xm] 33) = w0 at *
      go_wp2_with fail
      refine (HCk.out _ HB.out).mono ?_; rintro e w1 ⟨rfl, hb1⟩
      have HB1 := Lib.hid (HB.out.trans (hb1.mono HB.out.size))
      have HBr := HB1
      have hs1 := HB1.out.size
      have HR1 := Lib.hid (HR.out.below hb1)
      clear hb1 HB HR HCk
      cases pk with
      | true =>
        have Hy := Lib.hid (Hs.out.trans (if_pos rfl)); clear Hs
        have hrow' := HR1.out; unfold RowI at hrow'
        generalize hen : (whereTo p l k).map (Value.int .i64) = en at *
        generalize hmm : (whereTo p l k).length = m at *
        have Hen := Lib.hid hen; have Hmm := Lib.hid hmm; clear hen hmm
        go_wp2_with (at_builtin; refine wpList_append_own _ rfl _ _ 39 rfl w.heap.size 3 i0 _ 1 8 Try.underlying39 hi0 hz0 hz1 hz2 rfl (by decide) _ m en rfl (World.ownsRow.alloc hrow' _) ⟨w1.heap.size, 0, none⟩ 1 1 [.int .i64 (k : Int)] rfl rfl (one_int8 w1 (k : Int)) (by simp [Value.oneCell']) (by simp only [maxLen]; omega) (by omega) (by simp; omega) ?_; intro v' w8 hown8 hgrow8 _; have HO8 := Lib.hid hown8; have HB8 := Lib.hid ((HBr.out.alloc HBr.out.size _).grown hgrow8 (by simp; omega) (fun j hj => (hrow'.lt j hj).1)); clear hown8 hgrow8 hrow')
        rw [← Hen.out, ← Hmm.out] at HO8
        have HO9 := Lib.hid (RowI.snoc HO8.out)
        rw [← Hy.out] at HO9
        go_wp2
        exact ⟨⟨k + 1, hlt, by go_num, HO9.out, HB8.out⟩, by simp [intOf]; omega⟩
      | false =>
        have Hy := Lib.hid (Hs.out.trans (if_neg (by simp))); clear Hs
        rw [← Hy.out] at HR1
        go_wp2
        exact ⟨⟨k + 1, hlt, by go_num, HR1.out, HB1.out⟩, by simp [intOf]; omega⟩
    · obtain rfl : k = l.length := by omega
      have HB := Lib.hid hbel
      have HR := Lib.hid hrow
      clear hbel hrow hlt hk
      go_wp2
      go_ret
      exact IntsOne.row HR.out (Nat.le_refl _) HB.out

set_option maxRecDepth 100000 in
set_option maxHeartbeats 1000000 in
theorem whereA_any (v : Value) (l : List Gt) (p : Gt → Bool) (c0 : Nat) (w : World) (hv : GtIn w v l) (hl : l.length ≤ 1048576) (hc : ∀ (x : Gt) w', Below w.heap.size w w' → Calls Try.prog 70 #[.agg #[.int .i64 x.a, .int .i64 x.b, .int .i64 x.m], .pointer (some ⟨c0, 0, none⟩)] w' (Gives (.bool (p x)) w')) :
    Calls Try.prog 69 #[v, .func (.func 70) #[] #[.pointer (some ⟨c0, 0, none⟩)]] w (IntsOne (whereG p l) w) := by
  obtain ⟨i0, hi0, hz0, hz1, hz2⟩ := info_parts Try.info3
  have HC := Lib.hid hc; clear hc
  obtain ⟨a, cap, rfl, hcap, ha⟩ := hv
  clear hcap
  have Ha := Lib.hid ha; clear ha
  go_enter Try.func69, Try.ntmps69
  go_wp2
  go_loopw [5, 11] (fun u i wr => WhRel p l w u i wr) (fun _ i _ => l.length - (intOf i).toNat)
  case atStart => exact ⟨0, Nat.zero_le _, rfl, RowI.made w _ (Nat.le_refl _), (Below.refl _ _).alloc (Nat.le_refl _) _⟩
  case round =>
    obtain ⟨k, hk, rfl, hrow, hbel⟩ := hrel
    by_cases hlt : k < l.length
    · obtain ⟨b, o, rfl, hb0, hrw⟩ := Ha.out (by intro h; simp [h] at hlt)
      have hk0 : (0 : Int) ≤ (k : Int) := Int.natCast_nonneg _
      have hk1 : (k : Int) < (l.length : Int) := by omega
      obtain ⟨c0', c1', c2'⟩ := (hrw.below hbel hb0) k hlt
      have hsucc := whereTo_succ p l k
      have hm0 := whereTo_len p l k
      have hcall := fun w' h => HC.out (l.getD k gt0) w' h
      generalize p (l.getD k gt0) = pk at *
      generalize (l.getD k gt0).a = xa at *
      generalize (l.getD k gt0).b = xb at *
      generalize (l.getD k gt0).m = xm at *
      have HCk := Lib.hid hcall; clear hcall hrw
      have hB : Below wr.heap.size wr (wr.alloc (.cells #[.int .i64 xa, .int .i64 xb, .int .i64 xm] 33)) := (Below.refl _ _).alloc (Nat.le_refl _) _
      have hA0 : (wr.alloc (.cells #[.int .i64 xa, .int .i64 xb, .int .i64 xm] 33)).cell? ⟨wr.heap.size, 0, none⟩ = some (.int .i64 xa) := by go_simp
      have hA1 : (wr.alloc (.cells #[.int .i64 xa, .int .i64 xb, .int .i64 xm] 33)).cell? ⟨wr.heap.size, 1, none⟩ = some (.int .i64 xb) := by go_simp
      have hA2 : (wr.alloc (.cells #[.int .i64 xa, .int .i64 xb, .int .i64 xm] 33)).cell? ⟨wr.heap.size, 2, none⟩ = some (.int .i64 xm) := by go_simp
      have HB := Lib.hid (hbel.trans (hB.mono hbel.size))
      have HR := Lib.hid (hrow.below hB)
      have Hs := Lib.hid hsucc; clear hsucc hrow hbel hB
      go_wp2_with fail
      generalize wr.alloc (.cells #[.int .i64 xa, .int .i64 xb, .int .i64 xm] 33) = w0 at *
      go_wp2_with fail
      refine (HCk.out _ HB.out).mono ?_; rintro e w1 ⟨rfl, hb1⟩
      have HB1 := Lib.hid (HB.out.trans (hb1.mono HB.out.size))
      have HBr := HB1
      have hs1 := HB1.out.size
      have HR1 := Lib.hid (HR.out.below hb1)
      clear hb1 HB HR HCk
      cases pk with
      | true =>
        have Hy := Lib.hid (Hs.out.trans (if_pos rfl)); clear Hs
        have hrow' := HR1.out; unfold RowI at hrow'
        generalize hen : (whereTo p l k).map (Value.int .i64) = en at *
        generalize hmm : (whereTo p l k).length = m at *
        have Hen := Lib.hid hen; have Hmm := Lib.hid hmm; clear hen hmm
        go_wp2_with (at_builtin; refine wpList_append_own _ rfl _ _ 39 rfl w.heap.size 3 i0 _ 1 8 Try.underlying39 hi0 hz0 hz1 hz2 rfl (by decide) _ m en rfl (World.ownsRow.alloc hrow' _) ⟨w1.heap.size, 0, none⟩ 1 1 [.int .i64 (k : Int)] rfl rfl (one_int8 w1 (k : Int)) (by simp [Value.oneCell']) (by simp only [maxLen]; omega) (by omega) (by simp; omega) ?_; intro v' w8 hown8 hgrow8 _; have HO8 := Lib.hid hown8; have HB8 := Lib.hid ((HBr.out.alloc HBr.out.size _).grown hgrow8 (by simp; omega) (fun j hj => (hrow'.lt j hj).1)); clear hown8 hgrow8 hrow')
        rw [← Hen.out, ← Hmm.out] at HO8
        have HO9 := Lib.hid (RowI.snoc HO8.out)
        rw [← Hy.out] at HO9
        go_wp2
        exact ⟨⟨k + 1, hlt, by go_num, HO9.out, HB8.out⟩, by simp [intOf]; omega⟩
      | false =>
        have Hy := Lib.hid (Hs.out.trans (if_neg (by simp))); clear Hs
        rw [← Hy.out] at HR1
        go_wp2
        exact ⟨⟨k + 1, hlt, by go_num, HR1.out, HB1.out⟩, by simp [intOf]; omega⟩
    · obtain rfl : k = l.length := by omega
      have HB := Lib.hid hbel
      have HR := Lib.hid hrow
      clear hbel hrow hlt hk
      go_wp2
      go_ret
      exact IntsOne.row HR.out (Nat.le_refl _) HB.out

theorem IntsOne.later {xs : List Int} {w w1 w' : World} {e : Ending} (h : IntsOne xs w1 e w') (hb : Below w.heap.size w w1) : IntsOne xs w e w' := by
  obtain ⟨ad, cap, rfl, hc, ho, hin, hb2⟩ := h
  exact ⟨ad, cap, rfl, hc, ho, fun j hj => ⟨Nat.le_trans hb.size (hin j hj).1, (hin j hj).2⟩, hb.trans (hb2.mono hb.size)⟩

set_option maxHeartbeats 800000 in
theorem trust2_any (v : Value) (l : List Gt) (t : Int) (w : World) (hv : GtIn w v l) (hl : l.length ≤ 1048576) :
    Calls Try.prog 40 #[v, .int .i64 t] w (IntsOne (trustX l t) w) := by
  have hB : Below w.heap.size w (w.alloc (.cells #[.int .i64 t] 3)) := (Below.refl _ _).alloc (Nat.le_refl _) _
  have hA0 : (w.alloc (.cells #[.int .i64 t] 3)).cell? ⟨w.heap.size, 0, none⟩ = some (.int .i64 t) := by go_simp
  have HV := Lib.hid (gv2_any v l _ (hv.below hB) (by omega))
  have HW := Lib.hid (fun w' (h : Below (w.alloc (.cells #[.int .i64 t] 3)).heap.size (w.alloc (.cells #[.int .i64 t] 3)) w') => whereT_any v l (fun g => decide (g.b = t)) w.heap.size w' ((hv.below hB).below h) hl (fun x w2 h2 => isT_any x w.heap.size t w2 (keepCell h2 (keepCell h hA0))))
  have HB := Lib.hid hB; clear hv hB
  cases hz : validG l with
  | false =>
    rw [trustX_no hz]
    rw [hz] at HV
    go_enter Try.func40, Try.ntmps40
    go_wp2_with fail
    refine HV.out.mono ?_; rintro e w1 ⟨rfl, hb1⟩
    have HB1 := Lib.hid (HB.out.trans (hb1.mono HB.out.size))
    go_wp2
    go_ret
    exact IntsOne.row (RowI.made w1 _ HB1.out.size) (Nat.le_refl _) (HB1.out.alloc HB1.out.size _)
  | true =>
    rw [trustX_yes hz]
    rw [hz] at HV
    go_enter Try.func40, Try.ntmps40
    go_wp2_with fail
    refine HV.out.mono ?_; rintro e w1 ⟨rfl, hb1⟩
    have HB1 := Lib.hid (HB.out.trans (hb1.mono HB.out.size))
    have Hb1 := Lib.hid hb1; clear hb1
    go_wp2_with fail
    refine (HW.out _ Hb1.out).mono ?_; rintro e w2 h2
    obtain ⟨ad, cp, rfl, hrest⟩ := IntsOne.later h2 HB1.out
    have HR := Lib.hid hrest; clear h2 hrest
    generalize hln : (whereG (fun g => decide (g.b = t)) l).length = n at *
    have Hln := Lib.hid hln; clear hln
    go_wp2
    go_ret
    exact ⟨ad, cp, by rw [Hln.out]; rfl, by rw [Hln.out]; exact HR.out.1, HR.out.2⟩

set_option maxHeartbeats 1600000 in
theorem pass2_any (v : Value) (l : List Gt) (f t : Int) (w : World) (hv : GtIn w v l) (hl : l.length ≤ 1048576) :
    Calls Try.prog 35 #[v, .int .i64 f, .int .i64 t] w (IntsOne (passX l f t) w) := by
  have hB : Below w.heap.size w ((w.alloc (.cells #[.int .i64 f] 3)).alloc (.cells #[.int .i64 t] 3)) := ((Below.refl _ _).alloc (Nat.le_refl _) _).alloc (by simp) _
  have hA0 : ((w.alloc (.cells #[.int .i64 f] 3)).alloc (.cells #[.int .i64 t] 3)).cell? ⟨w.heap.size, 0, none⟩ = some (.int .i64 f) := by go_simp
  have hA1 : ((w.alloc (.cells #[.int .i64 f] 3)).alloc (.cells #[.int .i64 t] 3)).cell? ⟨w.heap.size + 1, 0, none⟩ = some (.int .i64 t) := by go_simp
  have HV := Lib.hid (gv2_any v l _ (hv.below hB) (by omega))
  have HW := Lib.hid (fun w' (h : Below ((w.alloc (.cells #[.int .i64 f] 3)).alloc (.cells #[.int .i64 t] 3)).heap.size ((w.alloc (.cells #[.int .i64 f] 3)).alloc (.cells #[.int .i64 t] 3)) w') => whereP_any v l (inW f t) w.heap.size (w.heap.size + 1) w' ((hv.below hB).below h) hl (fun x w2 h2 => inW_any x w.heap.size (w.heap.size + 1) f t w2 (keepCell h2 (keepCell h hA0)) (keepCell h2 (keepCell h hA1))))
  have HB := Lib.hid hB; clear hv hB
  cases hz : validG l with
  | false =>
    rw [passX_no (show passOk l f t = false by unfold passOk; rw [hz]; rfl)]
    rw [hz] at HV
    go_enter Try.func35, Try.ntmps35
    go_wp2_with fail
    refine HV.out.mono ?_; rintro e w1 ⟨rfl, hb1⟩
    have HB1 := Lib.hid (HB.out.trans (hb1.mono HB.out.size))
    go_wp2
    go_ret
    exact IntsOne.row (RowI.made w1 _ HB1.out.size) (Nat.le_refl _) (HB1.out.alloc HB1.out.size _)
  | true =>
    rw [hz] at HV
    cases hq : okEnds f t with
    | false =>
      rw [passX_no (show passOk l f t = false by unfold passOk; rw [hz, hq]; rfl)]
      have Hq := Lib.hid hq; clear hq hz
      go_enter Try.func35, Try.ntmps35
      go_wp2_with fail
      refine HV.out.mono ?_; rintro e w1 ⟨rfl, hb1⟩
      have HB1 := Lib.hid (HB.out.trans (hb1.mono HB.out.size))
      have k0 := keepCell hb1 hA0
      have k1 := keepCell hb1 hA1
      go_wp2_with fail
      refine (areEnds_any _ _ _).mono ?_; rintro e w' ⟨rfl, rfl⟩
      rw [Hq.out]
      go_wp2
      go_ret
      exact IntsOne.row (RowI.made w1 _ HB1.out.size) (Nat.le_refl _) (HB1.out.alloc HB1.out.size _)
    | true =>
      rw [passX_yes (show passOk l f t = true by unfold passOk; rw [hz, hq]; rfl)]
      unfold passL
      have Hq := Lib.hid hq; clear hq hz
      go_enter Try.func35, Try.ntmps35
      go_wp2_with fail
      refine HV.out.mono ?_; rintro e w1 ⟨rfl, hb1⟩
      have HB1 := Lib.hid (HB.out.trans (hb1.mono HB.out.size))
      have k0 := keepCell hb1 hA0
      have k1 := keepCell hb1 hA1
      have Hb1 := Lib.hid hb1; clear hb1
      go_wp2_with fail
      refine (areEnds_any _ _ _).mono ?_; rintro e w' ⟨rfl, rfl⟩
      rw [Hq.out]
      go_wp2_with fail
      refine (HW.out _ Hb1.out).mono ?_; rintro e w2 h2
      obtain ⟨ad, cp, rfl, hrest⟩ := IntsOne.later h2 HB1.out
      have HR := Lib.hid hrest; clear h2 hrest
      generalize hln : (whereG (inW f t) l).length = n at *
      have Hln := Lib.hid hln; clear hln
      go_wp2
      go_ret
      exact ⟨ad, cp, by rw [Hln.out]; rfl, by rw [Hln.out]; exact HR.out.1, HR.out.2⟩

end Go.Proofs.Ythhllpnbmelidaa
