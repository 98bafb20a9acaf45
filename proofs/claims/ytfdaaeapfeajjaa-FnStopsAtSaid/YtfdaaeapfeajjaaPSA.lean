/- The law FnStopsAt holds at every input. No condition. -/
import Derived.Test.YtfdaaeapfeajjaaDSA
import Derived.Test.YtfdaaeapfeajjaaSAF
import Derived.Test.YtfdaaeapfeajjaaSP
namespace Go.Proofs.Ytfdaaeapfeajjaa.lawFnStopsAt
open Go.ChangeShapes Go.WideShapes Go.ChangeAt Go.RowKit
set_option linter.unusedVariables false

set_option maxRecDepth 100000 in
set_option maxHeartbeats 2000000 in
theorem walk (v : Value) (l : List Int) (w : World) (hv : BytesIn w v l) (hm : l.length ≤ maxLen) :
    Calls Try.prog 5 #[v] w fun e w' => e = .returned (.bool true) ∧ Below w.heap.size w w' := by
  have Hv := Lib.hid hv
  obtain ⟨av, cv, rfl, hcv, _, _⟩ := hv
  clear hcv
  by_cases hl : l.length ≤ 1048576
  · have hl' : ¬ (1048576 : Int) < (l.length : Int) := by omega
    go_enter Try.func5, Try.ntmps5
    go_wp2_with fail
    refine (drawAt_any _ l _ Hv.out hl).mono ?_; rintro e w1 ⟨n, ad, cap, xs, t, rfl, hn2, hn6, hcap, h8, hown, ht0, ht1, hb⟩
    have Hx1 := Lib.hid (hown.ins (cap := cap))
    have HB1 := Lib.hid hb
    have hx : xs.length ≤ 1048576 := by omega
    clear hown hb hcap
    have H2 := Lib.hid (fun u (ys : List Rd) w' (h : RoadsIn w' u ys) (hy : ys.length ≤ 1048576) => at2_any n u ys t w' h hy)
    have H1 := Lib.hid (fun w' (h : RoadsIn w' (.slice ad xs.length cap) xs) => at1_any n _ xs t w' h hx)
    have H2a := Lib.hid (fun w' (h : RoadsIn w' (.slice ad xs.length cap) xs) => H2.out _ xs w' h hx)
    go_wp2_with fail
    refine (H2a.out _ Hx1.out).mono ?_; rintro e w2 ⟨rfl, hb2⟩
    have Hx2 := Lib.hid (Hx1.out.below hb2)
    have HB2 := Lib.hid (HB1.out.trans (hb2.mono HB1.out.size))
    clear hb2
    go_wp2_with fail
    refine (H1.out _ Hx2.out).mono ?_; rintro e w3 ⟨rfl, hb3⟩
    have Hx3 := Lib.hid (Hx2.out.below hb3)
    have HB3 := Lib.hid (HB2.out.trans (hb3.mono HB2.out.size))
    clear hb3 H1 H2a Hx1 Hx2
    by_cases hneg : stopsAtV n xs t < 0
    · clear H2
      generalize stopsAtV n xs t = o at *
      have hq : (o != o) = false := by simp
      have hq2 : (o == o) = true := by simp
      go_wp2
      go_ret
      exact ⟨ret_bool (by first | rfl | (simp; done)), HB3.out⟩
    · obtain ⟨hz, i, hi, hil, hta⟩ := at_facts (n := n) (l := xs) (t := t) (by omega)
      rw [hi]
      clear hneg hi
      have hwh := at_where hz hil
      have h2 := (validS_iff.1 hz).1.2.2.1
      have hvi := validS_at hz hil
      have hv0 := validS_at hz (show 0 < xs.length by omega)
      have wt0 : W64 (20000 - (xs.getD 0 rd0).b) := by unfold W64; omega
      have HBo := Lib.hid (fun h => at_back (k := t) (n := n) (l := xs) (t := 20000 - (xs.getD 0 rd0).b) h wt0 hil hta)
      have HBl := Lib.hid (fun h => (back_facts (n := n) (l := xs) (t := 20000 - (xs.getD 0 rd0).b) h wt0).2.2.2.1)
      have HWh := Lib.hid (fun w' (h : RoadsIn w' (.slice ad xs.length cap) xs) => where2_any n _ xs (xs.getD i rd0).b w' h hx)
      rw [hwh] at HWh
      have HBk := Lib.hid (fun w' (h : RoadsIn w' (.slice ad xs.length cap) xs) => back2_any n _ xs (20000 - (xs.getD 0 rd0).b) w' h hx wt0)
      clear hwh hz wt0
      have hX := Hx3.out
      obtain ⟨_, _, he, ha⟩ := hX
      cases he
      obtain ⟨b, o, rfl, hb0, hrw⟩ := ha (by intro h; simp [h] at hil)
      obtain ⟨c0, c1, c2⟩ := hrw i hil
      obtain ⟨d0, d1, d2⟩ := hrw 0 (by omega)
      have Hrw := Lib.hid (fun w' (h : Below w3.heap.size w3 w') => hrw.below h hb0)
      clear ha hrw
      have hii : (i : Int) < (xs.length : Int) := by omega
      have hi0 : (0 : Int) ≤ (i : Int) := Int.natCast_nonneg _
      have hz0 : (0 : Int) < (xs.length : Int) := by omega
      have HD := Lib.hid (fun w' (h : Below w3.heap.size w3 w') => (show w'.cell? ⟨b, o, none⟩ = some (.int .i64 (xs.getD 0 rd0).a) ∧ w'.cell? ⟨b, o + 1, none⟩ = some (.int .i64 (xs.getD 0 rd0).b) by have := Hrw.out w' h 0 (by omega); exact ⟨by simpa using this.1, by simpa using this.2.1⟩))
      have HC := Lib.hid (fun w' (h : Below w3.heap.size w3 w') => (show w'.cell? ⟨b, o + i * 3, none⟩ = some (.int .i64 t) by have := (Hrw.out w' h i hil).1; rwa [hta] at this))
      clear d0 d1 d2 c0 c2 hta
      generalize (xs.getD i rd0).b = tb at *
      generalize (xs.getD 0 rd0).b = tz at *
      obtain ⟨T, hT⟩ : ∃ T, T = 20000 - tz := ⟨_, rfl⟩
      rw [← hT] at HBo HBl HBk
      have hT1 : wrap64 (20000 - tz) = T := by unfold wrap64; omega
      have hT2 : IntKind.i64.wrap (20000 - tz) = T := by rw [IntWalk.i64_in _ (by omega)]; omega
      have hq1 : ((i : Int) == (i : Int)) = true := by simp
      have hq2 : (t == t) = true := by simp
      have hq3 : ((i : Int) != (i : Int)) = false := by simp
      have hni : ¬ (i : Int) < 0 := by omega
      clear hT hvi hv0
      go_wp2_with fail
      refine (HWh.out _ Hx3.out).mono ?_; rintro e w4 ⟨rfl, hb4⟩
      have HA4 := Lib.hid hb4
      obtain ⟨k1, k2⟩ := HD.out w4 hb4
      clear hb4
      go_wp2_with fail
      refine (HBk.out _ (Hx3.out.below HA4.out)).mono ?_; rintro e w5 ⟨ad5, cap5, rfl, ho5, _, hb5⟩
      have HA5 := Lib.hid (HA4.out.trans (hb5.mono HA4.out.size))
      have HI5 := Lib.hid (ho5.ins (cap := cap5))
      have e1 := HC.out w5 HA5.out
      clear hb5 ho5 k1 k2 HA4
      cases hok : backOk n xs T with
      | false =>
        have HBf := Lib.hid (HB3.out.trans (HA5.out.mono HB3.out.size))
        clear hok
        go_wp2
        go_ret
        exact ⟨ret_bool (by first | rfl | (simp; done)), HBf.out⟩
      | true =>
        have hyes : backL n xs T = backTo xs T 0 := if_pos hok
        have hbo := HBo.out hok
        have hbl := HBl.out hok
        rw [hyes] at HI5 ⊢
        have H2b := Lib.hid (H2.out _ (backTo xs T 0) w5 HI5.out (by omega))
        rw [hbo] at H2b
        have hbl' := Lib.hid hbl
        have hlt : ((xs.length - 1 - i : Nat) : Int) = (xs.length : Int) - 1 - (i : Int) := by omega
        rw [hlt] at H2b
        have h9 : wrap64 ((xs.length : Int) - 1) = (xs.length : Int) - 1 := by unfold wrap64; omega
        have h10 : wrap64 ((xs.length : Int) - 1 - (i : Int)) = (xs.length : Int) - 1 - (i : Int) := by unfold wrap64; omega
        have hq4 : (((xs.length : Int) - 1 - (i : Int)) == ((xs.length : Int) - 1 - (i : Int))) = true := by simp
        clear hok hyes hbo hbl hlt
        go_wp2_with fail
        refine H2b.out.mono ?_; rintro e w6 ⟨rfl, hb6⟩
        have HBf := Lib.hid (HB3.out.trans ((HA5.out.trans (hb6.mono HA5.out.size)).mono HB3.out.size))
        clear hb6
        go_wp2
        go_ret
        exact ⟨ret_bool (by first | rfl | (simp; done)), HBf.out⟩
  · have hl' : (1048576 : Int) < (l.length : Int) := by omega
    go_enter Try.func5, Try.ntmps5
    go_wp2
    go_ret
    exact ⟨rfl, Below.refl _ _⟩

set_option maxRecDepth 100000 in
theorem lifted (os : Os) (started : os.Started) (H : Type) (enc : TypeId × Value → H) :
    ReturnsInHanded {} Try.checked os 5 .any (Rows.fnStopsAtSpec.pre6 enc Try.prog Try.f5 Rows.fnStopsAtRow.domain false) (Rows.fnStopsAtSpec.post enc Try.prog Try.f5 false true false false) := by
  refine returnsInHanded_of_change (C := Try.checked) own started (by kernel_rfl) Try.func5
    (ChangeSpec.witness6 (enc := enc) (C := Try.checked) false ⟨#[], #[.slice none 0 0], []⟩ 8 (by kernel_rfl) (by kernel_rfl) (by kernel_rfl) (by kernel_rfl)) ?_
  intro W base args ds gs before hval0 hW hcnd _
  have hval : ∀ (j : Nat) t v, Try.f5.params[j]? = some t → args[j]? = some v → Value.okWide Try.prog W .any base t v := hval0
  have hW' := hW
  obtain ⟨p, q, hA0, hV, rfl, hfz, hnd⟩ := hW
  have hA : DataW.TrodAll enc Try.prog W 0 (fun _ => true) true Try.f5.params.toList args.toList ds p := hA0
  rw [Try.params5] at hA hval
  obtain ⟨v0, vs0, d0, ds0, p0, q0, hargs, rfl, rfl, h0, r0⟩ := trodAll_cons hA
  obtain ⟨rfl, rfl, rfl⟩ := trodAll_nil r0
  obtain rfl : args = #[v0] := by cases args; simp_all
  obtain ⟨rfl, rfl⟩ := trodVars_none hV
  obtain ⟨a0, len0, cap0, rfl⟩ := okWide_slice Try.underlying22 (hval 0 22 v0 rfl rfl)
  have k0 := h0
  have lt0 : ∀ x ∈ p0, x.block < W.heap.size := by obtain ⟨m, hm⟩ := k0; exact DataW.trod_lt m _ _ _ hm
  obtain ⟨z0, hv0, hm0⟩ := open_byteS h0 rfl
  clear hA0 hval0
  refine (walk _ z0 W hv0 hm0).mono fun e W' ⟨he, bel⟩ => ?_
  subst he
  exact ⟨_, rfl, _, _, _, [], _, [], hW', trodAll_mk1 (shut_bool Try.underlying4 _), (trodAll_cons_mk (Below.trod laidOut (by kernel_rfl) (of_decide_eq_true (by kernel_rfl)) k0 bel lt0) trodAll_mk0), rfl, bel.frame _, fun h => by cases h⟩

theorem over : Rows.fnStopsAtRow.holds Try.pinned (OpenSpec.ofChange Rows.fnStopsAtSpec) :=
  OpenClaim.holds_of_wide 5 Try.f5 rfl rfl rfl rfl rfl rfl rfl ⟨rfl, rfl, rfl, rfl, rfl⟩ rfl rfl rfl rfl rfl (by kernel_rfl) Try.func5 (by kernel_rfl)
    (of_decide_eq_true (by kernel_rfl)) (by unfold Func.isWrapper; first | (rw [if_pos (by decide +kernel)]; kernel_rfl) | (rw [if_neg (by decide +kernel)]; exact ⟨rfl, rfl⟩))
    (fun os started H enc _ => lifted os started H enc)

theorem proved : Rows.FnStopsAtSaid := over
#print axioms proved
end Go.Proofs.Ytfdaaeapfeajjaa.lawFnStopsAt
