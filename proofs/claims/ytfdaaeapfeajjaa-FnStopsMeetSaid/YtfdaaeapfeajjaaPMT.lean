/- The law FnStopsMeet holds at every input. No condition. -/
import Derived.Test.YtfdaaeapfeajjaaDSM
import Derived.Test.YtfdaaeapfeajjaaSMF
import Derived.Test.YtfdaaeapfeajjaaSXJ
import Derived.Test.YtfdaaeapfeajjaaSK
namespace Go.Proofs.Ytfdaaeapfeajjaa.lawFnStopsMeet
open Go.ChangeShapes Go.WideShapes Go.ChangeAt Go.RowKit
set_option linter.unusedVariables false

set_option maxRecDepth 100000 in
set_option maxHeartbeats 2000000 in
theorem walk (v : Value) (l : List Int) (w : World) (hv : BytesIn w v l) (hm : l.length ≤ maxLen) :
    Calls Try.prog 6 #[v] w fun e w' => e = .returned (.bool true) ∧ Below w.heap.size w w' := by
  have Hv := Lib.hid hv
  obtain ⟨av, cv, rfl, hcv, _, _⟩ := hv
  clear hcv
  by_cases hl : l.length ≤ 1048576
  · have hl' : ¬ (1048576 : Int) < (l.length : Int) := by omega
    go_enter Try.func6, Try.ntmps6
    go_wp2_with fail
    refine (drawMeet_any _ l _ Hv.out hl).mono ?_; rintro e w1 ⟨n, ad, cap, xs, ad', cap', ys, rfl, hn2, hn6, hx8, hy8, hox, hoy, hb⟩
    have Hx1 := Lib.hid (hox.ins (cap := cap))
    have Hy1 := Lib.hid (hoy.ins (cap := cap'))
    have HB1 := Lib.hid hb
    have hx : xs.length ≤ 1048576 := by omega
    have hy : ys.length ≤ 1048576 := by omega
    clear hox hoy hb
    have HM2 := Lib.hid (fun w' (h : RoadsIn w' (.slice ad xs.length cap) xs) (h' : RoadsIn w' (.slice ad' ys.length cap') ys) => meet2_any n _ _ xs ys w' h h' hx hy)
    have HM1 := Lib.hid (fun w' (h : RoadsIn w' (.slice ad xs.length cap) xs) (h' : RoadsIn w' (.slice ad' ys.length cap') ys) => meet1_any n _ _ xs ys w' h h' hx hy)
    have HMs := Lib.hid (fun w' (h : RoadsIn w' (.slice ad xs.length cap) xs) (h' : RoadsIn w' (.slice ad' ys.length cap') ys) => meet2_any n _ _ ys xs w' h' h hy hx)
    cases hmo : meetOf n xs ys with
    | none =>
      rw [hmo] at HM2 HM1
      unfold meetV at HM2 HM1
      simp only at HM2 HM1
      clear HMs hmo
      go_wp2_with fail
      refine (HM2.out _ Hx1.out Hy1.out).mono ?_; rintro e w2 ⟨rfl, hb2⟩
      have Hx2 := Lib.hid (Hx1.out.below hb2)
      have Hy2 := Lib.hid (Hy1.out.below hb2)
      have HB2 := Lib.hid (HB1.out.trans (hb2.mono HB1.out.size))
      clear hb2
      go_wp2_with fail
      refine (HM1.out _ Hx2.out Hy2.out).mono ?_; rintro e w3 ⟨rfl, hb3⟩
      have HB3 := Lib.hid (HB2.out.trans (hb3.mono HB2.out.size))
      clear hb3
      go_wp2
      go_ret
      exact ⟨ret_bool (by first | rfl | (simp; done)), HB3.out⟩
    | some t =>
      obtain ⟨hsy, ht, ⟨i, k, hi, hk, hwi, hwk, hab⟩, hsh⟩ := meet_law hmo
      rw [hmo] at HM2 HM1
      rw [hsy] at HMs
      unfold meetV at HM2 HM1 HMs
      simp only at HM2 HM1 HMs
      have HWx := Lib.hid (fun w' (h : RoadsIn w' (.slice ad xs.length cap) xs) => where2_any n _ xs t w' h hx)
      have HWy := Lib.hid (fun w' (h : RoadsIn w' (.slice ad' ys.length cap') ys) => where2_any n _ ys t w' h hy)
      rw [hwi] at HWx
      rw [hwk] at HWy
      have HLx := Lib.hid (fun w' (h : RoadsIn w' (.slice ad xs.length cap) xs) => later2_any n _ xs 10 w' h hx (by unfold W64; omega))
      have HLy := Lib.hid (fun w' (h : RoadsIn w' (.slice ad' ys.length cap') ys) => later2_any n _ ys 10 w' h hy (by unfold W64; omega))
      have Hsh := Lib.hid hsh
      clear hmo hsy hwi hwk hsh
      have hX := Hx1.out
      obtain ⟨_, _, he, hax⟩ := hX
      cases he
      obtain ⟨bx, ox, rfl, hbx, hrx⟩ := hax (by intro h; simp [h] at hi)
      have hY := Hy1.out
      obtain ⟨_, _, he, hay⟩ := hY
      cases he
      obtain ⟨bz, oz, rfl, hbz, hrz⟩ := hay (by intro h; simp [h] at hk)
      have HTx := Lib.hid (fun w' (h : Below w1.heap.size w1 w') => ((hrx.below h hbx) i hi).1)
      have HTz := Lib.hid (fun w' (h : Below w1.heap.size w1 w') => ((hrz.below h hbz) k hk).1)
      rw [← hab] at HTz
      clear hax hay hrx hrz hab
      generalize (xs.getD i rd0).a = ta at *
      have hq1 : (t != t) = false := by simp
      have hq2 : (t == t) = true := by simp
      have hq3 : (ta == ta) = true := by simp
      go_wp2_with fail
      refine (HM2.out _ Hx1.out Hy1.out).mono ?_; rintro e w2 ⟨rfl, hb2⟩
      have HA2 := Lib.hid hb2
      clear hb2
      go_wp2_with fail
      refine (HM1.out _ (Hx1.out.below HA2.out) (Hy1.out.below HA2.out)).mono ?_; rintro e w3 ⟨rfl, hb3⟩
      have HA3 := Lib.hid (HA2.out.trans (hb3.mono HA2.out.size))
      clear hb3 HA2
      go_wp2_with fail
      refine (HMs.out _ (Hx1.out.below HA3.out) (Hy1.out.below HA3.out)).mono ?_; rintro e w4 ⟨rfl, hb4⟩
      have HA4 := Lib.hid (HA3.out.trans (hb4.mono HA3.out.size))
      clear hb4 HA3
      go_wp2_with fail
      refine (HWx.out _ (Hx1.out.below HA4.out)).mono ?_; rintro e w5 ⟨rfl, hb5⟩
      have HA5 := Lib.hid (HA4.out.trans (hb5.mono HA4.out.size))
      clear hb5 HA4
      go_wp2_with fail
      refine (HWy.out _ (Hy1.out.below HA5.out)).mono ?_; rintro e w6 ⟨rfl, hb6⟩
      have HA6 := Lib.hid (HA5.out.trans (hb6.mono HA5.out.size))
      clear hb6 HA5
      go_wp2_with fail
      refine (HLx.out _ (Hx1.out.below HA6.out)).mono ?_; rintro e w7 ⟨ac, cc, rfl, hoc, _, hb7⟩
      have HA7 := Lib.hid (HA6.out.trans (hb7.mono HA6.out.size))
      have HC7 := Lib.hid (hoc.ins (cap := cc))
      clear hb7 hoc HA6
      go_wp2_with fail
      refine (HLy.out _ (Hy1.out.below HA7.out)).mono ?_; rintro e w8 ⟨adz, cdz, rfl, hod, _, hb8⟩
      have HA8 := Lib.hid (HA7.out.trans (hb8.mono HA7.out.size))
      have HC8 := Lib.hid (HC7.out.below hb8)
      have HD8 := Lib.hid (hod.ins (cap := cdz))
      clear hb8 hod HA7 HC7
      have hlc : (laterL n xs 10).length ≤ 1048576 := by unfold laterL; split <;> simp [laterW_len]; omega
      have hld : (laterL n ys 10).length ≤ 1048576 := by unfold laterL; split <;> simp [laterW_len]; omega
      have HMl := Lib.hid (meet2_any n _ _ (laterL n xs 10) (laterL n ys 10) w8 HC8.out HD8.out hlc hld)
      have Hyx := Lib.hid (fun h => show laterL n xs 10 = laterW xs 10 from if_pos h)
      have Hyy := Lib.hid (fun h => show laterL n ys 10 = laterW ys 10 from if_pos h)
      have hI0 : (0 : Int) ≤ (i : Int) := Int.natCast_nonneg _
      have hK0 : (0 : Int) ≤ (k : Int) := Int.natCast_nonneg _
      have hI1 : (i : Int) < (xs.length : Int) := by omega
      have hK1 : (k : Int) < (ys.length : Int) := by omega
      obtain ⟨T, hT⟩ : ∃ T, T = t + 10 := ⟨_, rfl⟩
      have hw1 : wrap64 (t + 10) = T := by rw [wrap64_ok (by omega) (by omega), hT]
      have hw2 : IntKind.i64.wrap (t + 10) = T := by rw [IntWalk.i64_in _ (by omega), hT]
      clear hlc hld HC8 HD8 HWx HWy HLx HLy HM1 HM2 HMs
      cases hkx : laterOk n xs 10 with
      | false =>
        obtain ⟨mt, mq, hmv⟩ := meetV_tup (meetOf n (laterL n xs 10) (laterL n ys 10))
        rw [hmv] at HMl
        clear hmv Hsh Hyx Hyy hkx
        generalize laterOk n ys 10 = oky at *
        go_wp2_with fail
        refine HMl.out.mono ?_; rintro e w9 ⟨rfl, hb9⟩
        have HA9 := Lib.hid (HA8.out.trans (hb9.mono HA8.out.size))
        have hcx := HTx.out _ HA9.out
        have hcz := HTz.out _ HA9.out
        clear hb9 HA8 HMl
        go_wp2
        go_quiet (fail)
        go_wp2
        go_ret
        exact ⟨ret_bool (by first | rfl | (simp; done)), HB1.out.trans ((HA9.out.drewN _).mono HB1.out.size)⟩
      | true =>
        cases hky : laterOk n ys 10 with
        | false =>
          obtain ⟨mt, mq, hmv⟩ := meetV_tup (meetOf n (laterL n xs 10) (laterL n ys 10))
          rw [hmv] at HMl
          clear hmv Hsh Hyx Hyy hkx hky
          go_wp2_with fail
          refine HMl.out.mono ?_; rintro e w9 ⟨rfl, hb9⟩
          have HA9 := Lib.hid (HA8.out.trans (hb9.mono HA8.out.size))
          have hcx := HTx.out _ HA9.out
          have hcz := HTz.out _ HA9.out
          clear hb9 HA8 HMl
          go_wp2
          go_quiet (fail)
          go_wp2
          go_ret
          exact ⟨ret_bool (by first | rfl | (simp; done)), HB1.out.trans ((HA9.out.drewN _).mono HB1.out.size)⟩
        | true =>
          have hsm : meetV (meetOf n (laterL n xs 10) (laterL n ys 10)) = .tuple #[.int .i64 T, .bool true] := by
            rw [hT, Hyx.out hkx, Hyy.out hky, Hsh.out hkx hky]; rfl
          rw [hsm] at HMl
          clear hsm Hsh Hyx Hyy hkx hky
          go_wp2_with fail
          refine HMl.out.mono ?_; rintro e w9 ⟨rfl, hb9⟩
          have HA9 := Lib.hid (HA8.out.trans (hb9.mono HA8.out.size))
          have hcx := HTx.out _ HA9.out
          have hcz := HTz.out _ HA9.out
          have hq4 : (T == T) = true := by simp
          clear hb9 HA8 HMl
          go_wp2
          go_quiet (fail)
          go_wp2
          go_ret
          exact ⟨ret_bool (by first | rfl | (simp; done)), HB1.out.trans ((HA9.out.drewN _).mono HB1.out.size)⟩
  · have hl' : (1048576 : Int) < (l.length : Int) := by omega
    go_enter Try.func6, Try.ntmps6
    go_wp2
    go_ret
    exact ⟨rfl, Below.refl _ _⟩

set_option maxRecDepth 100000 in
theorem lifted (os : Os) (started : os.Started) (H : Type) (enc : TypeId × Value → H) :
    ReturnsInHanded {} Try.checked os 6 .any (Rows.fnStopsMeetSpec.pre6 enc Try.prog Try.f6 Rows.fnStopsMeetRow.domain false) (Rows.fnStopsMeetSpec.post enc Try.prog Try.f6 false true false false) := by
  refine returnsInHanded_of_change (C := Try.checked) own started (by kernel_rfl) Try.func6
    (ChangeSpec.witness6 (enc := enc) (C := Try.checked) false ⟨#[], #[.slice none 0 0], []⟩ 8 (by kernel_rfl) (by kernel_rfl) (by kernel_rfl) (by kernel_rfl)) ?_
  intro W base args ds gs before hval0 hW hcnd _
  have hval : ∀ (j : Nat) t v, Try.f6.params[j]? = some t → args[j]? = some v → Value.okWide Try.prog W .any base t v := hval0
  have hW' := hW
  obtain ⟨p, q, hA0, hV, rfl, hfz, hnd⟩ := hW
  have hA : DataW.TrodAll enc Try.prog W 0 (fun _ => true) true Try.f6.params.toList args.toList ds p := hA0
  rw [Try.params6] at hA hval
  obtain ⟨v0, vs0, d0, ds0, p0, q0, hargs, rfl, rfl, h0, r0⟩ := trodAll_cons hA
  obtain ⟨rfl, rfl, rfl⟩ := trodAll_nil r0
  obtain rfl : args = #[v0] := by cases args; simp_all
  obtain ⟨rfl, rfl⟩ := trodVars_none hV
  obtain ⟨a0, len0, cap0, rfl⟩ := okWide_slice Try.underlying22 (hval 0 22 v0 rfl rfl)
  have k0 := h0
  have lt0 : ∀ x ∈ p0, x.block < W.heap.size := by obtain ⟨m, hm⟩ := k0; exact DataW.trod_lt m _ _ _ hm
  obtain ⟨z0, hv0, hm0⟩ := open_byteS h0 rfl
  clear hA0 hval0
  refine (walk _ z0 W hv0 hm0).mono fun e W' ⟨he, bel⟩ => ?_
  subst he
  exact ⟨_, rfl, _, _, _, [], _, [], hW', trodAll_mk1 (shut_bool Try.underlying4 _), (trodAll_cons_mk (Below.trod laidOut (by kernel_rfl) (of_decide_eq_true (by kernel_rfl)) k0 bel lt0) trodAll_mk0), rfl, bel.frame _, fun h => by cases h⟩

theorem over : Rows.fnStopsMeetRow.holds Try.pinned (OpenSpec.ofChange Rows.fnStopsMeetSpec) :=
  OpenClaim.holds_of_wide 6 Try.f6 rfl rfl rfl rfl rfl rfl rfl ⟨rfl, rfl, rfl, rfl, rfl⟩ rfl rfl rfl rfl rfl (by kernel_rfl) Try.func6 (by kernel_rfl)
    (of_decide_eq_true (by kernel_rfl)) (by unfold Func.isWrapper; first | (rw [if_pos (by decide +kernel)]; kernel_rfl) | (rw [if_neg (by decide +kernel)]; exact ⟨rfl, rfl⟩))
    (fun os started H enc _ => lifted os started H enc)

theorem proved : Rows.FnStopsMeetSaid := over
#print axioms proved
end Go.Proofs.Ytfdaaeapfeajjaa.lawFnStopsMeet
