/- The law FnPartsLength holds at every input. No condition. -/
import Derived.Test.YthdkjjfnockldaaDPX
import Derived.Test.YthdkjjfnockldaaPF
import Derived.Test.YthdkjjfnockldaaLH
import Derived.Test.YthdkjjfnockldaaQL
import Derived.Test.YthdkjjfnockldaaQ2
import Derived.Test.YthdkjjfnockldaaQN
import Derived.Test.YthdkjjfnockldaaQM
import Derived.Test.YthdkjjfnockldaaQO
namespace Go.Proofs.Ythdkjjfnockldaa.lawFnPartsLength
open Go.ChangeShapes Go.WideShapes Go.ChangeAt Go.RowKit
set_option linter.unusedVariables false

set_option maxRecDepth 100000 in
set_option maxHeartbeats 2000000 in
theorem walk (v : Value) (l : List Int) (w : World) (hv : BytesIn w v l) (hm : l.length ≤ maxLen) :
    Calls Try.prog 4 #[v] w fun e w' => e = .returned (.bool true) ∧ Below w.heap.size w w' := by
  have Hv := Lib.hid hv
  obtain ⟨av, cv, rfl, hcv, _, _⟩ := hv
  clear hcv
  by_cases hl : l.length ≤ 1048576
  · have hl' : ¬ (1048576 : Int) < (l.length : Int) := by omega
    go_enter Try.func4, Try.ntmps4
    go_wp2_with fail
    refine (drawPartsLength_any _ l _ Hv.out hl).mono ?_; rintro e w1 ⟨pv, xs, rfl, hp, hx8, hb⟩
    have Hx1 := Lib.hid hp
    have HB1 := Lib.hid hb
    have hx : xs.length ≤ 1048576 := by omega
    obtain ⟨pa, pcap, rfl, _, _⟩ := hp
    clear hb
    have H2 := Lib.hid (fun w' (h : PtIn w' (.slice pa xs.length pcap) xs) => len2_any _ xs w' h hx)
    have H1 := Lib.hid (fun w' (h : PtIn w' (.slice pa xs.length pcap) xs) => len1_any _ xs w' h hx)
    cases hok : validP xs with
    | false =>
      have hno : lenX xs = -1 := by unfold lenX; rw [if_no hok]
      rw [hno] at H2 H1
      clear hok hno
      go_wp2_with fail
      refine (H2.out _ Hx1.out).mono ?_; rintro e w2 ⟨rfl, hb2⟩
      have Hx2 := Lib.hid (Hx1.out.below hb2)
      have HB2 := Lib.hid (HB1.out.trans (hb2.mono HB1.out.size))
      clear hb2
      go_wp2_with fail
      refine (H1.out _ Hx2.out).mono ?_; rintro e w3 ⟨rfl, hb3⟩
      have HB3 := Lib.hid (HB2.out.trans (hb3.mono HB2.out.size))
      clear hb3
      go_wp2
      go_ret
      exact ⟨rfl, HB3.out⟩
    | true =>
      obtain ⟨e1, e2, _, _, _, e6⟩ := turn_facts hok
      obtain ⟨n0, n1⟩ := len_parts hok
      have hpf : plainOk xs = true → lenX (plainX xs) = lenX xs := fun h => (plain_facts h).2.2.2.1
      have hyl : xs.reverse.length ≤ 1048576 := by rw [List.length_reverse]; exact hx
      have hzl : (plainX xs).length ≤ 1048576 := plainX_short xs
      have HT := Lib.hid (fun w' (h : PtIn w' (.slice pa xs.length pcap) xs) => turn2_any _ xs w' h hx)
      have HP := Lib.hid (fun w' (h : PtIn w' (.slice pa xs.length pcap) xs) => plain2_any _ xs w' h hx)
      have HO := Lib.hid (fun w' (h : PtIn w' (.slice pa xs.length pcap) xs) => owner2_any _ xs (lenX xs) w' h hx)
      rw [e1, hok] at HT
      have hmo : mileOk xs (lenX xs) = false := by unfold mileOk; rw [hok, lenX_yes hok]; simp
      have hmx : mileX xs (lenX xs) = 0 := by unfold mileX; rw [if_no hmo]
      rw [hmo, hmx] at HO
      have HLy := Lib.hid (fun u w' (h : PtIn w' u xs.reverse) => len2_any u xs.reverse w' h hyl)
      have HLz := Lib.hid (fun (q : plainOk xs = true) u w' (h : PtIn w' u (plainX xs)) => (show Calls _ _ _ _ (Gives (.int .i64 (lenX xs)) w') from hpf q ▸ len2_any u (plainX xs) w' h hzl))
      rw [e6] at HLy
      clear e1 e2 e6 hmo hmx hok hpf
      generalize lenX xs = n at *
      generalize xs.reverse = ys at *
      generalize plainX xs = zs at *
      have hn0 : ¬ n < 0 := by omega
      have hq1 : (n != n) = false := by simp
      have hq2 : (n == n) = true := by simp
      have hge : n ≥ (xs.length : Int) := n0
      go_wp2_with fail
      refine (H2.out _ Hx1.out).mono ?_; rintro e w2 ⟨rfl, hb2⟩
      have Hx2 := Lib.hid (Hx1.out.below hb2)
      have HB2 := Lib.hid (HB1.out.trans (hb2.mono HB1.out.size))
      clear hb2
      go_wp2_with fail
      refine (H1.out _ Hx2.out).mono ?_; rintro e w3 ⟨rfl, hb3⟩
      have Hx3 := Lib.hid (Hx2.out.below hb3)
      have HB3 := Lib.hid (HB2.out.trans (hb3.mono HB2.out.size))
      clear hb3 H1 H2 Hx1 Hx2 HB1 HB2
      go_wp2_with fail
      refine (HT.out _ Hx3.out).mono ?_; intro e w4 h4
      obtain ⟨v4, rfl, hi4, hb4⟩ := outPt_in h4
      have Hx4 := Lib.hid (Hx3.out.below hb4)
      have HB4 := Lib.hid (HB3.out.trans (hb4.mono HB3.out.size))
      have HY4 := Lib.hid hi4
      clear hb4 hi4 h4 Hx3 HB3 HT
      go_wp2_with fail
      refine (HP.out _ Hx4.out).mono ?_; intro e w5 h5
      obtain ⟨v5, rfl, hi5, hb5⟩ := outPt_in h5
      have Hx5 := Lib.hid (Hx4.out.below hb5)
      have HB5 := Lib.hid (HB4.out.trans (hb5.mono HB4.out.size))
      have HY5 := Lib.hid (HY4.out.below hb5)
      have HZ5 := Lib.hid hi5
      clear hb5 hi5 h5 Hx4 HB4 HY4 HP
      go_wp2_with fail
      refine (HO.out _ Hx5.out).mono ?_; rintro e w6 ⟨rfl, hb6⟩
      have HB6 := Lib.hid (HB5.out.trans (hb6.mono HB5.out.size))
      have HY6 := Lib.hid (HY5.out.below hb6)
      have HZ6 := Lib.hid (HZ5.out.below hb6)
      clear hb6 HO Hx5 HB5 HY5 HZ5
      go_wp2_with fail
      refine (HLy.out _ _ HY6.out).mono ?_; rintro e w7 ⟨rfl, hb7⟩
      have HB7 := Lib.hid (HB6.out.trans (hb7.mono HB6.out.size))
      have HZ7 := Lib.hid (HZ6.out.below hb7)
      clear hb7 HLy HB6 HY6 HZ6
      cases hq : plainOk xs with
      | false =>
        clear HLz hq
        go_wp2
        go_ret
        exact ⟨rfl, HB7.out⟩
      | true =>
        have HLz := Lib.hid (HLz.out hq)
        clear hq
        go_wp2_with fail
        refine (HLz.out _ _ HZ7.out).mono ?_; rintro e w8 ⟨rfl, hb8⟩
        have HB8 := Lib.hid (HB7.out.trans (hb8.mono HB7.out.size))
        clear hb8 HLz
        go_wp2
        go_ret
        exact ⟨rfl, HB8.out⟩
  · have hl' : (1048576 : Int) < (l.length : Int) := by omega
    go_enter Try.func4, Try.ntmps4
    go_wp2
    go_ret
    exact ⟨rfl, Below.refl _ _⟩

set_option maxRecDepth 100000 in
theorem lifted (os : Os) (started : os.Started) (H : Type) (enc : TypeId × Value → H) :
    ReturnsInHanded {} Try.checked os 4 .any (Rows.fnPartsLengthSpec.pre6 enc Try.prog Try.f4 Rows.fnPartsLengthRow.domain false) (Rows.fnPartsLengthSpec.post enc Try.prog Try.f4 false true false false) := by
  refine returnsInHanded_of_change (C := Try.checked) own started (by kernel_rfl) Try.func4
    (ChangeSpec.witness6 (enc := enc) (C := Try.checked) false ⟨#[], #[.slice none 0 0], []⟩ 8 (by kernel_rfl) (by kernel_rfl) (by kernel_rfl) (by kernel_rfl)) ?_
  intro W base args ds gs before hval0 hW hcnd _
  have hval : ∀ (j : Nat) t v, Try.f4.params[j]? = some t → args[j]? = some v → Value.okWide Try.prog W .any base t v := hval0
  have hW' := hW
  obtain ⟨p, q, hA0, hV, rfl, hfz, hnd⟩ := hW
  have hA : DataW.TrodAll enc Try.prog W 0 (fun _ => true) true Try.f4.params.toList args.toList ds p := hA0
  rw [Try.params4] at hA hval
  obtain ⟨v0, vs0, d0, ds0, p0, q0, hargs, rfl, rfl, h0, r0⟩ := trodAll_cons hA
  obtain ⟨rfl, rfl, rfl⟩ := trodAll_nil r0
  obtain rfl : args = #[v0] := by cases args; simp_all
  obtain ⟨rfl, rfl⟩ := trodVars_none hV
  obtain ⟨a0, len0, cap0, rfl⟩ := okWide_slice Try.underlying22 (hval 0 22 v0 rfl rfl)
  have k0 := h0
  have lt0 : ∀ x ∈ p0, x.block < W.heap.size := by obtain ⟨m, hm⟩ := k0; exact DataW.trod_lt m _ _ _ hm
  obtain ⟨z0, hv0, hm0⟩ := open_byteS h0 rfl
  clear hA0 hval0
  refine (walk _ z0 W hv0 hm0).mono fun e W' ⟨he, bel⟩ => ?_
  subst he
  exact ⟨_, rfl, _, _, _, [], _, [], hW', trodAll_mk1 (shut_bool Try.underlying4 _), (trodAll_cons_mk (Below.trod laidOut (by kernel_rfl) (of_decide_eq_true (by kernel_rfl)) k0 bel lt0) trodAll_mk0), rfl, bel.frame _, fun h => by cases h⟩

theorem over : Rows.fnPartsLengthRow.holds Try.pinned (OpenSpec.ofChange Rows.fnPartsLengthSpec) :=
  OpenClaim.holds_of_wide 4 Try.f4 rfl rfl rfl rfl rfl rfl rfl ⟨rfl, rfl, rfl, rfl, rfl⟩ rfl rfl rfl rfl rfl (by kernel_rfl) Try.func4 (by kernel_rfl)
    (of_decide_eq_true (by kernel_rfl)) (by unfold Func.isWrapper; first | (rw [if_pos (by decide +kernel)]; kernel_rfl) | (rw [if_neg (by decide +kernel)]; exact ⟨rfl, rfl⟩))
    (fun os started H enc _ => lifted os started H enc)

theorem proved : Rows.FnPartsLengthSaid := over
#print axioms proved
end Go.Proofs.Ythdkjjfnockldaa.lawFnPartsLength
