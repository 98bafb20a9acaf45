/- The law FnRoadsMany holds at every input. No condition. -/
import Derived.Test.YtlkhgnglblgldaaMB
import Derived.Test.YtlkhgnglblgldaaDS
import Derived.Test.YtlkhgnglblgldaaY
import Derived.Test.YtlkhgnglblgldaaV
import Derived.Test.YtlkhgnglblgldaaW5
import Derived.Test.YtlkhgnglblgldaaWF
namespace Go.Proofs.Ytlkhgnglblgldaa.lawFnRoadsMany
open Go.ChangeShapes Go.WideShapes Go.ChangeAt Go.RowKit
set_option linter.unusedVariables false

def MrRel (h : Nat → Int) (N : Nat) (w : World) (sv cv : Value) (wr : World) : Prop :=
  ∃ c : Nat, c ≤ N ∧ cv = .int .i64 c ∧ sv = .int .i64 (sumR h c) ∧ Below w.heap.size w wr

set_option maxRecDepth 100000 in
set_option maxHeartbeats 2000000 in
theorem walk (v : Value) (l : List Int) (w : World) (hv : BytesIn w v l) (hm : l.length ≤ maxLen) :
    Calls Try.prog 6 #[v] w fun e w' => e = .returned (.bool true) ∧ Below w.heap.size w w' := by
  have Hv := Lib.hid hv
  obtain ⟨av, cv, rfl, hcv, _, _⟩ := hv
  clear hcv
  by_cases hl : l.length ≤ 1048576
  · have hl' : ¬ (1048576 : Int) < (l.length : Int) := by omega
    go_enter Try.func6, Try.ntmps6
    go_wp2_with fail
    refine (drawMany_any _ l _ Hv.out hl).mono ?_; rintro e w1 ⟨n, ad, cap, xs, a, b, rfl, hn2, hn6, hcap, h11, hbd, ha0, ha1, hb0, hb1, hown, hblk, hb⟩
    have Hx1 := Lib.hid (hown.ins hcap).roads
    have HB1 := Lib.hid hb
    have hx : xs.length ≤ 1048576 := by omega
    have Hwf := Lib.hid hbd.wf
    clear hown hblk hb hbd hcap
    have HM2 := Lib.hid (fun (x y : Int) (hxy : (-1000 ≤ x ∧ x ≤ 1000) ∧ (-1000 ≤ y ∧ y ≤ 1000)) w' (h : RoadsIn w' (.slice ad xs.length cap) xs) => many2_any n _ xs x y w' h hx Hwf.out (by unfold W64; omega) (by unfold W64; omega))
    have HM1 := Lib.hid (fun w' (h : RoadsIn w' (.slice ad xs.length cap) xs) => specMany_any n _ xs a b w' h hx)
    have HF := Lib.hid (fun (x y : Int) (hxy : (-1000 ≤ x ∧ x ≤ 1000) ∧ (-1000 ≤ y ∧ y ≤ 1000)) w' (h : RoadsIn w' (.slice ad xs.length cap) xs) => far2_any n _ xs x y w' h hx Hwf.out (by unfold W64; omega) (by unfold W64; omega))
    have HD := Lib.hid (fun (x y : Int) (hxy : (-1000 ≤ x ∧ x ≤ 1000) ∧ (-1000 ≤ y ∧ y ≤ 1000)) w' (h : RoadsIn w' (.slice ad xs.length cap) xs) => direct2_any n _ xs x y w' h hx Hwf.out (by unfold W64; omega) (by unfold W64; omega))
    have HMa := Lib.hid (HM2.out a b (by omega))
    go_wp2_with fail
    refine (HMa.out _ Hx1.out).mono ?_; rintro e w2 ⟨rfl, hb2⟩
    have Hx2 := Lib.hid (Hx1.out.below hb2)
    have HB2 := Lib.hid (HB1.out.trans (hb2.mono HB1.out.size))
    clear hb2
    go_wp2_with fail
    refine (HM1.out _ Hx2.out).mono ?_; rintro e w3 ⟨rfl, hb3⟩
    have Hx3 := Lib.hid (Hx2.out.below hb3)
    have HB3 := Lib.hid (HB2.out.trans (hb3.mono HB2.out.size))
    clear hb3
    by_cases hneg : manyV n xs a b < 0
    · clear HM1 HMa HM2
      generalize manyV n xs a b = o at *
      have hq : (o != o) = false := by simp
      go_wp2
      go_ret
      exact ⟨ret_bool (by first | rfl | (simp; done)), HB3.out⟩
    · obtain ⟨ta, tb, n1, n8, m1, mM, msym, mself, mne⟩ := many_law (n := n) (l := xs) (a := a) (b := b) (by omega)
      obtain ⟨N, rfl⟩ : ∃ N : Nat, n = (N : Int) := ⟨n.toNat, by omega⟩
      by_cases hab : a = b
      · have ho := mself hab
        subst hab
        rw [ho]
        clear HM1 HMa HM2 ho mself mne msym m1 mM hneg
        go_wp2
        go_ret
        exact ⟨ret_bool (by first | rfl | (simp; done)), HB3.out⟩
      · have hab' : (a == b) = false := by simpa using hab
        obtain ⟨h, hsum, hstep⟩ := mne hab
        rw [Int.toNat_natCast] at hsum
        have HMb := Lib.hid (HM2.out b a (by omega))
        rw [msym] at HMb
        have HFa := Lib.hid (HF.out a b (by omega))
        have Hst := Lib.hid hstep
        have Hsum := Lib.hid hsum
        clear HM1 HMa msym mself mne hsum hstep
        have HMc := Lib.hid (fun (c : Int) (hc : 0 ≤ c ∧ c < 10) => HM2.out c b (by omega))
        have HFc := Lib.hid (fun (c : Int) (hc : 0 ≤ c ∧ c < 10) => HF.out c b (by omega))
        have HDc := Lib.hid (fun (c : Int) (hc : 0 ≤ c ∧ c < 10) => HD.out a c (by omega))
        clear HM2 HF HD
        generalize manyV N xs a b = o at *
        have Hg1 := Lib.hid (fun (c : Int) => directOf_ge (n := (N : Int)) (l := xs) (a := a) (b := c))
        have Hg2 := Lib.hid (far_ge (N : Int) xs)
        have hf9 := Hg2.out a b
        generalize farOf N xs a b = f at *
        have hq : (o != o) = false := by simp
        have hq2 : (o == o) = true := by simp
        go_wp2_with fail
        refine (HFa.out _ Hx3.out).mono ?_; rintro e w4 ⟨rfl, hb4⟩
        have Hx4 := Lib.hid (Hx3.out.below hb4)
        have HB4 := Lib.hid (HB3.out.trans (hb4.mono HB3.out.size))
        clear hb4 HFa Hx1 Hx2 Hx3
        go_wp2
        go_loopw [9, 11] (fun sv cv wr => MrRel h N w4 sv cv wr) (fun _ cv _ => N - (intOf cv).toNat)
        case atStart => exact ⟨0, Nat.zero_le _, rfl, rfl, Below.refl _ _⟩
        case round =>
          obtain ⟨c, hc, rfl, rfl, hb⟩ := hrel
          have HB := Lib.hid hb
          have Hx := Lib.hid (Hx4.out.below hb)
          clear hb
          by_cases hlt : c < N
          · have hlt' : (c : Int) < (N : Int) := by omega
            have hc0 : (0 : Int) ≤ (c : Int) := Int.natCast_nonneg _
            obtain ⟨s1, s1', s2, s3, s4⟩ := Hst.out c hlt'
            have HD1 := Lib.hid (HDc.out c (by omega))
            have HF1 := Lib.hid (HFc.out c (by omega))
            have HM1 := Lib.hid (HMc.out c (by omega))
            have g1 := Hg1.out c
            have g2 := Hg2.out c b
            have S3 := Lib.hid s3; have S4 := Lib.hid s4
            clear s3 s4
            generalize hS : sumR h (c + 1) = S' at *
            generalize sumR h c = S at *
            generalize manyV N xs c b = mc at *
            generalize directOf N xs a c = dc at *
            generalize farOf N xs c b = fc at *
            have HS := Lib.hid hS
            clear hS
            go_wp2_with fail
            refine (HD1.out _ Hx.out).mono ?_; rintro e w5 ⟨rfl, hb5⟩
            have Hx5 := Lib.hid (Hx.out.below hb5)
            have HB5 := Lib.hid (HB.out.trans (hb5.mono HB.out.size))
            clear hb5
            go_wp2_with fail
            refine (HF1.out _ Hx5.out).mono ?_; rintro e w6 ⟨rfl, hb6⟩
            have Hx6 := Lib.hid (Hx5.out.below hb6)
            have HB6 := Lib.hid (HB5.out.trans (hb6.mono HB5.out.size))
            clear hb6
            by_cases q1 : 0 ≤ dc
            · by_cases q2 : 0 ≤ fc
              · by_cases q3 : dc + fc = f
                · have q3' : (dc + fc == f) = true := by simpa using q3
                  have hs' := S3.out ⟨q1, q2, q3⟩
                  have hmc : S + mc = S' := hs'.symm
                  have hw1 : wrap64 (S + mc) = S' := by rw [hmc]; unfold wrap64; omega
                  have hw2 : wrap64 (dc + fc) = dc + fc := by unfold wrap64; omega
                  have hw3 : IntKind.i64.wrap (dc + fc) = dc + fc := IntWalk.i64_in _ (by omega)
                  have Hw1 := Lib.hid hw1
                  clear hmc hs' S3 S4
                  subst q3
                  go_wp2_with fail
                  refine (HM1.out _ Hx6.out).mono ?_; rintro e w7 ⟨rfl, hb7⟩
                  have HB7 := Lib.hid (HB6.out.trans (hb7.mono HB6.out.size))
                  clear hb7
                  go_wp2
                  exact ⟨⟨c + 1, hlt, by go_num, by rw [HS.out, Hw1.out], HB7.out⟩, by simp [intOf]; omega⟩
                · have q3' : (dc + fc == f) = false := by simpa using q3
                  have hs' := Lib.hid (S4.out (fun h => q3 h.2.2))
                  have hw2 : wrap64 (dc + fc) = dc + fc := by unfold wrap64; omega
                  clear S3 S4 q3
                  go_wp2
                  exact ⟨⟨c + 1, hlt, by go_num, by rw [HS.out, hs'.out], HB6.out⟩, by simp [intOf]; omega⟩
              · have hs' := Lib.hid (S4.out (fun h => q2 h.2.1))
                clear S3 S4
                go_wp2
                exact ⟨⟨c + 1, hlt, by go_num, by rw [HS.out, hs'.out], HB6.out⟩, by simp [intOf]; omega⟩
            · have hs' := Lib.hid (S4.out (fun h => q1 h.1))
              clear S3 S4
              go_wp2
              exact ⟨⟨c + 1, hlt, by go_num, by rw [HS.out, hs'.out], HB6.out⟩, by simp [intOf]; omega⟩
          · obtain rfl : c = N := by omega
            rw [Hsum.out]
            go_wp2_with fail
            refine (HMb.out _ Hx.out).mono ?_; rintro e w5 ⟨rfl, hb5⟩
            have HB5 := Lib.hid (HB4.out.trans ((HB.out.trans (hb5.mono HB.out.size)).mono HB4.out.size))
            clear hb5
            go_wp2
            go_ret
            exact ⟨ret_bool (by first | rfl | (simp; done) | (simp; omega)), HB5.out⟩
  · have hl' : (1048576 : Int) < (l.length : Int) := by omega
    go_enter Try.func6, Try.ntmps6
    go_wp2
    go_ret
    exact ⟨rfl, Below.refl _ _⟩

set_option maxRecDepth 100000 in
theorem lifted (os : Os) (started : os.Started) (H : Type) (enc : TypeId × Value → H) :
    ReturnsInHanded {} Try.checked os 6 .any (Rows.fnRoadsManySpec.pre6 enc Try.prog Try.f6 Rows.fnRoadsManyRow.domain false) (Rows.fnRoadsManySpec.post enc Try.prog Try.f6 false true false false) := by
  refine returnsInHanded_of_change (C := Try.checked) own started (by kernel_rfl) Try.func6
    (ChangeSpec.witness6 (enc := enc) (C := Try.checked) false ⟨#[], #[.slice none 0 0], []⟩ 8 (by kernel_rfl) (by kernel_rfl) (by kernel_rfl) (by kernel_rfl)) ?_
  intro W base args ds gs before hval0 hW hcnd _
  have hval : ∀ (j : Nat) t v, Try.f6.params[j]? = some t → args[j]? = some v → Value.okWide Try.prog W .any base t v := hval0
  have hW' := hW
  obtain ⟨p, q, hA0, hV, rfl, hfz, hnd⟩ := hW
  have hA : DataW.TrodAll enc Try.prog W 0 (fun _ => true) true Try.f6.params.toList args.toList ds p := hA0
  rw [Try.params6] at hA hval
  obtain ⟨v0, vs0, d0, ds0, p0, q0, hargs, rfl, rfl, h0, r0⟩ := trodAll_cons hA
  obtain ⟨rfl, rfl, rfl⟩ := trodAll_nil r0
  obtain rfl : args = #[v0] := by cases args; simp_all
  obtain ⟨rfl, rfl⟩ := trodVars_none hV
  obtain ⟨a0, len0, cap0, rfl⟩ := okWide_slice Try.underlying22 (hval 0 22 v0 rfl rfl)
  have k0 := h0
  have lt0 : ∀ x ∈ p0, x.block < W.heap.size := by obtain ⟨m, hm⟩ := k0; exact DataW.trod_lt m _ _ _ hm
  obtain ⟨z0, hv0, hm0⟩ := open_byteS h0 rfl
  clear hA0 hval0
  refine (walk _ z0 W hv0 hm0).mono fun e W' ⟨he, bel⟩ => ?_
  subst he
  exact ⟨_, rfl, _, _, _, [], _, [], hW', trodAll_mk1 (shut_bool Try.underlying4 _), (trodAll_cons_mk (Below.trod laidOut (by kernel_rfl) (of_decide_eq_true (by kernel_rfl)) k0 bel lt0) trodAll_mk0), rfl, bel.frame _, fun h => by cases h⟩

theorem over : Rows.fnRoadsManyRow.holds Try.pinned (OpenSpec.ofChange Rows.fnRoadsManySpec) :=
  OpenClaim.holds_of_wide 6 Try.f6 rfl rfl rfl rfl rfl rfl rfl ⟨rfl, rfl, rfl, rfl, rfl⟩ rfl rfl rfl rfl rfl (by kernel_rfl) Try.func6 (by kernel_rfl)
    (of_decide_eq_true (by kernel_rfl)) (by unfold Func.isWrapper; first | (rw [if_pos (by decide +kernel)]; kernel_rfl) | (rw [if_neg (by decide +kernel)]; exact ⟨rfl, rfl⟩))
    (fun os started H enc _ => lifted os started H enc)

theorem proved : Rows.FnRoadsManySaid := over
#print axioms proved
end Go.Proofs.Ytlkhgnglblgldaa.lawFnRoadsMany
