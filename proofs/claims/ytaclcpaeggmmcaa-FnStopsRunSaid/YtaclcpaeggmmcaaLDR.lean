/- The law FnStopsRun holds at every input. No condition. -/
import Derived.Test.YtaclcpaeggmmcaaDC
import Derived.Test.YtaclcpaeggmmcaaSE
import Derived.Test.YtaclcpaeggmmcaaSG
import Derived.Test.YtaclcpaeggmmcaaDO
namespace Go.Proofs.Ytaclcpaeggmmcaa.lawFnStopsRun
open Go.ChangeShapes Go.WideShapes Go.ChangeAt Go.RowKit
set_option linter.unusedVariables false

def gapTo (l : List Rd) : Nat → Int
  | 0 => 0
  | k + 1 => gapTo l k + ((l.getD (k + 1) rd0).b - (l.getD k rd0).m)

theorem gap_bd {n : Int} {l : List Rd} (h : validS n l = true) : ∀ k, k < l.length → (k : Int) ≤ gapTo l k ∧ gapTo l k ≤ 10000 * k
  | 0, _ => ⟨Int.le_refl _, by show (0 : Int) ≤ _; omega⟩
  | k + 1, hk => by
    have h1 := gap_bd h k (by omega)
    have h2 := validS_next h hk
    have h3 := validS_at h hk
    have h4 := validS_at h (show k < l.length by omega)
    show _ ≤ gapTo l k + _ ∧ gapTo l k + _ ≤ _
    omega

theorem wait_gap (l : List Rd) : ∀ k, waitTo l k + gapTo l (k + 1) = (l.getD (k + 1) rd0).b - (l.getD 0 rd0).m
  | 0 => by
    show (0 : Int) + (0 + ((l.getD 1 rd0).b - (l.getD 0 rd0).m)) = (l.getD 1 rd0).b - (l.getD 0 rd0).m
    omega
  | k + 1 => by
    have h := wait_gap l k
    show waitTo l k + _ + (gapTo l (k + 1) + _) = _
    omega

def GRel (l : List Rd) (wv : Int) (w : World) (sv iv : Value) (wr : World) : Prop :=
  ∃ j k : Nat, k = j + 1 ∧ k ≤ l.length ∧ iv = .int .i64 k ∧ sv = .int .i64 (wv + gapTo l j) ∧ Below w.heap.size w wr

set_option maxRecDepth 100000 in
set_option maxHeartbeats 800000 in
theorem walk (v : Value) (c : List Int) (w : World) (hv : BytesIn w v c) (hm : c.length ≤ maxLen) :
    Calls Try.prog 4 #[v] w fun e w' => e = .returned (.bool true) ∧ Below w.heap.size w w' := by
  have Hv := Lib.hid hv
  obtain ⟨a, cap, rfl, _, _, ha⟩ := hv
  have Ha := Lib.hid ha; clear ha
  unfold maxLen at hm
  by_cases hl : c.length ≤ 1048576
  · go_enter Try.func4, Try.ntmps4
    go_wp2_with fail
    refine (drawRun_any _ c _ Hv.out hl).mono ?_; rintro e w1 ⟨n, ad, cp, xs, rfl, n2, n6, hcp, h8, hown, b1⟩
    have Hin := Lib.hid (hown.ins (cap := cp))
    clear hown
    go_wp2_with fail
    refine (run2_any n _ xs _ Hin.out (by omega)).mono ?_; rintro e w2 ⟨rfl, b2⟩
    have B2 := b1.trans (b2.mono b1.size)
    have Hin2 := Lib.hid (Hin.out.below b2)
    clear b1 b2
    go_wp2_with fail
    refine (run1_any n _ xs _ Hin2.out (by omega)).mono ?_; rintro e w3 ⟨rfl, b3⟩
    have B3 := B2.trans (b3.mono B2.size)
    have Hin3 := Lib.hid (Hin2.out.below b3)
    clear b3 B2
    cases hz : validS n xs with
    | false =>
      have hr : runV n xs = -1 := by unfold runV; rw [hz]; rfl
      rw [hr]
      clear hr hz
      go_wp2
      go_ret
      exact ⟨rfl, B3⟩
    | true =>
      obtain ⟨_, _, l2, l8⟩ := (validS_iff.1 hz).1
      obtain ⟨k, hk⟩ : ∃ k, xs.length = k + 2 := ⟨xs.length - 2, by omega⟩
      have hrv : runV n xs = waitTo xs k + gapTo xs (k + 1) := by
        unfold runV; rw [if_pos hz]; unfold runS; rw [hk, wait_gap]; rfl
      have hwv : waitV n xs = waitTo xs k := by unfold waitV; rw [if_pos hz, hk]; rfl
      have hwb := waitTo_bd hz k (by omega)
      have hgb := gap_bd hz (k + 1) (by omega)
      have hr0 : 0 ≤ runV n xs := by rw [hrv]; omega
      have hr1 : (xs.length : Int) - 1 ≤ runV n xs := by rw [hrv]; omega
      have Hz := Lib.hid hz
      have Hk := Lib.hid hk
      have Hrv := Lib.hid hrv
      have Hwv := Lib.hid hwv
      have hw0 : 0 ≤ waitV n xs ∧ waitV n xs ≤ 80000 := by rw [hwv]; omega
      obtain ⟨hw0, hw8⟩ := hw0
      clear hz hk hrv hwv hwb hgb
      generalize runV n xs = rv at *
      generalize hwv2 : waitV n xs = wv at *
      have Hwv2 := Lib.hid hwv2; clear hwv2
      go_wp2_with fail
      refine (wait2_any n _ xs _ Hin3.out (by omega)).mono ?_; rintro e w4 ⟨rfl, b4⟩
      rw [Hwv2.out]
      have B4 := B3.trans (b4.mono B3.size)
      have Hin4 := Lib.hid (Hin3.out.below b4)
      clear b4 B3
      have HB4 := Lib.hid B4
      obtain ⟨b0, o0, rfl, hlt0, hrow⟩ : ∃ b' o', ad = some ⟨b', o', none⟩ ∧ b' < w4.heap.size ∧ RowAt w4 b' o' xs := by
        obtain ⟨a', cap', he, h⟩ := Hin4.out
        obtain ⟨b', o', h1, h2, h3⟩ := h (by rintro rfl; simp at l2)
        injection he with he
        exact ⟨b', o', he.trans h1, h2, h3⟩
      have Hrow := Lib.hid hrow
      clear B4 hrow
      go_wp2
      go_loopw [7, 8] (fun sv iv wr => GRel xs wv w4 sv iv wr) (fun _ i _ => xs.length - (intOf i).toNat)
      case atStart => exact ⟨0, 1, rfl, by omega, rfl, by show Value.int .i64 wv = .int .i64 (wv + 0); rw [Int.add_zero], Below.refl _ _⟩
      case round =>
        obtain ⟨j, i, hij, hi, rfl, rfl, hbel⟩ := hrel
        have hg := gap_bd Hz.out j (by omega)
        obtain ⟨g0, g1⟩ := hg
        by_cases hlt : i < xs.length
        · obtain ⟨_, c1, _⟩ := (Hrow.out.below hbel hlt0) i hlt
          obtain ⟨_, _, c2⟩ := (Hrow.out.below hbel hlt0) j (by omega)
          obtain ⟨_, _, y0, y1, y2, _⟩ := validS_at Hz.out hlt
          obtain ⟨_, _, z0, z1, z2, _⟩ := validS_at Hz.out (show j < xs.length by omega)
          have hs : gapTo xs i = gapTo xs j + ((xs.getD i rd0).b - (xs.getD j rd0).m) := by rw [hij]; rfl
          have Hs := Lib.hid hs; clear hs
          have hlti : (i : Int) < (xs.length : Int) := by omega
          have hltj : (j : Int) < (xs.length : Int) := by omega
          have hji : (i : Int) - 1 = (j : Int) := by omega
          have hj0 : (0 : Int) ≤ (j : Int) := Int.natCast_nonneg _
          have hi0 : (0 : Int) ≤ (i : Int) := Int.natCast_nonneg _
          have hjw : IntKind.i64.wrap ((i : Int) - 1) = (j : Int) := by rw [IntWalk.i64_in _ (by omega)]; omega
          have hjw2 : IntKind.i64.wrap (j : Int) = (j : Int) := IntWalk.i64_in _ (by omega)
          have Hij := Lib.hid hij
          clear hij
          generalize (xs.getD i rd0).b = yb at *
          generalize (xs.getD j rd0).m = zm at *
          generalize gapTo xs j = gj at *
          go_wp2
          go_quiet (fail)
          go_wp2
          exact ⟨⟨i, i + 1, rfl, hlt, by go_num, by rw [Hs.out]; congr 1; omega, hbel.drewN _⟩, by simp [intOf]; omega⟩
        · have hge : ¬ (i : Int) < (xs.length : Int) := by omega
          have hjk : j = k + 1 := by have := Hk.out; omega
          have hfin : wv + gapTo xs j = rv := by rw [hjk, Hrv.out, Hwv.out]
          rw [hfin]
          have hq : (rv == rv) = true := by simp
          clear hfin hjk hij g0 g1
          go_wp2
          go_ret
          exact ⟨ret_bool (by first | (simp; done) | (simp; omega)), HB4.out.trans (hbel.mono HB4.out.size)⟩
  · go_enter Try.func4, Try.ntmps4
    go_wp2
    go_ret
    exact ⟨rfl, Below.refl _ _⟩

set_option maxRecDepth 100000 in
theorem lifted (os : Os) (started : os.Started) (H : Type) (enc : TypeId × Value → H) :
    ReturnsInHanded {} Try.checked os 4 .any (Rows.fnStopsRunSpec.pre6 enc Try.prog Try.f4 Rows.fnStopsRunRow.domain false) (Rows.fnStopsRunSpec.post enc Try.prog Try.f4 false true false false) := by
  refine returnsInHanded_of_change (C := Try.checked) own started (by kernel_rfl) Try.func4
    (ChangeSpec.witness6 (enc := enc) (C := Try.checked) false ⟨#[], #[.slice none 0 0], []⟩ 8 (by kernel_rfl) (by kernel_rfl) (by kernel_rfl) (by kernel_rfl)) ?_
  intro W base args ds gs before hval0 hW hcnd _
  have hval : ∀ (j : Nat) t v, Try.f4.params[j]? = some t → args[j]? = some v → Value.okWide Try.prog W .any base t v := hval0
  have hW' := hW
  obtain ⟨p, q, hA0, hV, rfl, hfz, hnd⟩ := hW
  have hA : DataW.TrodAll enc Try.prog W 0 (fun _ => true) true Try.f4.params.toList args.toList ds p := hA0
  rw [Try.params4] at hA hval
  obtain ⟨v0, vs0, d0, ds0, p0, q0, hargs, rfl, rfl, h0, r0⟩ := trodAll_cons hA
  obtain ⟨rfl, rfl, rfl⟩ := trodAll_nil r0
  obtain rfl : args = #[v0] := by cases args; simp_all
  obtain ⟨rfl, rfl⟩ := trodVars_none hV
  obtain ⟨a0, len0, cap0, rfl⟩ := okWide_slice Try.underlying22 (hval 0 22 v0 rfl rfl)
  have k0 := h0
  have lt0 : ∀ x ∈ p0, x.block < W.heap.size := by obtain ⟨m, hm⟩ := k0; exact DataW.trod_lt m _ _ _ hm
  obtain ⟨z0, hv0, hm0⟩ := open_byteS h0 rfl
  clear hA0 hval0
  refine (walk _ z0 W hv0 hm0).mono fun e W' ⟨he, bel⟩ => ?_
  subst he
  exact ⟨_, rfl, _, _, _, [], _, [], hW', trodAll_mk1 (shut_bool Try.underlying4 _), (trodAll_cons_mk (Below.trod laidOut (by kernel_rfl) (of_decide_eq_true (by kernel_rfl)) k0 bel lt0) trodAll_mk0), rfl, bel.frame _, fun h => by cases h⟩

theorem over : Rows.fnStopsRunRow.holds Try.pinned (OpenSpec.ofChange Rows.fnStopsRunSpec) :=
  OpenClaim.holds_of_wide 4 Try.f4 rfl rfl rfl rfl rfl rfl rfl ⟨rfl, rfl, rfl, rfl, rfl⟩ rfl rfl rfl rfl rfl (by kernel_rfl) Try.func4 (by kernel_rfl)
    (of_decide_eq_true (by kernel_rfl)) (by unfold Func.isWrapper; first | (rw [if_pos (by decide +kernel)]; kernel_rfl) | (rw [if_neg (by decide +kernel)]; exact ⟨rfl, rfl⟩))
    (fun os started H enc _ => lifted os started H enc)

theorem proved : Rows.FnStopsRunSaid := over
#print axioms proved
end Go.Proofs.Ytaclcpaeggmmcaa.lawFnStopsRun
