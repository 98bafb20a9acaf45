/- The law FnTeamsBusy holds at every input. No condition. -/
import Derived.Test.YtmcapcclnkicbabVM
import Derived.Test.YtmcapcclnkicbabDX
import Derived.Test.YtmcapcclnkicbabDQ
import Derived.Deep.RegionHeld3
namespace Go.Proofs.Ytmcapcclnkicbab.lawFnTeamsBusy
open Go.ChangeShapes Go.WideShapes Go.ChangeAt Go.RowKit
set_option linter.unusedVariables false

theorem validU_take {l : List Rn} (h : validU l = true) {k : Nat} (hk : k ≤ l.length) : validU (l.take k) = true := by
  obtain ⟨h1, h2⟩ := validU_iff.1 h
  refine validU_iff.2 ⟨by simp; omega, fun i hi => ?_⟩
  simp only [List.length_take] at hi
  have h3 := (okU_iff _ _).1 (h2 i (by omega))
  exact (okU_iff _ _).2 ⟨by rw [Rn.getD_take l (by omega)]; exact h3.1, by rw [Rn.getD_take l (by omega), lastU_take (by omega)]; exact h3.2⟩
theorem getD_dropU (l : List Rn) (k i : Nat) : (l.drop k).getD i rn0 = l.getD (k + i) rn0 := by
  simp [List.getD]
theorem validU_drop {l : List Rn} (h : validU l = true) {k : Nat} (hk : k ≤ l.length) : validU (l.drop k) = true := by
  obtain ⟨h1, h2⟩ := validU_iff.1 h
  refine validU_iff.2 ⟨by simp; omega, fun i hi => ?_⟩
  simp only [List.length_drop] at hi
  have h3 := (okU_iff _ _).1 (h2 (k + i) (by omega))
  have h4 := (fitsU_iff _).1 h3.1
  refine (okU_iff _ _).2 ⟨by rw [getD_dropU]; exact h3.1, ?_⟩
  rw [getD_dropU]
  cases i with
  | zero => exact h4.1
  | succ j =>
    show ((l.drop k).getD j rn0).a ≤ _
    rw [getD_dropU]
    exact h3.2

/-- A slice cut in two. -/
theorem cut_in {w : World} {ad : Option Addr} {cap : Nat} {xs : List Rn} (h : RnIn w (.slice ad xs.length cap) xs) {k : Nat} (hk : k ≤ xs.length) :
    RnIn w (sliced ad 0 k cap 2) (xs.take k) ∧ RnIn w (sliced ad k xs.length cap 2) (xs.drop k) := by
  obtain ⟨a, c, he, hc, ha⟩ := h
  cases he
  have hadd : ∀ (b o n : Nat), (⟨b, o, none⟩ : Addr).add n = ⟨b, o + n, none⟩ := fun b o n => by
    unfold Addr.add
    split
    · rename_i h0; rw [h0]; rfl
    · rfl
  constructor
  · refine ⟨_, cap - 0, by unfold sliced; rw [List.length_take, Nat.min_eq_left hk]; rfl, by simp; omega, fun hne => ?_⟩
    have hk0 : 0 < k := by rcases Nat.eq_zero_or_pos k with h0 | h0; · subst h0; simp at hne
                           · exact h0
    obtain ⟨b, o, rfl, hb, hr⟩ := ha (by rintro rfl; simp at hk; omega)
    refine ⟨b, o, ?_, hb, fun i hi => ?_⟩
    · split
      · rfl
      · simp [hadd]
    · simp only [List.length_take] at hi
      rw [Rn.getD_take xs (by omega)]
      exact hr i (by omega)
  · refine ⟨_, cap - k, by unfold sliced; rw [List.length_drop], by simp; omega, fun hne => ?_⟩
    have hk1 : k < xs.length := by
      refine Nat.lt_of_not_le fun h => hne ?_
      exact List.drop_eq_nil_of_le h
    obtain ⟨b, o, rfl, hb, hr⟩ := ha (by rintro rfl; simp at hk1)
    refine ⟨b, o + k * 2, ?_, hb, fun i hi => ?_⟩
    · rw [if_neg (by omega)]; simp [hadd]
    · simp only [List.length_drop] at hi
      rw [getD_dropU]
      have := hr (k + i) (by omega)
      rw [show o + k * 2 + i * 2 = o + (k + i) * 2 by omega]
      exact this

theorem busyV_split {l : List Rn} {rest t : Int} {k : Nat} (hk : k ≤ l.length) (hz : okR l rest = true) (ht : isT t = true) : busyV (l.take k) rest t + busyV (l.drop k) rest t = busyV l rest t := by
  obtain ⟨h1, h2⟩ := okR_iff.1 hz
  unfold busyV
  rw [if_pos ⟨okR_iff.2 ⟨validU_take h1 hk, h2⟩, ht⟩, if_pos ⟨okR_iff.2 ⟨validU_drop h1 hk, h2⟩, ht⟩, if_pos ⟨hz, ht⟩, ← busy_split l rest t k]
  omega

def Bel (X w : World) : Prop := Below X.heap.size X w

set_option maxRecDepth 100000 in
set_option maxHeartbeats 2000000 in
theorem walk (v : Value) (l : List Int) (v' : Value) (l' : List Int) (w : World) (hv : BytesIn w v l) (hm : l.length ≤ maxLen) (hv' : BytesIn w v' l') (hm' : l'.length ≤ maxLen) :
    Calls Try.prog 4 #[v, v'] w fun e w' => e = .returned (.bool true) ∧ Below w.heap.size w w' := by
  have Hv := Lib.hid hv
  obtain ⟨av, cv, rfl, hcv, _, _⟩ := hv
  obtain ⟨av', cv', rfl, hcv', _, _⟩ := hv'
  clear hcv hcv'
  by_cases hl : l.length ≤ 1048576
  · have hl' : ¬ (1048576 : Int) < (l.length : Int) := by omega
    by_cases hk : l'.length ≤ 1048576
    · have hk' : ¬ (1048576 : Int) < (l'.length : Int) := by omega
      go_enter Try.func4, Try.ntmps4
      go_wp2_with fail
      refine (drawBusy_any _ l _ Hv.out hl).mono ?_; rintro e w1 ⟨ad, cap, xs, rest, t, rfl, hcap, h8, ht0, ht1, hown, hblk, hb1⟩
      have Hx1 := Lib.hid (hown.ins hcap)
      have HB1 := Lib.hid hb1
      have hx : xs.length ≤ 1048576 := by omega
      clear hown hblk hb1
      by_cases hok : okR xs rest = true ∧ isT t = true
      · have hb0 : busyV xs rest t = (busyU xs rest t : Nat) := if_pos hok
        have hb3' := busy_le_least hok.1 t
        have Hsum := Lib.hid (fun k (hk : k ≤ xs.length) => busyV_split hk hok.1 hok.2)
        have hbl : busyU xs rest t ≤ xs.length := busyU_le _ _ _
        rw [← hb0] at hb3'
        have Hb2 := Lib.hid (fun w' (h : RnIn w' (.slice ad xs.length cap) xs) => teamsBusy2_any _ xs rest t w' h hx)
        have Hb1 := Lib.hid (fun w' (h : RnIn w' (.slice ad xs.length cap) xs) => teamsBusy1_any _ xs rest t w' h hx)
        have Hl2 := Lib.hid (fun w' (h : RnIn w' (.slice ad xs.length cap) xs) => least2_any _ xs rest w' h hx)
        obtain ⟨r, e1, hr0, hr1⟩ : ∃ r : Int, (l'.length : Int) % ((xs.length : Int) + 1) = r ∧ 0 ≤ r ∧ r ≤ (xs.length : Int) := by
          have h0 := Int.emod_nonneg (l'.length : Int) (show (xs.length : Int) + 1 ≠ 0 by omega)
          have h1 := Int.emod_lt_of_pos (l'.length : Int) (show 0 < (xs.length : Int) + 1 by omega)
          exact ⟨_, rfl, h0, by omega⟩
        obtain ⟨k, rfl⟩ : ∃ k : Nat, r = (k : Int) := ⟨r.toNat, by omega⟩
        have hkx : k ≤ xs.length := by omega
        have hkc : (k : Int) ≤ (cap : Int) := by omega
        have hsum := Hsum.out k hkx
        have Hva := Lib.hid (fun w' (h : RnIn w' (.slice ad xs.length cap) xs) => teamsBusy2_any _ (xs.take k) rest t w' (cut_in h hkx).1 (by simp; omega))
        have Hvb := Lib.hid (fun w' (h : RnIn w' (.slice ad xs.length cap) xs) => teamsBusy2_any _ (xs.drop k) rest t w' (cut_in h hkx).2 (by simp; omega))
        have hsa : ∀ wx, (Instr.slice 23 (.slice ad xs.length cap) none (some (.int .i64 (k : Int))) none).run Try.prog wx = .ok (sliced ad 0 k cap 2) wx := fun wx => by
          rw [run_slice_h wx 23 ad xs.length cap rfl .i64 (k : Int) (by omega) (by omega)]; rfl
        have hsb : ∀ wx, (Instr.slice 23 (.slice ad xs.length cap) (some (.int .i64 (k : Int))) none none).run Try.prog wx = .ok (sliced ad k xs.length cap 2) wx := fun wx => by
          rw [run_slice_l wx 23 ad xs.length cap rfl .i64 (k : Int) (by omega) (by omega)]; rfl
        generalize sliced ad 0 k cap 2 = va at *
        generalize sliced ad k xs.length cap 2 = vb at *
        generalize busyV (xs.take k) rest t = ba at *
        generalize busyV (xs.drop k) rest t = bb at *
        generalize leastV xs rest = m at *
        clear hok
        have hb1 : 0 ≤ busyV xs rest t := by omega
        have hb9 : busyV xs rest t ≤ 8 := by omega
        generalize busyV xs rest t = bv at *
        clear hb0 hbl
        have hq : (bv != bv) = false := by simp
        have hnn : ¬ bv < 0 := by omega
        go_wp2_with fail
        refine (Hb2.out _ Hx1.out).mono ?_; rintro e w2 ⟨rfl, hb2⟩
        have Hx2 := Lib.hid (Hx1.out.below hb2)
        have HB2 := Lib.hid (HB1.out.trans (hb2.mono HB1.out.size))
        clear hb2
        go_wp2_with fail
        refine (Hb1.out _ Hx2.out).gives.mono ?_; rintro e w3 ⟨rfl, hb3⟩
        have Hx3 := Lib.hid (Hx2.out.below hb3)
        have HB3 := Lib.hid (HB2.out.trans (hb3.mono HB2.out.size))
        clear hb3
        have hle : decide (bv ≤ m) = true := by simpa using hb3'
        have hwr : IntKind.i64.wrap (ba + bb) = bv := by rw [hsum]; exact IntWalk.i64_in _ (by omega)
        have hqq : (bv == bv) = true := by simp
        have hk0 : (0 : Int) ≤ (k : Int) := by omega
        have hkn : (k : Int) ≤ (xs.length : Int) := by omega
        have HL := Lib.hid (show ∀ w', Bel w3 w' → Calls Try.prog 8 #[.slice ad xs.length cap, .int .i64 rest] w' (fun e w'' => e = .returned (.int .i64 m) ∧ Bel w3 w'') from fun w' h => (Hl2.out w' (Hx3.out.below h)).mono fun e w'' ⟨he, hb⟩ => ⟨he, Below.trans h (hb.mono (Below.size h))⟩)
        have HA := Lib.hid (show ∀ w', Bel w3 w' → Calls Try.prog 10 #[va, .int .i64 rest, .int .i64 t] w' (fun e w'' => e = .returned (.int .i64 ba) ∧ Bel w3 w'') from fun w' h => (Hva.out w' (Hx3.out.below h)).mono fun e w'' ⟨he, hb⟩ => ⟨he, Below.trans h (hb.mono (Below.size h))⟩)
        have HC := Lib.hid (show ∀ w', Bel w3 w' → Calls Try.prog 10 #[vb, .int .i64 rest, .int .i64 t] w' (fun e w'' => e = .returned (.int .i64 bb) ∧ Bel w3 w'') from fun w' h => (Hvb.out w' (Hx3.out.below h)).mono fun e w'' ⟨he, hb⟩ => ⟨he, Below.trans h (hb.mono (Below.size h))⟩)
        have hd0 : Bel w3 w3.drew := (Below.refl _ _).drew
        clear hsum Hsum hb3'
        go_wp2
        go_region_held3 (fun w' => Bel w3 w') (first | assumption | (go_keep; done))
          (first | (go_at_call 8; refine (HL.out _ (by assumption)).mono ?_; rintro e w4 ⟨rfl, hs4⟩) | (go_at_call 10; with_reducible refine (HA.out _ (by assumption)).mono ?_; rintro e w5 ⟨rfl, hs5⟩) | (go_at_call 10; with_reducible refine (HC.out _ (by assumption)).mono ?_; rintro e w6 ⟨rfl, hs6⟩))
        all_goals
          go_wp2
          go_ret
          exact ⟨ret_bool (by first | rfl | (simp; done)), HB3.out.trans (Below.mono (show Bel w3 _ by assumption) HB3.out.size)⟩
      · have He := Lib.hid (show busyV xs rest t = -1 from if_neg hok); clear hok
        go_wp2_with fail
        refine (teamsBusy2_any _ xs rest t _ Hx1.out hx).mono ?_; rintro e w2 ⟨rfl, hb2⟩
        have Hx2 := Lib.hid (Hx1.out.below hb2)
        have HB2 := Lib.hid (HB1.out.trans (hb2.mono HB1.out.size))
        clear hb2
        rw [He.out]
        go_wp2_with fail
        refine (teamsBusy1_any _ xs rest t _ Hx2.out hx).gives.mono ?_; rintro e w3 ⟨rfl, hb3⟩
        have HB3 := Lib.hid (HB2.out.trans (hb3.mono HB2.out.size))
        clear hb3
        rw [He.out]
        go_wp2
        go_ret
        exact ⟨rfl, HB3.out⟩
    · have hk' : (1048576 : Int) < (l'.length : Int) := by omega
      go_enter Try.func4, Try.ntmps4
      go_wp2
      go_ret
      exact ⟨rfl, Below.refl _ _⟩
  · have hl' : (1048576 : Int) < (l.length : Int) := by omega
    go_enter Try.func4, Try.ntmps4
    go_wp2
    go_ret
    exact ⟨rfl, Below.refl _ _⟩

set_option maxRecDepth 100000 in
theorem lifted (os : Os) (started : os.Started) (H : Type) (enc : TypeId × Value → H) :
    ReturnsInHanded {} Try.checked os 4 .any (Rows.fnTeamsBusySpec.pre6 enc Try.prog Try.f4 Rows.fnTeamsBusyRow.domain false) (Rows.fnTeamsBusySpec.post enc Try.prog Try.f4 false true false false) := by
  refine returnsInHanded_of_change (C := Try.checked) own started (by kernel_rfl) Try.func4
    (ChangeSpec.witness6 (enc := enc) (C := Try.checked) false ⟨#[], #[.slice none 0 0, .slice none 0 0], []⟩ 8 (by kernel_rfl) (by kernel_rfl) (by kernel_rfl) (by kernel_rfl)) ?_
  intro W base args ds gs before hval0 hW hcnd _
  have hval : ∀ (j : Nat) t v, Try.f4.params[j]? = some t → args[j]? = some v → Value.okWide Try.prog W .any base t v := hval0
  have hW' := hW
  obtain ⟨p, q, hA0, hV, rfl, hfz, hnd⟩ := hW
  have hA : DataW.TrodAll enc Try.prog W 0 (fun _ => true) true Try.f4.params.toList args.toList ds p := hA0
  rw [Try.params4] at hA hval
  obtain ⟨v0, vs0, d0, ds0, p0, q0, hargs, rfl, rfl, h0, r0⟩ := trodAll_cons hA
  obtain ⟨v1, vs1, d1, ds1, p1, q1, rfl, rfl, rfl, h1, r1⟩ := trodAll_cons r0
  obtain ⟨rfl, rfl, rfl⟩ := trodAll_nil r1
  obtain rfl : args = #[v0, v1] := by cases args; simp_all
  obtain ⟨rfl, rfl⟩ := trodVars_none hV
  obtain ⟨a0, len0, cap0, rfl⟩ := okWide_slice Try.underlying22 (hval 0 22 v0 rfl rfl)
  have k0 := h0
  have lt0 : ∀ x ∈ p0, x.block < W.heap.size := by obtain ⟨m, hm⟩ := k0; exact DataW.trod_lt m _ _ _ hm
  obtain ⟨z0, hv0, hm0⟩ := open_byteS h0 rfl
  obtain ⟨a1, len1, cap1, rfl⟩ := okWide_slice Try.underlying22 (hval 1 22 v1 rfl rfl)
  have k1 := h1
  have lt1 : ∀ x ∈ p1, x.block < W.heap.size := by obtain ⟨m, hm⟩ := k1; exact DataW.trod_lt m _ _ _ hm
  obtain ⟨z1, hv1, hm1⟩ := open_byteS h1 rfl
  clear hA0 hval0
  refine (walk _ z0 _ z1 W hv0 hm0 hv1 hm1).mono fun e W' ⟨he, bel⟩ => ?_
  subst he
  exact ⟨_, rfl, _, _, _, [], _, [], hW', trodAll_mk1 (shut_bool Try.underlying4 _), (trodAll_cons_mk (Below.trod laidOut (by kernel_rfl) (of_decide_eq_true (by kernel_rfl)) k0 bel lt0) (trodAll_cons_mk (Below.trod laidOut (by kernel_rfl) (of_decide_eq_true (by kernel_rfl)) k1 bel lt1) trodAll_mk0)), rfl, bel.frame _, fun h => by cases h⟩

theorem over : Rows.fnTeamsBusyRow.holds Try.pinned (OpenSpec.ofChange Rows.fnTeamsBusySpec) :=
  OpenClaim.holds_of_wide 4 Try.f4 rfl rfl rfl rfl rfl rfl rfl ⟨rfl, rfl, rfl, rfl, rfl⟩ rfl rfl rfl rfl rfl (by kernel_rfl) Try.func4 (by kernel_rfl)
    (of_decide_eq_true (by kernel_rfl)) (by unfold Func.isWrapper; first | (rw [if_pos (by decide +kernel)]; kernel_rfl) | (rw [if_neg (by decide +kernel)]; exact ⟨rfl, rfl⟩))
    (fun os started H enc _ => lifted os started H enc)

theorem proved : Rows.FnTeamsBusySaid := over
#print axioms proved
end Go.Proofs.Ytmcapcclnkicbab.lawFnTeamsBusy
