/- The law FnWay holds at every input. No condition. -/
import Derived.Test.YtnlhnibhgpelfaaAB
import Derived.Test.YtnlhnibhgpelfaaRY
import Derived.Test.YtnlhnibhgpelfaaBK
import Derived.Test.YtnlhnibhgpelfaaDY
import Derived.Deep.RegionHeld3
namespace Go.Proofs.Ytnlhnibhgpelfaa.lawFnWay
open Go.ChangeShapes Go.WideShapes Go.ChangeAt Go.RowKit
set_option linter.unusedVariables false

def Bel (X w : World) : Prop := Below X.heap.size X w
theorem IntsIn.drew1 {w : World} {v : Value} {l : List Int} (h : IntsIn w v l) : IntsIn w.drew v l := h.below ((Below.refl _ w).drew)
theorem wf_sub {l l' : List Int} (h : IntWf l) (hs : ∀ x ∈ l', x ∈ l) : IntWf l' := fun x hx => h x (hs x hx)

/-- A slice of numbers cut in two, the one between in both. -/
theorem cut_ints {w : World} {ad : Option Addr} {cap : Nat} {xs : List Int} (h : IntsIn w (.slice ad xs.length cap) xs) {k : Nat} (hk : k < xs.length) :
    IntsIn w (sliced ad 0 (k + 1) cap 1) (xs.take (k + 1)) ∧ IntsIn w (sliced ad k xs.length cap 1) (xs.drop k) := by
  obtain ⟨a, c, he, hc, ha⟩ := h
  cases he
  obtain ⟨b, o, rfl, hb, hr⟩ := ha (by rintro rfl; simp at hk)
  have hadd : ∀ (n : Nat), (⟨b, o, none⟩ : Addr).add n = ⟨b, o + n, none⟩ := fun n => by
    unfold Addr.add
    split
    · rename_i h0; rw [h0]; rfl
    · rfl
  constructor
  · refine ⟨_, cap - 0, by unfold sliced; rw [List.length_take, Nat.min_eq_left (by omega)]; rfl, by simp; omega, fun hne => ⟨b, o, ?_, hb, fun i hi => ?_⟩⟩
    · split
      · rfl
      · simp [hadd]
    · simp only [List.length_take] at hi
      have e : (xs.take (k + 1)).getD i 0 = xs.getD i 0 := by simp [List.getD, show i < k + 1 by omega]
      rw [e]
      exact hr i (by omega)
  · refine ⟨_, cap - k, by unfold sliced; rw [List.length_drop], by simp; omega, fun hne => ⟨b, o + k, ?_, hb, fun i hi => ?_⟩⟩
    · rw [if_neg (by omega)]; simp [hadd]
    · simp only [List.length_drop] at hi
      have e : (xs.drop k).getD i 0 = xs.getD (k + i) 0 := by simp [List.getD]
      rw [e]
      have := hr (k + i) (by omega)
      rw [show o + k + i = o + (k + i) by omega]
      exact this

set_option maxRecDepth 100000 in
set_option maxHeartbeats 2000000 in
theorem walk (v : Value) (l : List Int) (v' : Value) (l' : List Int) (w : World) (hv : BytesIn w v l) (hm : l.length ≤ maxLen) (hv' : BytesIn w v' l') (hm' : l'.length ≤ maxLen) :
    Calls Try.prog 7 #[v, v'] w fun e w' => e = .returned (.bool true) ∧ Below w.heap.size w w' := by
  have Hv := Lib.hid hv
  obtain ⟨av, cv, rfl, hcv, _, _⟩ := hv
  obtain ⟨av', cv', rfl, hcv', _, _⟩ := hv'
  clear hcv hcv'
  by_cases hl : l.length ≤ 1048576
  · have hl' : ¬ (1048576 : Int) < (l.length : Int) := by omega
    by_cases hk : l'.length ≤ 1048576
    · have hk' : ¬ (1048576 : Int) < (l'.length : Int) := by omega
      go_enter Try.func7, Try.ntmps7
      go_wp2_with fail
      refine (drawWay_any _ l _ Hv.out hl).mono ?_; rintro e w1 ⟨n, ad, cap, xs, u, way, rfl, hn2, hn6, hcap, h11, hbd, hown, hu, h10, hwf, hb1⟩
      have Hx1 := Lib.hid (hown.ins hcap).roads
      have HB1 := Lib.hid hb1
      have hx : xs.length ≤ 1048576 := by omega
      have Hwf := Lib.hid hbd.wf
      have HU1 := Lib.hid hu
      have Hiw := Lib.hid hwf
      clear hown hb1 hbd hu hwf
      have HL2 := Lib.hid (fun (u : Value) (ys : List Int) w' (h : RoadsIn w' (.slice ad xs.length cap) xs) (hu : IntsIn w' u ys) (h1 : ys.length ≤ 1048576) (h2 : IntWf ys) => wlen2_any n _ xs u ys w' h hx Hwf.out hu h1 h2)
      have HL1 := Lib.hid (fun w' (h : RoadsIn w' (.slice ad xs.length cap) xs) (hu : IntsIn w' u way) => specWlen_any n _ xs u way w' h hx hu (by omega))
      have HF := Lib.hid (fun (a b : Int) w' (h : RoadsIn w' (.slice ad xs.length cap) xs) (wa : W64 a) (wb : W64 b) => far2_any n _ xs a b w' h hx Hwf.out wa wb)
      by_cases hok : 0 ≤ wayLenOf n xs way
      · have hlaw := fun {j} (hj : j < way.length) => wlen_law hok (j := j) hj
        have hbd := wlen_bd (n := n) (l := xs) (way := way)
        obtain ⟨m, hwm⟩ : ∃ m, way.length = m + 1 := by
          obtain ⟨_, k, hk, _⟩ := of_wlen hok
          exact ⟨k, hk⟩
        obtain ⟨r, e1, hr0, hr1⟩ : ∃ r : Int, (l'.length : Int) % ((m : Int) + 1) = r ∧ 0 ≤ r ∧ r < (m : Int) + 1 := by
          have h0 := Int.emod_nonneg (l'.length : Int) (show (m : Int) + 1 ≠ 0 by omega)
          have h1 := Int.emod_lt_of_pos (l'.length : Int) (show 0 < (m : Int) + 1 by omega)
          exact ⟨_, rfl, h0, by omega⟩
        obtain ⟨j, rfl⟩ : ∃ j : Nat, r = (j : Int) := ⟨r.toNat, by omega⟩
        have hjm : j < m + 1 := by omega
        obtain ⟨k, hk2, f0, f1, hrev, hsum⟩ := hlaw (j := j) (by omega)
        obtain rfl : k = m := by omega
        have Htk := Lib.hid (show (way.take (j + 1)).length ≤ 1048576 ∧ IntWf (way.take (j + 1)) from ⟨by simp; omega, wf_sub Hiw.out fun x hx => List.mem_of_mem_take hx⟩)
        have Hdr := Lib.hid (show (way.drop j).length ≤ 1048576 ∧ IntWf (way.drop j) from ⟨by simp; omega, wf_sub Hiw.out fun x hx => List.mem_of_mem_drop hx⟩)
        have Hrv := Lib.hid (show way.reverse.length ≤ 1048576 ∧ IntWf way.reverse from ⟨by simp; omega, wf_sub Hiw.out fun x hx => by simpa using hx⟩)
        have Hg0 := Lib.hid (show W64 (way.getD 0 0) from by rw [getI way (show 0 < way.length by omega)]; exact Hiw.out _ (List.getElem_mem _))
        have Hgk := Lib.hid (show W64 (way.getD k 0) from by rw [getI way (show k < way.length by omega)]; exact Hiw.out _ (List.getElem_mem _))
        have HF1 := Lib.hid (fun w' h => HF.out (way.getD 0 0) (way.getD k 0) w' h Hg0.out Hgk.out)
        have hm9 : k ≤ 9 := by omega
        have hs9 : wayLenOf n xs way ≤ 990 := by rw [hwm] at hbd; omega
        clear hlaw hbd hk2 HF
        obtain ⟨ua, uc, eu, huc, hua⟩ := HU1.out
        subst eu
        obtain ⟨b, o, eb, hbt, hat⟩ := hua (by rintro rfl; simp at hwm)
        subst eb
        have Hat := Lib.hid hat
        clear hua hat
        have Hcut := Lib.hid (fun w' (h : IntsIn w' (.slice (some ⟨b, o, none⟩) way.length uc) way) => cut_ints h (k := j) (by omega))
        have Hlen := Lib.hid hwm
        have HU0 := HU1
        rw [hwm] at HU1 huc
        have hju : ((j : Int) + 1) ≤ (uc : Int) := by omega
        have hsa : ∀ wx, (Instr.slice 37 (.slice (some ⟨b, o, none⟩) (k + 1) uc) none (some (.int .i64 ((j : Int) + 1))) none).run Try.prog wx = .ok (sliced (some ⟨b, o, none⟩) 0 (j + 1) uc 1) wx := fun wx => by
          rw [run_slice_h wx 37 (some ⟨b, o, none⟩) (k + 1) uc rfl .i64 ((j : Int) + 1) (by omega) (by omega)]; rfl
        have hsb : ∀ wx, (Instr.slice 37 (.slice (some ⟨b, o, none⟩) (k + 1) uc) (some (.int .i64 (j : Int))) none none).run Try.prog wx = .ok (sliced (some ⟨b, o, none⟩) j way.length uc 1) wx := fun wx => by
          rw [run_slice_l wx 37 (some ⟨b, o, none⟩) (k + 1) uc rfl .i64 (j : Int) (by omega) (by omega), hwm]; rfl
        generalize hva : sliced (some ⟨b, o, none⟩) 0 (j + 1) uc 1 = va at *
        generalize hvb : sliced (some ⟨b, o, none⟩) j way.length uc 1 = vb at *
        clear hva hvb
        generalize hga : wayLenOf n xs (way.take (j + 1)) = sa at *
        generalize hgb : wayLenOf n xs (way.drop j) = sb at *
        generalize hgs : wayLenOf n xs way = s at *
        generalize hgf : farOf n xs (way.getD 0 0) (way.getD k 0) = f at *
        have Hga := Lib.hid hga; have Hgb := Lib.hid hgb; have Hgs := Lib.hid hgs; have Hrev := Lib.hid hrev
        clear hga hgb hgs hgf hrev
        have hq : (s != s) = false := by simp
        have hnn : ¬ s < 0 := by omega
        have HWs := Lib.hid (show ∀ w', RoadsIn w' (.slice ad xs.length cap) xs → IntsIn w' (.slice (some ⟨b, o, none⟩) (k + 1) uc) way → Calls Try.prog 31 #[.int .i64 n, .slice ad xs.length cap, .slice (some ⟨b, o, none⟩) (k + 1) uc] w' (Gives (.int .i64 s) w') from fun w' h hu => by have := HL2.out _ way w' h hu (by omega) Hiw.out; rw [Hgs.out] at this; exact this)
        have HL1' := Lib.hid (show ∀ w', RoadsIn w' (.slice ad xs.length cap) xs → IntsIn w' (.slice (some ⟨b, o, none⟩) (k + 1) uc) way → Calls Try.prog 32 #[.int .i64 n, .slice ad xs.length cap, .slice (some ⟨b, o, none⟩) (k + 1) uc] w' (Gives (.int .i64 s) w') from fun w' h hu => by
          have := HL1.out w' h (by rw [Hlen.out]; exact hu); rw [Hlen.out] at this; exact this)
        clear HL1
        rw [hwm]
        go_wp2_with fail
        refine (HWs.out _ Hx1.out HU1.out).mono ?_; rintro e w2 ⟨rfl, hb2⟩
        have Hx2 := Lib.hid (Hx1.out.below hb2)
        have HU2 := Lib.hid (HU1.out.below hb2)
        have HB2 := Lib.hid (HB1.out.trans (hb2.mono HB1.out.size))
        have Hat2 := Lib.hid (Hat.out.below hb2 hbt)
        have hbt2 := Nat.lt_of_lt_of_le hbt hb2.size
        clear hb2
        go_wp2_with fail
        refine (HL1'.out _ Hx2.out HU2.out).mono ?_; rintro e w3 ⟨rfl, hb3⟩
        have Hx3 := Lib.hid (Hx2.out.below hb3)
        have HU3 := Lib.hid (HU2.out.below hb3)
        have HB3 := Lib.hid (HB2.out.trans (hb3.mono HB2.out.size))
        have hat3 := Hat2.out.below hb3 hbt2
        clear hb3
        have c0 := hat3 0 (by omega)
        have ck := hat3 k (by omega)
        rw [Nat.add_zero] at c0
        clear hat3
        generalize way.getD 0 0 = y0 at *
        generalize way.getD k 0 = yk at *
        have hkn : (0 : Int) ≤ (k : Int) := Int.natCast_nonneg _
        have hnz : ((k : Int) + 1 == 0) = false := by simp; omega
        go_wp2_with fail
        refine (HF1.out _ Hx3.out).mono ?_; rintro e w4 ⟨rfl, hb4⟩
        have Hx4 := Lib.hid (Hx3.out.below hb4)
        have HU4 := Lib.hid (HU3.out.below hb4)
        have HB4 := Lib.hid (HB3.out.trans (hb4.mono HB3.out.size))
        clear hb4
        generalize (some (⟨b, o, none⟩ : Addr)) = ua at *
        have hd1 : decide ((0 : Int) ≤ f) = true := by simpa using f0
        have hd2 : decide (f ≤ s) = true := by simpa using f1
        have hwr : IntKind.i64.wrap (sa + sb) = s := by rw [hsum]; exact IntWalk.i64_in _ (by omega)
        have hwj : IntKind.i64.wrap ((j : Int) + 1) = (j : Int) + 1 := IntWalk.i64_in _ (by omega)
        have hqq : (s == s) = true := by simp
        have hj0 : (0 : Int) ≤ (j : Int) := by omega
        have HK := Lib.hid (show ∀ w', Bel w4 w' → Calls Try.prog 34 #[.slice ua (k + 1) uc] w' (fun e w'' => ∃ v', e = .returned v' ∧ IntsIn w'' v' way.reverse ∧ Bel w4 w'') from fun w' h => (backOf_any _ way w' (HU4.out.below h) (by omega) (by omega)).mono fun e w'' ⟨z, he, hz, hb⟩ => ⟨z, he, hz, Below.trans h (hb.mono (Below.size h))⟩)
        have HR := Lib.hid (show ∀ z w', Bel w4 w' → IntsIn w' z way.reverse → Calls Try.prog 31 #[.int .i64 n, .slice ad xs.length cap, z] w' (fun e w'' => e = .returned (.int .i64 s) ∧ Bel w4 w'') from fun z w' h hz => (HL2.out z way.reverse w' (Hx4.out.below h) hz Hrv.out.1 Hrv.out.2).mono fun e w'' ⟨he, hb⟩ => ⟨by rw [he, Hrev.out], Below.trans h (hb.mono (Below.size h))⟩)
        have HA := Lib.hid (show ∀ w', Bel w4 w' → Calls Try.prog 31 #[.int .i64 n, .slice ad xs.length cap, va] w' (fun e w'' => e = .returned (.int .i64 sa) ∧ Bel w4 w'') from fun w' h => (HL2.out va (way.take (j + 1)) w' (Hx4.out.below h) (Hcut.out w' (by rw [Hlen.out]; exact HU4.out.below h)).1 Htk.out.1 Htk.out.2).mono fun e w'' ⟨he, hb⟩ => ⟨by rw [he, Hga.out], Below.trans h (hb.mono (Below.size h))⟩)
        have HC := Lib.hid (show ∀ w', Bel w4 w' → Calls Try.prog 31 #[.int .i64 n, .slice ad xs.length cap, vb] w' (fun e w'' => e = .returned (.int .i64 sb) ∧ Bel w4 w'') from fun w' h => (HL2.out vb (way.drop j) w' (Hx4.out.below h) (Hcut.out w' (by rw [Hlen.out]; exact HU4.out.below h)).2 Hdr.out.1 Hdr.out.2).mono fun e w'' ⟨he, hb⟩ => ⟨by rw [he, Hgb.out], Below.trans h (hb.mono (Below.size h))⟩)
        have hd0 : Bel w4 w4.drew := (Below.refl _ _).drew
        clear hsum hwm hok f0 f1
        go_wp2
        go_region_held3 (fun w' => Bel w4 w') (first | assumption | (go_keep; done))
          (first | (go_at_call 34; refine (HK.out _ (by assumption)).mono ?_; rintro e w5 ⟨z, rfl, hz5, hs5⟩) | (go_at_call 31; with_reducible refine (HA.out _ (by assumption)).mono ?_; rintro e w6 ⟨rfl, hs6⟩) | (go_at_call 31; with_reducible refine (HC.out _ (by assumption)).mono ?_; rintro e w7 ⟨rfl, hs7⟩) | (go_at_call 31; refine (HR.out _ _ (by assumption) (by repeat (first | assumption | apply IntsIn.drew1))).mono ?_; rintro e w8 ⟨rfl, hs8⟩))
        all_goals
          go_wp2
          go_ret
          exact ⟨ret_bool (by first | rfl | (simp; done)), HB4.out.trans (Below.mono (show Bel w4 _ by assumption) HB4.out.size)⟩
      · have hneg : wayLenOf n xs way < 0 := by omega
        have hq : (wayLenOf n xs way != wayLenOf n xs way) = false := by simp
        have hqq : (wayLenOf n xs way == wayLenOf n xs way) = true := by simp
        have HWs := Lib.hid (fun w' h hu => HL2.out u way w' h hu (by omega) Hiw.out)
        generalize wayLenOf n xs way = s at *
        clear hok
        go_wp2_with fail
        refine (HWs.out _ Hx1.out HU1.out).mono ?_; rintro e w2 ⟨rfl, hb2⟩
        have Hx2 := Lib.hid (Hx1.out.below hb2)
        have HU2 := Lib.hid (HU1.out.below hb2)
        have HB2 := Lib.hid (HB1.out.trans (hb2.mono HB1.out.size))
        clear hb2
        go_wp2_with fail
        refine (HL1.out _ Hx2.out HU2.out).mono ?_; rintro e w3 ⟨rfl, hb3⟩
        have HB3 := Lib.hid (HB2.out.trans (hb3.mono HB2.out.size))
        clear hb3
        go_wp2
        go_ret
        exact ⟨ret_bool (by first | rfl | (simp; done)), HB3.out⟩
    · have hk' : (1048576 : Int) < (l'.length : Int) := by omega
      go_enter Try.func7, Try.ntmps7
      go_wp2
      go_ret
      exact ⟨rfl, Below.refl _ _⟩
  · have hl' : (1048576 : Int) < (l.length : Int) := by omega
    go_enter Try.func7, Try.ntmps7
    go_wp2
    go_ret
    exact ⟨rfl, Below.refl _ _⟩

set_option maxRecDepth 100000 in
theorem lifted (os : Os) (started : os.Started) (H : Type) (enc : TypeId × Value → H) :
    ReturnsInHanded {} Try.checked os 7 .any (Rows.fnWaySpec.pre6 enc Try.prog Try.f7 Rows.fnWayRow.domain false) (Rows.fnWaySpec.post enc Try.prog Try.f7 false true false false) := by
  refine returnsInHanded_of_change (C := Try.checked) own started (by kernel_rfl) Try.func7
    (ChangeSpec.witness6 (enc := enc) (C := Try.checked) false ⟨#[], #[.slice none 0 0, .slice none 0 0], []⟩ 8 (by kernel_rfl) (by kernel_rfl) (by kernel_rfl) (by kernel_rfl)) ?_
  intro W base args ds gs before hval0 hW hcnd _
  have hval : ∀ (j : Nat) t v, Try.f7.params[j]? = some t → args[j]? = some v → Value.okWide Try.prog W .any base t v := hval0
  have hW' := hW
  obtain ⟨p, q, hA0, hV, rfl, hfz, hnd⟩ := hW
  have hA : DataW.TrodAll enc Try.prog W 0 (fun _ => true) true Try.f7.params.toList args.toList ds p := hA0
  rw [Try.params7] at hA hval
  obtain ⟨v0, vs0, d0, ds0, p0, q0, hargs, rfl, rfl, h0, r0⟩ := trodAll_cons hA
  obtain ⟨v1, vs1, d1, ds1, p1, q1, rfl, rfl, rfl, h1, r1⟩ := trodAll_cons r0
  obtain ⟨rfl, rfl, rfl⟩ := trodAll_nil r1
  obtain rfl : args = #[v0, v1] := by cases args; simp_all
  obtain ⟨rfl, rfl⟩ := trodVars_none hV
  obtain ⟨a0, len0, cap0, rfl⟩ := okWide_slice Try.underlying44 (hval 0 44 v0 rfl rfl)
  have k0 := h0
  have lt0 : ∀ x ∈ p0, x.block < W.heap.size := by obtain ⟨m, hm⟩ := k0; exact DataW.trod_lt m _ _ _ hm
  obtain ⟨z0, hv0, hm0⟩ := open_byteS h0 rfl
  obtain ⟨a1, len1, cap1, rfl⟩ := okWide_slice Try.underlying44 (hval 1 44 v1 rfl rfl)
  have k1 := h1
  have lt1 : ∀ x ∈ p1, x.block < W.heap.size := by obtain ⟨m, hm⟩ := k1; exact DataW.trod_lt m _ _ _ hm
  obtain ⟨z1, hv1, hm1⟩ := open_byteS h1 rfl
  clear hA0 hval0
  refine (walk _ z0 _ z1 W hv0 hm0 hv1 hm1).mono fun e W' ⟨he, bel⟩ => ?_
  subst he
  exact ⟨_, rfl, _, _, _, [], _, [], hW', trodAll_mk1 (shut_bool Try.underlying4 _), (trodAll_cons_mk (Below.trod laidOut (by kernel_rfl) (of_decide_eq_true (by kernel_rfl)) k0 bel lt0) (trodAll_cons_mk (Below.trod laidOut (by kernel_rfl) (of_decide_eq_true (by kernel_rfl)) k1 bel lt1) trodAll_mk0)), rfl, bel.frame _, fun h => by cases h⟩

theorem over : Rows.fnWayRow.holds Try.pinned (OpenSpec.ofChange Rows.fnWaySpec) :=
  OpenClaim.holds_of_wide 7 Try.f7 rfl rfl rfl rfl rfl rfl rfl ⟨rfl, rfl, rfl, rfl, rfl⟩ rfl rfl rfl rfl rfl (by kernel_rfl) Try.func7 (by kernel_rfl)
    (of_decide_eq_true (by kernel_rfl)) (by unfold Func.isWrapper; first | (rw [if_pos (by decide +kernel)]; kernel_rfl) | (rw [if_neg (by decide +kernel)]; exact ⟨rfl, rfl⟩))
    (fun os started H enc _ => lifted os started H enc)

theorem proved : Rows.FnWaySaid := over
#print axioms proved
end Go.Proofs.Ytnlhnibhgpelfaa.lawFnWay
