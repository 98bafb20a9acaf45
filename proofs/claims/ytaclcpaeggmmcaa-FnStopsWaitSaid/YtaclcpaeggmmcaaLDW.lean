/- The law FnStopsWait holds at every input. No condition. -/
import Derived.Test.YtaclcpaeggmmcaaDC
import Derived.Test.YtaclcpaeggmmcaaSG
import Derived.Test.YtaclcpaeggmmcaaDO
namespace Go.Proofs.Ytaclcpaeggmmcaa.lawFnStopsWait
open Go.ChangeShapes Go.WideShapes Go.ChangeAt Go.RowKit
set_option linter.unusedVariables false

theorem okS_take {n : Int} {l : List Rd} {m i : Nat} (h : i < m) : okS n (l.take m) i = okS n l i := by
  rw [Bool.eq_iff_iff, okS_iff, okS_iff, getD_take l h, lastS_take (by omega), newS_take (by omega)]

theorem valid_take {n : Int} {l : List Rd} {m : Nat} (hz : validS n l = true) (h2 : 2 ≤ m) (hm : m ≤ l.length) : validS n (l.take m) = true := by
  obtain ⟨⟨h1, h3, h4, h5⟩, hall⟩ := validS_iff.1 hz
  have hl : (l.take m).length = m := by simp; omega
  exact validS_iff.2 ⟨⟨h1, h3, by omega, by omega⟩, fun i hi => by rw [okS_take (by omega)]; exact hall i (by omega)⟩

theorem getD_drop (l : List Rd) (k i : Nat) (h : k + i < l.length) : (l.drop k).getD i rd0 = l.getD (k + i) rd0 := by
  rw [getD_eq _ (by simp; omega), getD_eq l h]; simp

theorem valid_drop {n : Int} {l : List Rd} {k : Nat} (hz : validS n l = true) (h2 : k + 2 ≤ l.length) : validS n (l.drop k) = true := by
  obtain ⟨⟨h1, h3, h4, h5⟩, hall⟩ := validS_iff.1 hz
  have hl : (l.drop k).length = l.length - k := by simp
  refine validS_iff.2 ⟨⟨h1, h3, by omega, by omega⟩, fun i hi => ?_⟩
  obtain ⟨g1, g2, g3⟩ := (okS_iff _ _ _).1 (hall (k + i) (by omega))
  have hb := validS_at hz (show k + i < l.length by omega)
  rw [okS_iff, getD_drop l k i (by omega)]
  refine ⟨g1, ?_, ?_⟩
  · cases i with
    | zero => show (-1 : Int) < _; omega
    | succ j =>
      show ((l.drop k).getD j rd0).m < _
      rw [getD_drop l k j (by omega)]
      exact validS_next hz (i := k + j) (by omega)
  · rw [newS_iff]
    intro j hj
    rw [getD_drop l k j (by omega)]
    exact validS_ne hz (j := k + j) (i := k + i) (by omega) (by omega)

theorem waitTo_take (l : List Rd) {m : Nat} : ∀ k, k < m → waitTo (l.take m) k = waitTo l k
  | 0, _ => rfl
  | k + 1, h => by
    show waitTo (l.take m) k + _ = waitTo l k + _
    rw [waitTo_take l k (by omega), getD_take l h]

theorem waitTo_drop (l : List Rd) (k : Nat) : ∀ j, k + j < l.length → waitTo l (k + j) = waitTo l k + waitTo (l.drop k) j
  | 0, _ => by show waitTo l k = waitTo l k + 0; omega
  | j + 1, h => by
    show waitTo l (k + j) + _ = waitTo l k + (waitTo (l.drop k) j + _)
    rw [waitTo_drop l k j (by omega), getD_drop l k (j + 1) (by omega)]
    show waitTo l k + waitTo (l.drop k) j + ((l.getD (k + (j + 1)) rd0).m - (l.getD (k + (j + 1)) rd0).b) = _
    omega

/-- A part of the waits and the rest. -/
theorem wait_part {n : Int} {l : List Rd} {k : Nat} (hz : validS n l = true) (h1 : 1 ≤ k) (h2 : k + 2 ≤ l.length) :
    waitV n (l.take (k + 1)) + waitV n (l.drop k) + (l.getD k rd0).m - (l.getD k rd0).b = waitV n l ∧ 0 ≤ waitV n (l.take (k + 1)) ∧ 0 ≤ waitV n (l.drop k) ∧ waitV n (l.take (k + 1)) ≤ 80000 ∧ waitV n (l.drop k) ≤ 80000 := by
  have z1 := valid_take hz (m := k + 1) (by omega) (by omega)
  have z2 := valid_drop hz (k := k) h2
  have hl1 : (l.take (k + 1)).length = k + 1 := by simp; omega
  have hl2 : (l.drop k).length = l.length - k := by simp
  obtain ⟨j, rfl⟩ : ∃ j, k = j + 1 := ⟨k - 1, by omega⟩
  have e1 : waitV n (l.take (j + 1 + 1)) = waitTo l j := by
    unfold waitV; rw [if_pos z1, hl1, show j + 1 + 1 - 2 = j by omega, waitTo_take l j (by omega)]
  have e2 : waitV n (l.drop (j + 1)) = waitTo (l.drop (j + 1)) (l.length - (j + 1) - 2) := by
    unfold waitV; rw [if_pos z2, hl2]
  have e3 : waitV n l = waitTo l (j + 1) + waitTo (l.drop (j + 1)) (l.length - (j + 1) - 2) := by
    unfold waitV; rw [if_pos hz, ← waitTo_drop l (j + 1) _ (by omega)]
    congr 1; omega
  have e4 : waitTo l (j + 1) = waitTo l j + ((l.getD (j + 1) rd0).m - (l.getD (j + 1) rd0).b) := rfl
  have h8 := (validS_iff.1 hz).1.2.2.2
  have b1 := waitTo_bd hz j (by omega)
  have b2 := waitTo_bd z2 (l.length - (j + 1) - 2) (by omega)
  rw [e1, e2, e3, e4]
  omega

theorem RowAt.dropD {w : World} {b : Nat} {l : List Rd} (h : RowAt w b 0 l) (k : Nat) : RowAt w b (k * 3) (l.drop k) := fun i hi => by
  simp only [List.length_drop] at hi
  obtain ⟨c0, c1, c2⟩ := h (k + i) (by omega)
  rw [getD_drop l k i (by omega)]
  rw [show k * 3 + i * 3 = 0 + (k + i) * 3 by omega]
  exact ⟨c0, c1, c2⟩

theorem RowAt.takeD {w : World} {b : Nat} {l : List Rd} (h : RowAt w b 0 l) (m : Nat) : RowAt w b 0 (l.take m) := fun i hi => by
  simp only [List.length_take] at hi
  rw [getD_take l (by omega)]
  exact h i (by omega)

set_option maxRecDepth 100000 in
set_option maxHeartbeats 800000 in
theorem walk (v : Value) (c : List Int) (v2 : Value) (c2 : List Int) (w : World) (hv : BytesIn w v c) (hm : c.length ≤ maxLen) (hv2 : BytesIn w v2 c2) (hm2 : c2.length ≤ maxLen) :
    Calls Try.prog 5 #[v, v2] w fun e w' => e = .returned (.bool true) ∧ Below w.heap.size w w' := by
  have Hv := Lib.hid hv
  obtain ⟨a, cap, rfl, _, _, ha⟩ := hv
  have Ha := Lib.hid ha; clear ha
  obtain ⟨a2, cap2, rfl, _, _, ha2⟩ := hv2
  have Ha2 := Lib.hid ha2; clear ha2
  unfold maxLen at hm hm2
  by_cases hl : c.length ≤ 1048576
  · by_cases hl2 : c2.length ≤ 1048576
    · go_enter Try.func5, Try.ntmps5
      go_wp2_with fail
      refine (drawWait_any _ c _ Hv.out hl).mono ?_; rintro e w1 ⟨n, ad, cp, xs, rfl, n2, n6, hcp, h8, hown, b1⟩
      have Hown := Lib.hid hown; clear hown
      go_wp2_with fail
      refine (wait2_any n _ xs _ Hown.out.ins (by omega)).mono ?_; rintro e w2 ⟨rfl, b2⟩
      have B2 := b1.trans (b2.mono b1.size)
      have Hown2 := Lib.hid (Hown.out.below b2)
      clear b1 b2
      go_wp2_with fail
      refine (wait1_any n _ xs _ Hown2.out.ins (by omega)).mono ?_; rintro e w3 ⟨rfl, b3⟩
      have B3 := B2.trans (b3.mono B2.size)
      have Hown3 := Lib.hid (Hown2.out.below b3)
      clear b3 B2
      cases hz : validS n xs with
      | false =>
        have hr : waitV n xs = -1 := by unfold waitV; rw [hz]; rfl
        rw [hr]
        clear hr hz
        go_wp2
        go_ret
        exact ⟨rfl, B3⟩
      | true =>
        obtain ⟨_, _, l2, l8⟩ := (validS_iff.1 hz).1
        have hw0 : 0 ≤ waitV n xs ∧ waitV n xs ≤ 80000 := by
          unfold waitV; rw [if_pos hz]
          have := waitTo_bd hz (xs.length - 2) (by omega)
          omega
        obtain ⟨hw0, hw8⟩ := hw0
        by_cases h3 : xs.length < 3
        · have hr : waitV n xs = 0 := by
            unfold waitV; rw [if_pos hz, show xs.length - 2 = 0 by omega]; rfl
          rw [hr]
          clear hr hz hw0 hw8
          have h3I : (xs.length : Int) < 3 := by omega
          go_wp2
          go_ret
          exact ⟨rfl, B3⟩
        · have h3I : ¬ (xs.length : Int) < 3 := by omega
          obtain ⟨b, rfl, hb, hrow, _⟩ := Hown3.out (by rintro rfl; simp at l2)
          have Hrow := Lib.hid hrow; clear hrow
          have hm0 := Int.emod_nonneg (c2.length : Int) (show (xs.length : Int) - 2 ≠ 0 by omega)
          have hm1 := Int.emod_lt_of_pos (c2.length : Int) (show (0 : Int) < (xs.length : Int) - 2 by omega)
          obtain ⟨kn, hk⟩ : ∃ kn : Nat, 1 + (c2.length : Int) % ((xs.length : Int) - 2) = (kn : Int) := ⟨(1 + (c2.length : Int) % ((xs.length : Int) - 2)).toNat, by omega⟩
          have hk1 : 1 ≤ kn := by omega
          have hk2 : kn + 2 ≤ xs.length := by omega
          have hlen2 : (0 : Int) < (xs.length : Int) - 2 := by omega
          obtain ⟨hsum, p0, q0, p8, q8⟩ := wait_part hz hk1 hk2
          obtain ⟨_, _, y0', y1', y2', _⟩ := validS_at hz (show kn < xs.length by omega)
          have Hy := Lib.hid (And.intro y0' (And.intro y1' y2'))
          clear y0' y1' y2'
          have Hsum := Lib.hid hsum; clear hsum hz
          have hl1 : (xs.take (kn + 1)).length = kn + 1 := by simp; omega
          have hld : (xs.drop kn).length = xs.length - kn := by simp
          have hlt1 : (kn : Int) + 1 ≤ (cp : Int) := by omega
          have HT := Lib.hid (show RoadsIn w3 (.slice (some ⟨b, 0, none⟩) (kn + 1) cp) (xs.take (kn + 1)) from ⟨_, cp, by rw [hl1], fun _ => ⟨b, 0, rfl, hb, RowAt.takeD Hrow.out _⟩⟩)
          have HD := Lib.hid (show ∀ c', RoadsIn w3 (.slice (some ⟨b, kn * 3, none⟩) (xs.length - kn) c') (xs.drop kn) from fun c' => ⟨_, c', by rw [hld], fun _ => ⟨b, kn * 3, rfl, hb, RowAt.dropD Hrow.out _⟩⟩)
          have HB3 := Lib.hid B3
          clear hl1 hld B3
          generalize hp : waitV n (xs.take (kn + 1)) = pv at *
          generalize hq : waitV n (xs.drop kn) = qv at *
          generalize waitV n xs = rv at *
          have Hp := Lib.hid hp; clear hp
          have Hq := Lib.hid hq; clear hq
          go_wp2_with fail
          refine (wait2_any n _ (xs.take (kn + 1)) _ HT.out (by simp; omega)).mono ?_; rintro e w4 ⟨rfl, b4⟩
          rw [Hp.out]
          have B4 := HB3.out.trans (b4.mono HB3.out.size)
          have HD4 := Lib.hid (fun c' => (HD.out c').below b4)
          have Hrow4 := Lib.hid (Hrow.out.below b4 hb)
          go_wp2_with fail
          refine (wait2_any n _ (xs.drop kn) _ (HD4.out _) (by simp; omega)).mono ?_; rintro e w5 ⟨rfl, b5⟩
          rw [Hq.out]
          have B5 := B4.trans (b5.mono B4.size)
          obtain ⟨_, c1, c2⟩ := (Hrow4.out.below b5 (Nat.lt_of_lt_of_le hb b4.size)) kn (by omega)
          simp only [Nat.zero_add] at c1 c2
          have hki : (kn : Int) < (xs.length : Int) := by omega
          have hki0 : (0 : Int) ≤ (kn : Int) := Int.natCast_nonneg _
          obtain ⟨y0, y1, y2⟩ := Hy.out
          have hs := Hsum.out
          have Hs := Lib.hid hs
          clear hs hm0 hm1 hlen2 b4 b5 B4
          generalize (xs.getD kn rd0).m = ym at *
          generalize (xs.getD kn rd0).b = yb at *
          have hfin : (pv + qv + ym - yb == rv) = true := by rw [Hs.out]; simp
          go_wp2
          go_quiet (fail)
          go_wp2
          go_ret
          exact ⟨ret_bool (by first | rfl | (simp; done) | (simp; exact Hs.out)), B5.drewN _⟩
    · go_enter Try.func5, Try.ntmps5
      go_wp2
      go_ret
      exact ⟨rfl, Below.refl _ _⟩
  · go_enter Try.func5, Try.ntmps5
    go_wp2
    go_ret
    exact ⟨rfl, Below.refl _ _⟩

set_option maxRecDepth 100000 in
theorem lifted (os : Os) (started : os.Started) (H : Type) (enc : TypeId × Value → H) :
    ReturnsInHanded {} Try.checked os 5 .any (Rows.fnStopsWaitSpec.pre6 enc Try.prog Try.f5 Rows.fnStopsWaitRow.domain false) (Rows.fnStopsWaitSpec.post enc Try.prog Try.f5 false true false false) := by
  refine returnsInHanded_of_change (C := Try.checked) own started (by kernel_rfl) Try.func5
    (ChangeSpec.witness6 (enc := enc) (C := Try.checked) false ⟨#[], #[.slice none 0 0, .slice none 0 0], []⟩ 8 (by kernel_rfl) (by kernel_rfl) (by kernel_rfl) (by kernel_rfl)) ?_
  intro W base args ds gs before hval0 hW hcnd _
  have hval : ∀ (j : Nat) t v, Try.f5.params[j]? = some t → args[j]? = some v → Value.okWide Try.prog W .any base t v := hval0
  have hW' := hW
  obtain ⟨p, q, hA0, hV, rfl, hfz, hnd⟩ := hW
  have hA : DataW.TrodAll enc Try.prog W 0 (fun _ => true) true Try.f5.params.toList args.toList ds p := hA0
  rw [Try.params5] at hA hval
  obtain ⟨v0, vs0, d0, ds0, p0, q0, hargs, rfl, rfl, h0, r0⟩ := trodAll_cons hA
  obtain ⟨v1, vs1, d1, ds1, p1, q1, rfl, rfl, rfl, h1, r1⟩ := trodAll_cons r0
  obtain ⟨rfl, rfl, rfl⟩ := trodAll_nil r1
  obtain rfl : args = #[v0, v1] := by cases args; simp_all
  obtain ⟨rfl, rfl⟩ := trodVars_none hV
  obtain ⟨a0, len0, cap0, rfl⟩ := okWide_slice Try.underlying22 (hval 0 22 v0 rfl rfl)
  have k0 := h0
  have lt0 : ∀ x ∈ p0, x.block < W.heap.size := by obtain ⟨m, hm⟩ := k0; exact DataW.trod_lt m _ _ _ hm
  obtain ⟨z0, hv0, hm0⟩ := open_byteS h0 rfl
  obtain ⟨a1, len1, cap1, rfl⟩ := okWide_slice Try.underlying22 (hval 1 22 v1 rfl rfl)
  have k1 := h1
  have lt1 : ∀ x ∈ p1, x.block < W.heap.size := by obtain ⟨m, hm⟩ := k1; exact DataW.trod_lt m _ _ _ hm
  obtain ⟨z1, hv1, hm1⟩ := open_byteS h1 rfl
  clear hA0 hval0
  refine (walk _ z0 _ z1 W hv0 hm0 hv1 hm1).mono fun e W' ⟨he, bel⟩ => ?_
  subst he
  exact ⟨_, rfl, _, _, _, [], _, [], hW', trodAll_mk1 (shut_bool Try.underlying4 _), (trodAll_cons_mk (Below.trod laidOut (by kernel_rfl) (of_decide_eq_true (by kernel_rfl)) k0 bel lt0) (trodAll_cons_mk (Below.trod laidOut (by kernel_rfl) (of_decide_eq_true (by kernel_rfl)) k1 bel lt1) trodAll_mk0)), rfl, bel.frame _, fun h => by cases h⟩

theorem over : Rows.fnStopsWaitRow.holds Try.pinned (OpenSpec.ofChange Rows.fnStopsWaitSpec) :=
  OpenClaim.holds_of_wide 5 Try.f5 rfl rfl rfl rfl rfl rfl rfl ⟨rfl, rfl, rfl, rfl, rfl⟩ rfl rfl rfl rfl rfl (by kernel_rfl) Try.func5 (by kernel_rfl)
    (of_decide_eq_true (by kernel_rfl)) (by unfold Func.isWrapper; first | (rw [if_pos (by decide +kernel)]; kernel_rfl) | (rw [if_neg (by decide +kernel)]; exact ⟨rfl, rfl⟩))
    (fun os started H enc _ => lifted os started H enc)

theorem proved : Rows.FnStopsWaitSaid := over
#print axioms proved
end Go.Proofs.Ytaclcpaeggmmcaa.lawFnStopsWait
