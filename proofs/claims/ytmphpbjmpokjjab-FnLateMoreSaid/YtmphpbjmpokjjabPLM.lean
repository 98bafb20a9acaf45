/- The law FnLateMore holds at every input. No condition. -/
import Derived.Test.YtmphpbjmpokjjabOJ
import Derived.Test.YtmphpbjmpokjjabDLC
import Derived.Test.YtmphpbjmpokjjabKC
import Derived.Test.YtmphpbjmpokjjabLTF
import Derived.Test.YtmphpbjmpokjjabCPY
import Derived.Test.YtmphpbjmpokjjabDO
namespace Go.Proofs.Ytmphpbjmpokjjab.lawFnLateMore
open Go.ChangeShapes Go.WideShapes Go.ChangeAt Go.RowKit
set_option linter.unusedVariables false

set_option maxRecDepth 100000 in
set_option maxHeartbeats 2000000 in
theorem walk (v : Value) (l : List Int) (v' : Value) (l' : List Int) (w : World) (hv : BytesIn w v l) (hm : l.length ≤ maxLen) (hv' : BytesIn w v' l') (hm' : l'.length ≤ maxLen) :
    Calls Try.prog 5 #[v, v'] w fun e w' => e = .returned (.bool true) ∧ Below w.heap.size w w' := by
  obtain ⟨i0, hi, hz0, hz1, hz2⟩ := info_parts Try.info3
  have Hv := Lib.hid hv
  obtain ⟨av, cv, rfl, hcv, _, _⟩ := hv
  obtain ⟨av', cv', rfl, hcv', _, _⟩ := hv'
  clear hcv hcv'
  by_cases hl : l.length ≤ 1048576
  · have hl' : ¬ (1048576 : Int) < (l.length : Int) := by omega
    by_cases hk : l'.length ≤ 1048576
    · have hk' : ¬ (1048576 : Int) < (l'.length : Int) := by omega
      go_enter Try.func5, Try.ntmps5
      go_wp2_with fail
      refine (drawLateEnd_any _ l _ Hv.out hl).mono ?_; rintro e w1 ⟨n, sv, xs, ls, st, u, ds, rfl, n2, n6, hx1, hx8, hu1, hd8, _, _, hb1⟩
      have HX1 := Lib.hid hx1
      have HU1 := Lib.hid hu1
      have HB1 := Lib.hid hb1
      have hx : xs.length ≤ 1048576 := by omega
      have H2 := Lib.hid (fun w' (u2 : Value) (ys : List Int) (h : RoadsIn w' sv xs) (hu : IntsIn w' u2 ys) (hy : ys.length ≤ 1048576) => end2_any n sv xs ls st u2 ys w' h hx hu hy)
      have H1 := Lib.hid (fun w' (h : RoadsIn w' sv xs) (hu : IntsIn w' u ds) => end1_any n sv xs ls st u ds w' h hx hu (by omega))
      clear hx1 hu1 hb1
      cases hok : okLate n xs ls st ds with
      | false =>
        have hno := endX_no hok
        have H2' := Lib.hid (fun w' (h : RoadsIn w' sv xs) (hu : IntsIn w' u ds) => H2.out w' u ds h hu (by omega))
        rw [hno] at H2' H1
        clear hok hno H2
        go_wp2_with fail
        refine (H2'.out _ HX1.out HU1.out).mono ?_; rintro e w2 ⟨rfl, hb2⟩
        have HX2 := Lib.hid (HX1.out.below hb2)
        have HU2 := Lib.hid (HU1.out.below hb2)
        have HB2 := Lib.hid (HB1.out.trans (hb2.mono HB1.out.size))
        clear hb2
        go_wp2_with fail
        refine (H1.out _ HX2.out HU2.out).mono ?_; rintro e w3 ⟨rfl, hb3⟩
        have HB3 := Lib.hid (HB2.out.trans (hb3.mono HB2.out.size))
        clear hb3
        go_wp2
        go_ret
        exact ⟨rfl, HB3.out⟩
      | true =>
        have hS2 := okLate_2 hok
        have hS0 : 0 ≤ endX n xs ls st ds ∧ endX n xs ls st ds ≤ 3000 := ⟨endX_ok.2 hok, (endX_bd n xs ls st ds).2⟩
        obtain ⟨s0, s9⟩ := hS0
        have hlen := (okLate_iff.1 hok).2.2.2.2
        have Hda := Lib.hid (fun k => allDl_at (okLate_iff.1 hok).1 k)
        have Hmo := Lib.hid (fun (k : Nat) (hk : k < ds.length) => end_more hok (k := k) hk)
        have H2' := Lib.hid (fun w' (h : RoadsIn w' sv xs) (hu : IntsIn w' u ds) => H2.out w' u ds h hu (by omega))
        obtain ⟨m, hdm⟩ : ∃ m, ds.length = m + 1 := ⟨ds.length - 1, by omega⟩
        obtain ⟨r, e1, hr0, hr1⟩ : ∃ r : Int, (l'.length : Int) % ((m : Int) + 1) = r ∧ 0 ≤ r ∧ r < (m : Int) + 1 := by
          have h0 := Int.emod_nonneg (l'.length : Int) (show (m : Int) + 1 ≠ 0 by omega)
          have h1 := Int.emod_lt_of_pos (l'.length : Int) (show 0 < (m : Int) + 1 by omega)
          exact ⟨_, rfl, h0, by omega⟩
        obtain ⟨k, rfl⟩ : ∃ j : Nat, r = (j : Int) := ⟨r.toNat, by omega⟩
        have hkm : k < m + 1 := by omega
        have Hmk := Lib.hid (Hmo.out k (by omega))
        have Hmm := Lib.hid (Hmo.out m (by omega))
        obtain ⟨d0, d9⟩ := Hda.out k
        obtain ⟨f0, f9⟩ := Hda.out m
        obtain ⟨d, hdd⟩ : ∃ d, ds.getD k 0 = d := ⟨_, rfl⟩
        obtain ⟨f, hff⟩ : ∃ f, ds.getD m 0 = f := ⟨_, rfl⟩
        rw [hdd] at d0 d9 Hmk
        rw [hff] at f0 f9 Hmm
        have Hdd := Lib.hid hdd
        have Hff := Lib.hid hff
        clear hdd hff
        have Hd8 := Lib.hid hd8
        obtain ⟨ua, uc, eu, huc, hua⟩ := HU1.out
        subst eu
        obtain ⟨b, o, eb, hbt, hat⟩ := hua (by rintro rfl; simp at hdm)
        subst eb
        have Hat := Lib.hid hat
        have Hdm := Lib.hid hdm
        have hm7 : m ≤ 7 := by omega
        clear hua hat hok hlen hS2 Hmo Hda hd8
        rw [hdm] at huc ⊢
        rw [hdm] at HU1 H2' H1
        generalize hS : endX n xs ls st ds = S at *
        have HS := Lib.hid hS
        clear hS
        go_wp2_with fail
        refine (H2'.out _ HX1.out HU1.out).mono ?_; rintro e w2 ⟨rfl, hb2⟩
        have HX2 := Lib.hid (HX1.out.below hb2)
        have HU2 := Lib.hid (HU1.out.below hb2)
        have HB2 := Lib.hid (HB1.out.trans (hb2.mono HB1.out.size))
        have Hat2 := Lib.hid (Hat.out.below hb2 hbt)
        have hbt2 := Nat.lt_of_lt_of_le hbt hb2.size
        clear hb2
        go_wp2_with fail
        refine (H1.out _ HX2.out HU2.out).mono ?_; rintro e w3 ⟨rfl, hb3⟩
        have HX3 := Lib.hid (HX2.out.below hb3)
        have HU3 := Lib.hid (HU2.out.below hb3)
        have HB3 := Lib.hid (HB2.out.trans (hb3.mono HB2.out.size))
        have Hat3 := Lib.hid (Hat2.out.below hb3 hbt2)
        have hbt3 := Nat.lt_of_lt_of_le hbt2 hb3.size
        clear hb3
        have hq : (S != S) = false := by simp
        have hnn : ¬ S < 0 := by omega
        have hbn : Below w3.heap.size w3 (w3.alloc (.cells #[] 3)) := (Below.refl _ _).alloc (Nat.le_refl _) _
        have hnews := ((Hat3.out).below hbn hbt3).news
        have hown := RowI.made w3 w3.heap.size (Nat.le_refl _)
        unfold RowI at hown
        have Hown := Lib.hid hown
        have Hnews := Lib.hid hnews
        have Hbn := Lib.hid hbn
        have HlenM := Lib.hid (show (ds.map (Value.int .i64)).length = (m + 1) * 1 by simp [Hdm.out])
        have hmm : (0 : Int) ≤ (m : Int) := Int.natCast_nonneg _
        have hkn : (0 : Int) ≤ (k : Int) := Int.natCast_nonneg _
        clear hbn hnews hown
        go_wp2_with (first | (at_builtin; refine wpList_append_own _ rfl _ _ 24 rfl w3.heap.size 3 i0 (.int .i64 0) 1 8 Try.underlying24 hi hz0 hz1 hz2 rfl (by omega) _ _ [] rfl Hown.out ⟨b, o, none⟩ (m + 1) uc (ds.map (Value.int .i64)) rfl HlenM.out Hnews.out (encI_one ds) (by unfold maxLen; simp; omega) (by simp; omega) (by simp) ?_; intro v5 w5 hown5 hgrow _; obtain ⟨g, cp, rfl, C5⟩ := copied Hown.out Hbn.out Hdm.out hown5 (by simp) (by simp) hgrow; have HC5 := Lib.hid C5; have c1 := (C5.2.2.2.1 k hkm); rw [Hdd.out] at c1; have hfz := C5.2.2.2.2 k; have Own2 := Lib.hid (made_after w5 ⟨g, k, none⟩ (.int .i64 (d + 1))); have News2 := Lib.hid (news_after (Hat3.out) hbt3 C5.2.1 C5.1 k (.int .i64 (d + 1))); clear hown5 hgrow C5) | (at_builtin; refine wpList_append_own _ rfl _ _ 24 rfl w5.heap.size 3 i0 (.int .i64 0) 1 8 Try.underlying24 hi hz0 hz1 hz2 rfl (by omega) _ _ [] rfl Own2.out ⟨b, o, none⟩ (m + 1) uc (ds.map (Value.int .i64)) rfl HlenM.out News2.out (encI_one ds) (by unfold maxLen; simp; omega) (by simp; omega) (by simp) ?_; intro v6 w6 hown6 hgrow _; obtain ⟨g', cp', rfl, C6⟩ := copied2 Hdm.out hown6 (by simp) (by simp) hgrow; have HC6 := Lib.hid C6; have c2 := (C6.2.2.2.1 m (Nat.lt_succ_self m)); rw [Hff.out] at c2; have hfz2 := C6.2.2.2.2 m; clear hown6 hgrow C6))
        have hsA : (w5.setCell ⟨g, k, none⟩ (.int .i64 (d + 1))).heap.size = w5.heap.size := by simp
        have hz35 := HC5.out.2.1.size
        have hbB : Below w5.heap.size (w5.setCell ⟨g, k, none⟩ (.int .i64 (d + 1))) (w6.setCell ⟨g', m, none⟩ (.int .i64 (f + 1))) := HC6.out.2.1.setCell (p := ⟨g', m, none⟩) HC6.out.1.1 _
        have hb3B : Below w3.heap.size w3 (w6.setCell ⟨g', m, none⟩ (.int .i64 (f + 1))) := (HC5.out.2.1.setCell (p := ⟨g, k, none⟩) HC5.out.1.1 _).trans (hbB.mono hz35)
        have hbA : Below (w5.setCell ⟨g, k, none⟩ (.int .i64 (d + 1))).heap.size (w5.setCell ⟨g, k, none⟩ (.int .i64 (d + 1))) (w6.setCell ⟨g', m, none⟩ (.int .i64 (f + 1))) := by rw [hsA]; exact hbB
        obtain ⟨hxi, hxc⟩ := set_row HC5.out.2.2.1 Hdm.out hkm (d + 1)
        obtain ⟨hyi, hyc⟩ := set_row HC6.out.2.2.1 Hdm.out (Nat.lt_succ_self m) (f + 1)
        have HXI := Lib.hid (hxi.below hbA)
        have HXC := Lib.hid (keepCell hbA hxc)
        have HYI := Lib.hid hyi
        have HYC := Lib.hid hyc
        have HX7 := Lib.hid (HX3.out.below hb3B)
        have HB7 := Lib.hid (HB3.out.trans (hb3B.mono HB3.out.size))
        have Hl1 := Lib.hid (show (ds.set k (d + 1)).length ≤ 1048576 by rw [List.length_set, Hdm.out]; omega)
        have Hl2 := Lib.hid (show (ds.set m (f + 1)).length ≤ 1048576 by rw [List.length_set, Hdm.out]; omega)
        have HE1 := Lib.hid (fun w' (h : RoadsIn w' sv xs) (hu : IntsIn w' (.slice (some ⟨g, 0, none⟩) (m + 1) cp) (ds.set k (d + 1))) => H2.out w' _ _ h hu Hl1.out)
        have HE2 := Lib.hid (fun w' (h : RoadsIn w' sv xs) (hu : IntsIn w' (.slice (some ⟨g', 0, none⟩) (m + 1) cp') (ds.set m (f + 1))) => H2.out w' _ _ h hu Hl2.out)
        have Hlast := Lib.hid (show m + 1 = ds.length from Hdm.out.symm)
        clear hsA hz35 hbB hb3B hbA hxi hxc hyi hyc HC5 HC6 c1 c2 hfz hfz2 Own2 News2 H2
        generalize endX n xs ls st (ds.set k (d + 1)) = a at *
        generalize endX n xs ls st (ds.set m (f + 1)) = c at *
        generalize w6.setCell ⟨g', m, none⟩ (.int .i64 (f + 1)) = w7 at *
        refine (HE1.out w7 HX7.out HXI.out).mono ?_; rintro e w8 ⟨rfl, hb8⟩
        have HX8 := Lib.hid (HX7.out.below hb8)
        have HYI8 := Lib.hid (HYI.out.below hb8)
        have Hxc8 := Lib.hid (keepCell hb8 HXC.out)
        have Hyc8 := Lib.hid (keepCell hb8 HYC.out)
        have HB8 := Lib.hid (HB7.out.trans (hb8.mono HB7.out.size))
        clear hb8
        go_wp2_with fail
        refine (HE2.out w8 HX8.out HYI8.out).mono ?_; rintro e w9 ⟨rfl, hb9⟩
        have cx := keepCell hb9 Hxc8.out
        have cy := keepCell hb9 Hyc8.out
        have HB9 := Lib.hid (HB8.out.trans (hb9.mono HB8.out.size))
        clear hb9
        have hSS : (S == S) = true := by simp
        have g1 : wrap64 (S + 1) = S + 1 := by unfold wrap64; omega
        have hS1 : (S + 1 == -1) = false := by simp; omega
        have hS2 : (S == -1) = false := by simp; omega
        have hS3 : (S + 1 == S) = false := by simp; omega
        have hkl : (k : Int) < (m : Int) + 1 := by omega
        clear e1
        rcases Hmm.out with ⟨q1, rfl⟩ | ⟨q1, _, q2⟩
        · rcases Hmk.out with ⟨r1, rfl⟩ | ⟨r1, r2 | r2, _⟩
          · go_wp2
            go_ret
            exact ⟨by first | rfl | exact ret_bool (by simp; omega), HB9.out⟩
          · subst r2
            go_wp2
            go_ret
            exact ⟨by first | rfl | exact ret_bool (by simp; omega), HB9.out⟩
          · subst r2
            go_wp2
            go_ret
            exact ⟨by first | rfl | exact ret_bool (by simp; omega), HB9.out⟩
        · obtain rfl := q2 Hlast.out
          rcases Hmk.out with ⟨r1, rfl⟩ | ⟨r1, r2 | r2, _⟩
          · go_wp2
            go_ret
            exact ⟨by first | rfl | exact ret_bool (by simp; omega), HB9.out⟩
          · subst r2
            go_wp2
            go_ret
            exact ⟨by first | rfl | exact ret_bool (by simp; omega), HB9.out⟩
          · subst r2
            go_wp2
            go_ret
            exact ⟨by first | rfl | exact ret_bool (by simp; omega), HB9.out⟩
    · have hk' : (1048576 : Int) < (l'.length : Int) := by omega
      go_enter Try.func5, Try.ntmps5
      go_wp2
      go_ret
      exact ⟨rfl, Below.refl _ _⟩
  · have hl' : (1048576 : Int) < (l.length : Int) := by omega
    go_enter Try.func5, Try.ntmps5
    go_wp2
    go_ret
    exact ⟨rfl, Below.refl _ _⟩

set_option maxRecDepth 100000 in
theorem lifted (os : Os) (started : os.Started) (H : Type) (enc : TypeId × Value → H) :
    ReturnsInHanded {} Try.checked os 5 .any (Rows.fnLateMoreSpec.pre6 enc Try.prog Try.f5 Rows.fnLateMoreRow.domain false) (Rows.fnLateMoreSpec.post enc Try.prog Try.f5 false true false false) := by
  refine returnsInHanded_of_change (C := Try.checked) own started (by kernel_rfl) Try.func5
    (ChangeSpec.witness6 (enc := enc) (C := Try.checked) false ⟨#[], #[.slice none 0 0, .slice none 0 0], []⟩ 8 (by kernel_rfl) (by kernel_rfl) (by kernel_rfl) (by kernel_rfl)) ?_
  intro W base args ds gs before hval0 hW hcnd _
  have hval : ∀ (j : Nat) t v, Try.f5.params[j]? = some t → args[j]? = some v → Value.okWide Try.prog W .any base t v := hval0
  have hW' := hW
  obtain ⟨p, q, hA0, hV, rfl, hfz, hnd⟩ := hW
  have hA : DataW.TrodAll enc Try.prog W 0 (fun _ => true) true Try.f5.params.toList args.toList ds p := hA0
  rw [Try.params5] at hA hval
  obtain ⟨v0, vs0, d0, ds0, p0, q0, hargs, rfl, rfl, h0, r0⟩ := trodAll_cons hA
  obtain ⟨v1, vs1, d1, ds1, p1, q1, rfl, rfl, rfl, h1, r1⟩ := trodAll_cons r0
  obtain ⟨rfl, rfl, rfl⟩ := trodAll_nil r1
  obtain rfl : args = #[v0, v1] := by cases args; simp_all
  obtain ⟨rfl, rfl⟩ := trodVars_none hV
  obtain ⟨a0, len0, cap0, rfl⟩ := okWide_slice Try.underlying22 (hval 0 22 v0 rfl rfl)
  have k0 := h0
  have lt0 : ∀ x ∈ p0, x.block < W.heap.size := by obtain ⟨m, hm⟩ := k0; exact DataW.trod_lt m _ _ _ hm
  obtain ⟨z0, hv0, hm0⟩ := open_byteS h0 rfl
  obtain ⟨a1, len1, cap1, rfl⟩ := okWide_slice Try.underlying22 (hval 1 22 v1 rfl rfl)
  have k1 := h1
  have lt1 : ∀ x ∈ p1, x.block < W.heap.size := by obtain ⟨m, hm⟩ := k1; exact DataW.trod_lt m _ _ _ hm
  obtain ⟨z1, hv1, hm1⟩ := open_byteS h1 rfl
  clear hA0 hval0
  refine (walk _ z0 _ z1 W hv0 hm0 hv1 hm1).mono fun e W' ⟨he, bel⟩ => ?_
  subst he
  exact ⟨_, rfl, _, _, _, [], _, [], hW', trodAll_mk1 (shut_bool Try.underlying4 _), (trodAll_cons_mk (Below.trod laidOut (by kernel_rfl) (of_decide_eq_true (by kernel_rfl)) k0 bel lt0) (trodAll_cons_mk (Below.trod laidOut (by kernel_rfl) (of_decide_eq_true (by kernel_rfl)) k1 bel lt1) trodAll_mk0)), rfl, bel.frame _, fun h => by cases h⟩

theorem closed : joinedFacts Try.prog 5 Try.f5 Rows.fnLateMoreSpec Rows.fnLateMoreRow = true := by
  delta joinedFacts
  refine and_t (and_t (and_t (and_t (and_t (and_t (and_t ?_ mayE) (liftE rfl)) (makeE rfl)) ?_) ?_) ?_) ?_
  all_goals kernel_rfl
theorem over : Rows.fnLateMoreRow.holds Try.pinned (OpenSpec.ofChange Rows.fnLateMoreSpec) :=
  OpenClaim.holds_of_wide 5 Try.f5 rfl rfl rfl rfl rfl rfl rfl ⟨rfl, rfl, rfl, rfl, rfl⟩ rfl rfl rfl rfl rfl (by kernel_rfl) Try.func5 closed
    (of_decide_eq_true (by kernel_rfl)) (by unfold Func.isWrapper; first | (rw [if_pos (by decide +kernel)]; kernel_rfl) | (rw [if_neg (by decide +kernel)]; exact ⟨rfl, rfl⟩))
    (fun os started H enc _ => lifted os started H enc)

theorem proved : Rows.FnLateMoreSaid := over
#print axioms proved
end Go.Proofs.Ytmphpbjmpokjjab.lawFnLateMore
