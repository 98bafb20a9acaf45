/- RoadsNeeded of the model. -/
import Derived.Test.YtnlhnibhgpelfaaRCS
import Derived.Test.YtnlhnibhgpelfaaAH
import Derived.Test.YtnlhnibhgpelfaaY
namespace Go.Proofs.Ytnlhnibhgpelfaa
open Go.RowKit

theorem RoadsIn.rz {w : World} {a : Option Addr} {cap : Nat} {l : List Rd} (h : RoadsIn w (.slice a l.length cap) l) (hc : l.length ≤ cap) : RzIn w (.slice a l.length cap) l := by
  obtain ⟨a', c', he, ha⟩ := h
  cases he
  exact ⟨_, _, rfl, hc, ha⟩

def NsRel (n : Int) (l : List Rd) (w : World) (v i : Value) (wr : World) : Prop :=
  ∃ k : Nat, k ≤ l.length ∧ i = .int .i64 k ∧ wr.ownsRow w.heap.size 3 1 v (needTo n l k).length ((needTo n l k).map (Value.int .i64)) ∧ Below w.heap.size w wr

set_option maxRecDepth 100000 in
set_option maxHeartbeats 2000000 in
theorem need1_any (n : Int) (b : Nat) (l : List Rd) (w : World) (hv0 : RoadsIn w (.slice (some ⟨b, 0, none⟩) l.length l.length) l) (hm : l.length ≤ 1048576) :
    Calls Try.prog 23 #[.int .i64 n, .slice (some ⟨b, 0, none⟩) l.length l.length] w (IntsOut (needOf n l) w) := by
  obtain ⟨i0, hi, hz0, hz1, hz2⟩ := info_parts Try.info3
  obtain ⟨i1, hi1, hy0, hy1, hy2⟩ := info_parts infoRz
  have Hv := Lib.hid (hv0.rz (Nat.le_refl _)); clear hv0
  have Hval := Lib.hid (fun w' (h : Below w.heap.size w w') => specValid_any n _ l w' (Hv.out.below h).roads hm)
  have Hat := Lib.hid Hv.out.at0
  have hb0 : Below w.heap.size w (w.alloc (.cells #[] 3)) := (Below.refl _ w).alloc (Nat.le_refl _) _
  have HB0 := Lib.hid hb0; clear hb0
  have Hown0 := Lib.hid (show (w.alloc (.cells #[] 3)).ownsRow w.heap.size 3 1 (.slice (some ⟨w.heap.size, 0, none⟩) 0 0) 0 [] from ⟨by simp, .inr ⟨w.heap.size, 0, #[], rfl, Nat.le_refl _, heap_alloc_new w _, Nat.le_refl _, by unfold maxLen; omega, rfl, rfl⟩⟩)
  have Hend := Lib.hid (show ∀ xs w' v, w'.ownsRow w.heap.size 3 1 v xs.length (xs.map (Value.int .i64)) → Below w.heap.size w w' → IntsOut xs w (.returned v) w' from fun xs w' v h hb => by
    by_cases hx : xs = []
    · subst hx
      obtain ⟨_, h2⟩ := h
      rcases h2 with ⟨rfl, _⟩ | ⟨g, cap, cur, rfl, hg, hh, hc, _⟩
      · exact ⟨none, 0, rfl, Nat.le_refl _, fun h => absurd rfl h, fun j hj => by (obtain ⟨o, ho⟩ := hj; cases ho), hb⟩
      · exact ⟨_, cap, rfl, Nat.zero_le _, fun h => absurd rfl h, fun j hj => by (obtain ⟨o, ho⟩ := hj; cases ho; exact ⟨hg, (Array.getElem?_eq_some_iff.1 hh).1⟩), hb⟩
    · obtain ⟨g, cap, rfl⟩ : ∃ g cap, v = .slice (some ⟨g, 0, none⟩) xs.length cap := by
        obtain ⟨_, h2⟩ := h
        rcases h2 with ⟨rfl, h0⟩ | ⟨g, cap, cur, rfl, _⟩
        · exact absurd (List.eq_nil_of_length_eq_zero h0) hx
        · exact ⟨g, cap, rfl⟩
      obtain ⟨o1, o2, o3, o4⟩ := own_out h
      exact ⟨_, cap, rfl, o1, o4, fun j hj => by (obtain ⟨o, ho⟩ := hj; cases ho; exact ⟨o2, o3⟩), hb⟩)
  cases hz : validR n l with
  | false =>
    have Hx := Lib.hid (show needOf n l = [] by unfold needOf; rw [hz]; rfl)
    have Hz := Lib.hid hz; clear hz
    by_cases h0 : 0 < l.length
    · have h0' : (0 : Int) < (l.length : Int) := by omega
      go_enter Try.func23, Try.ntmps23
      go_wp2
      go_loopw [5, 6] (fun v i wr => v = .slice (some ⟨w.heap.size, 0, none⟩) 0 0 ∧ i = .int .i64 0 ∧ wr = w.alloc (.cells #[] 3)) (fun _ _ _ => 0)
      case atStart => exact ⟨rfl, rfl, rfl⟩
      case round =>
        obtain ⟨rfl, rfl, rfl⟩ := hrel
        go_wp2_with fail
        refine (Hval.out _ HB0.out).mono ?_; rintro e w1 ⟨rfl, hb1⟩
        have HB1 := Lib.hid (HB0.out.trans (hb1.mono HB0.out.size))
        have Hown1 := Lib.hid (own_below Hown0.out hb1)
        clear hb1
        rw [Hz.out]
        go_wp2
        go_ret
        rw [Hx.out]
        exact Hend.out [] _ _ Hown1.out HB1.out
    · have h0' : ¬ (0 : Int) < (l.length : Int) := by omega
      go_enter Try.func23, Try.ntmps23
      go_wp2
      go_loopw [5, 6] (fun v i wr => v = .slice (some ⟨w.heap.size, 0, none⟩) 0 0 ∧ i = .int .i64 0 ∧ wr = w.alloc (.cells #[] 3)) (fun _ _ _ => 0)
      case atStart => exact ⟨rfl, rfl, rfl⟩
      case round =>
        obtain ⟨rfl, rfl, rfl⟩ := hrel
        go_wp2
        go_ret
        rw [Hx.out]
        exact Hend.out [] _ _ Hown0.out HB0.out
  | true =>
    have Hx := Lib.hid (show needOf n l = needTo n l l.length by unfold needOf; rw [hz]; rfl)
    have h16 := (validR_iff.1 hz).1.2.2
    have Hz := Lib.hid hz; clear hz
    go_enter Try.func23, Try.ntmps23
    go_wp2
    go_loopw [5, 6] (fun v i wr => NsRel n l w v i wr) (fun _ i _ => l.length - (intOf i).toNat)
    case atStart => exact ⟨0, Nat.zero_le _, rfl, Hown0.out, HB0.out⟩
    case round =>
      obtain ⟨k, hk, rfl, hown, hbel⟩ := hrel
      by_cases hlt : k < l.length
      · have hlt' : (k : Int) < (l.length : Int) := by omega
        have hne : l ≠ [] := by rintro rfl; simp at hlt
        go_wp2_with fail
        refine (Hval.out _ hbel).mono ?_; rintro e w1 ⟨rfl, hb1⟩
        have HB2 := Lib.hid ((hbel.trans (hb1.mono hbel.size)).drew)
        have HBy := Lib.hid (hb1.drew)
        clear hb1 hbel
        generalize hwd : w1.drew = w2 at *
        have Hwd := Lib.hid hwd; clear hwd
        have Hna := Lib.hid (headR_news (Hv.out.below HB2.out) (show k ≤ l.length by omega) (Nat.le_refl _))
        have Hnb := Lib.hid (tailR_news (Hv.out.below HB2.out) (show k + 1 ≤ l.length by omega) (Nat.le_refl _))
        have hsa : ∀ wx, (Instr.slice 26 (.slice (some ⟨b, 0, none⟩) l.length l.length) none (some (.int .i64 (k : Int))) none).run Try.prog wx = .ok (.slice (some ⟨b, 0, none⟩) k l.length) wx := fun wx => by
          rw [run_slice_h wx 26 (some ⟨b, 0, none⟩) l.length l.length rfl .i64 (k : Int) (by omega) (by omega), ← headR_is]; rfl
        have hsb : ∀ wx, (Instr.slice 26 (.slice (some ⟨b, 0, none⟩) l.length l.length) (some (.int .i64 ((k : Int) + 1))) none none).run Try.prog wx = .ok (.slice (some (tailR b l.length (k + 1))) (l.length - (k + 1)) (l.length - (k + 1))) wx := fun wx => by
          rw [run_slice_l wx 26 (some ⟨b, 0, none⟩) l.length l.length rfl .i64 ((k : Int) + 1) (by omega) (by omega), ← tailR_is]; rfl
        have hwr : IntKind.i64.wrap ((k : Int) + 1) = (k : Int) + 1 := IntWalk.i64_in _ (by omega)
        generalize tailR b l.length (k + 1) = at_ at *
        have HK0 := Lib.hid (Mk.start w2 w2.heap.size 30 3 (Nat.le_refl _))
        obtain ⟨xs, hxs⟩ : ∃ xs, l.take k ++ l.drop (k + 1) = xs := ⟨_, rfl⟩
        have Hxs := Lib.hid hxs; clear hxs
        have Hve := Lib.hid (show validR n xs = true by rw [← Hxs.out]; exact valid_erase Hz.out k)
        have Hxl := Lib.hid (show xs.length ≤ 1048576 by rw [← Hxs.out]; simp; omega)
        have Hrow := Lib.hid (show ∀ v w', (∀ v' n' xs', some (v, 0 + k + (l.length - (k + 1)), [] ++ encRz (l.take k) ++ encRz (l.drop (k + 1))) = some (v', n', xs') → w'.ownsRow w2.heap.size 30 3 v' n' xs') → RowRz w' w2.heap.size v xs from fun v w' h => by
          have h1 := h _ _ _ rfl
          rw [Nat.zero_add, List.nil_append] at h1
          rw [← Hxs.out]
          refine RowRz.more ?_
          rw [List.length_take, List.length_drop, Nat.min_eq_left (by omega)]
          exact h1)
        rw [show validR n l = true from Hz.out]
        go_wp2
        refine wp_region_any (by kernel_rfl) ?_
        change wpAny _ _ _ _ 11 #[false, false, false, false, false, false, false, false, false, false, false] _ (World.drew _)
        refine with_Q (fun _ _ _ _ _ h => h) (fun Q hQ hN => ?_)
        rw [Hwd.out]
        refine take_op (i := 1) (d := 21) (v := .slice (some ⟨b, 0, none⟩) l.length l.length) rfl rfl (by kernel_rfl) (by kernel_rfl) (by kernel_rfl) hQ (Or.inl ⟨by rfl, fun _ => by first | rfl | (go_simp; done) | (go_simp; rfl)⟩) ?_
        simp only [Act.put, List.setIfInBounds_toArray, List.set_cons_zero, List.set_cons_succ]
        refine take_op (i := 2) (d := 22) (v := .int .i64 (k : Int)) rfl rfl (by kernel_rfl) (by kernel_rfl) (by kernel_rfl) hQ (Or.inl ⟨by rfl, fun _ => by first | rfl | (go_simp; done) | (go_simp; rfl)⟩) ?_
        simp only [Act.put, List.setIfInBounds_toArray, List.set_cons_zero, List.set_cons_succ]
        refine take_op (i := 3) (d := 23) (v := .slice (some ⟨b, 0, none⟩) k l.length) rfl rfl (by kernel_rfl) (by kernel_rfl) (by kernel_rfl) hQ (Or.inl ⟨by rfl, fun _ => by first | rfl | (go_simp; done) | (go_simp; rfl)⟩) ?_
        simp only [Act.put, List.setIfInBounds_toArray, List.set_cons_zero, List.set_cons_succ]
        refine take_op (i := 5) (d := 25) (v := .slice (some ⟨b, 0, none⟩) l.length l.length) rfl rfl (by kernel_rfl) (by kernel_rfl) (by kernel_rfl) hQ (Or.inl ⟨by rfl, fun _ => by first | rfl | (go_simp; done) | (go_simp; rfl)⟩) ?_
        simp only [Act.put, List.setIfInBounds_toArray, List.set_cons_zero, List.set_cons_succ]
        refine take_op (i := 6) (d := 26) (v := .int .i64 (k : Int)) rfl rfl (by kernel_rfl) (by kernel_rfl) (by kernel_rfl) hQ (Or.inl ⟨by rfl, fun _ => by first | rfl | (go_simp; done) | (go_simp; rfl)⟩) ?_
        simp only [Act.put, List.setIfInBounds_toArray, List.set_cons_zero, List.set_cons_succ]
        refine take_op (i := 7) (d := 27) (v := .int .i64 ((k : Int) + 1)) rfl rfl (by kernel_rfl) (by kernel_rfl) (by kernel_rfl) hQ (Or.inl ⟨by rfl, fun _ => by first | rfl | (go_simp; done) | (go_simp; rfl)⟩) ?_
        simp only [Act.put, List.setIfInBounds_toArray, List.set_cons_zero, List.set_cons_succ]
        refine take_op (i := 8) (d := 28) (v := .slice (some at_) (l.length - (k + 1)) (l.length - (k + 1))) rfl rfl (by kernel_rfl) (by kernel_rfl) (by kernel_rfl) hQ (Or.inl ⟨by rfl, fun _ => by first | rfl | (go_simp; done) | (go_simp; rfl)⟩) ?_
        simp only [Act.put, List.setIfInBounds_toArray, List.set_cons_zero, List.set_cons_succ]
        refine wpAny_ready (rs := [0]) (by kernel_rfl) (by simp) ?_
        refine AllReady.cons rfl (fun K hK => ?_) AllReady.nil
        go_simp
        refine hK _ _ ?_
        try simp only [Act.put, List.setIfInBounds_toArray, List.set_cons_zero, List.set_cons_succ]
        have hk1 := Mk.zero HK0.out
        generalize World.alloc w2 (.cells #[] 30) = wz1 at *
        clear hK K
        refine wpAny_ready (rs := [4]) (by kernel_rfl) (by simp) ?_
        refine AllReady.cons rfl (fun K hK => ?_) AllReady.nil
        refine step_app hk1 (by rfl) _ _ 26 (by rfl) i1 _ 24 Try.underlying26 hi1 hy0 hy1 hy2 rfl (by omega) (by rfl) ⟨b, 0, none⟩ k l.length (encRz (l.take k)) (by rfl) (by rw [encRz_len, List.length_take]; simp only [Nat.min_eq_left (Nat.le_of_lt hlt)]) (Hna.out _ hk1.bel) (encRz_one _) (by simp only [maxLen]; omega) (by omega) ?_
        intro va2 wz2 hk2 hn2
        change K (Act.put _ (some 24) va2) wz2
        refine hK _ _ ?_
        try simp only [Act.put, List.setIfInBounds_toArray, List.set_cons_zero, List.set_cons_succ]
        clear hK K
        refine wpAny_ready (rs := [9]) (by kernel_rfl) (by simp) ?_
        refine AllReady.cons rfl (fun K hK => ?_) AllReady.nil
        refine step_app hk2 (by rfl) _ _ 26 (by rfl) i1 _ 24 Try.underlying26 hi1 hy0 hy1 hy2 rfl (by omega) (by rfl) at_ (l.length - (k + 1)) (l.length - (k + 1)) (encRz (l.drop (k + 1))) (by rfl) (by rw [encRz_len, List.length_drop]) (Hnb.out _ hk2.bel) (encRz_one _) (by simp only [maxLen]; omega) (by omega) ?_
        intro va3 wz3 hk3 hn3
        change K (Act.put _ (some 29) va3) wz3
        refine hK _ _ ?_
        try simp only [Act.put, List.setIfInBounds_toArray, List.set_cons_zero, List.set_cons_succ]
        clear hK K
        refine take_op (i := 10) (d := 7) (v := va3) rfl rfl (by kernel_rfl) (by kernel_rfl) (by kernel_rfl) hQ (Or.inl ⟨by rfl, fun _ => by first | rfl | (go_simp; done) | (go_simp; rfl)⟩) ?_
        simp only [Act.put, List.setIfInBounds_toArray, List.set_cons_zero, List.set_cons_succ]
        refine wpAny_done (by kernel_rfl) (hN _ _ ?_) _
        have HF := Lib.hid (Hrow.out _ _ hk3.own)
        have HB := Lib.hid hk3.bel
        clear hn2 hn3 hk2 hk3
        obtain ⟨adv, capv, rfl, hcv, hov, hblk⟩ := HF.out.row
        have HR := Lib.hid (hov.ins hcv).roads
        have HBX := Lib.hid (HB2.out.trans (Below.mono HB.out HB2.out.size))
        have hat2 := (Hat.out.1.below HBX.out (Hat.out.2 hne)) k hlt
        obtain ⟨c0, c1, _⟩ := hat2
        rw [Nat.zero_add] at c0 c1
        have Hown3 := Lib.hid (own_below (own_below hown (HBy.out)) (Below.mono HB.out (Nat.le_refl _)))
        clear hcv hov hblk
        cases hnd : needB n l k with
        | false =>
          have HFar := Lib.hid (show 0 ≤ farOf n xs (l.getD k rd0).a (l.getD k rd0).b from far_pos Hve.out (by unfold needB at hnd; rw [Hxs.out] at hnd; simpa using hnd))
          have Hns := Lib.hid (show needTo n l (k + 1) = needTo n l k by rw [needTo_succ, hnd]; rfl)
          clear hnd
          generalize (l.getD k rd0).a = ra at *
          generalize (l.getD k rd0).b = rb at *
          have hfp := HFar.out
          have HC := Lib.hid (fun w' (h : RoadsIn w' (.slice adv xs.length capv) xs) => specFar_any n _ xs ra rb w' h Hxl.out)
          generalize farOf n xs ra rb = fv at *
          have hnp : ¬ fv < 0 := by omega
          clear hfp
          have k0 := c0
          have k1 := c1
          go_wp2
          go_region_held3 (fun w' => w'.cell? ⟨b, k * 3, none⟩ = some (.int .i64 ra) ∧ w'.cell? ⟨b, k * 3 + 1, none⟩ = some (.int .i64 rb)) (first | (go_keep; done) | exact ⟨c0, c1⟩ | exact ⟨(hb7.cell (p := ⟨b, k * 3, none⟩) (World.block_lt_of_cell? _ _ c0)).trans c0, (hb7.cell (p := ⟨b, k * 3 + 1, none⟩) (World.block_lt_of_cell? _ _ c1)).trans c1⟩)
            (first | (go_at_call 36; refine (HC.out _ (HR.out.below ((Below.refl _ _).drew))).mono ?_; rintro e w7 ⟨rfl, hb7'⟩; have hb7 := ((Below.refl _ _).drew).trans hb7'))
          have Hb7 := Lib.hid hb7
          clear hb7 hb7'
          go_wp2
          exact ⟨⟨k + 1, hlt, by go_num, by rw [Hns.out]; exact own_below Hown3.out Hb7.out, HBX.out.trans (Hb7.out.mono HBX.out.size)⟩, by simp [intOf]; omega⟩
        | true =>
          have HFar := Lib.hid (show farOf n xs (l.getD k rd0).a (l.getD k rd0).b = -1 from far_neg (.inr (by unfold needB at hnd; rw [Hxs.out] at hnd; simpa using hnd)))
          have Hns := Lib.hid (show needTo n l (k + 1) = needTo n l k ++ [(k : Int)] by rw [needTo_succ, hnd]; rfl)
          clear hnd
          generalize (l.getD k rd0).a = ra at *
          generalize (l.getD k rd0).b = rb at *
          have HC := Lib.hid (fun w' (h : RoadsIn w' (.slice adv xs.length capv) xs) => specFar_any n _ xs ra rb w' h Hxl.out)
          rw [HFar.out] at HC
          have hnl := needTo_len n l k
          go_wp2
          go_region_held3 (fun w' => w'.cell? ⟨b, k * 3, none⟩ = some (.int .i64 ra) ∧ w'.cell? ⟨b, k * 3 + 1, none⟩ = some (.int .i64 rb)) (first | (go_keep; done) | exact ⟨c0, c1⟩ | exact ⟨(hb7.cell (p := ⟨b, k * 3, none⟩) (World.block_lt_of_cell? _ _ c0)).trans c0, (hb7.cell (p := ⟨b, k * 3 + 1, none⟩) (World.block_lt_of_cell? _ _ c1)).trans c1⟩)
            (first | (go_at_call 36; refine (HC.out _ (HR.out.below ((Below.refl _ _).drew))).mono ?_; rintro e w7 ⟨rfl, hb7'⟩; have hb7 := ((Below.refl _ _).drew).trans hb7'))
          have Hb7 := Lib.hid hb7
          clear hb7 hb7'
          have own3 := own_below Hown3.out Hb7.out
          have HB7 := Lib.hid (HBX.out.trans (Hb7.out.mono HBX.out.size))
          have hsz7 := HB7.out.size
          go_wp2_with (at_builtin; refine wpList_append_own _ rfl _ _ 37 rfl w.heap.size 3 i0 (.int .i64 0) 1 8 Try.underlying37 hi hz0 hz1 hz2 rfl (by decide) _ _ _ rfl (own3.alloc _) ⟨w7.heap.size, 0, none⟩ 1 1 [.int .i64 k] rfl rfl (cell_one_new _ _ _) (by simp [Value.oneCell']) (by simp only [maxLen]; omega) (by omega) (by simp; omega) ?_; intro v' w8 hown8 hgrow _)
          have HB8 := Lib.hid ((HB7.out.alloc HB7.out.size _).grown hgrow (by simp; omega) (fun j hj => (own3.lt j hj).1))
          have Hown8 := Lib.hid (show w8.ownsRow w.heap.size 3 1 v' (needTo n l k ++ [(k : Int)]).length ((needTo n l k ++ [(k : Int)]).map (Value.int .i64)) by rw [List.map_append, List.length_append]; exact hown8)
          clear hown8 hgrow own3
          go_wp2
          exact ⟨⟨k + 1, hlt, by go_num, by rw [Hns.out]; exact Hown8.out, HB8.out⟩, by simp [intOf]; omega⟩
      · have hkl : l.length = k := by omega
        have HO := Lib.hid (Hend.out _ _ _ hown hbel)
        have Hkl := Lib.hid hkl; clear hkl hown hbel
        go_wp2
        go_ret
        rw [Hx.out, Hkl.out]
        exact HO.out

end Go.Proofs.Ytnlhnibhgpelfaa
