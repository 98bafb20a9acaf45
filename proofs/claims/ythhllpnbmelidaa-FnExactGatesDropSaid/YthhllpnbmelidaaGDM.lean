/- GatesDrop of the model. -/
import Derived.Test.YthhllpnbmelidaaGJ
import Derived.Test.YthhllpnbmelidaaGI
import Derived.Test.YthhllpnbmelidaaGO
import Derived.Test.YthhllpnbmelidaaAP
namespace Go.Proofs.Ythhllpnbmelidaa
open Go.RowKit
set_option linter.unusedVariables false
set_option linter.unusedSimpArgs false

/-- The address behind the first f rows of a slice, as s[f:] has it. -/
def tailG (b o cap f : Nat) : Addr := if cap = f then ⟨b, o, none⟩ else ⟨b, o + f * 3, none⟩
theorem tailG_is (b o n cap f : Nat) : sliced (some ⟨b, o, none⟩) f n cap 3 = .slice (some (tailG b o cap f)) (n - f) (cap - f) := by
  unfold sliced tailG
  by_cases h : cap = f
  · rw [if_pos h, if_pos h]
  · rw [if_neg h, if_neg h]
    simp [Addr.add]
theorem headG_is (b o cap f : Nat) : sliced (some ⟨b, o, none⟩) 0 f cap 3 = .slice (some ⟨b, o, none⟩) f cap := by
  unfold sliced
  split <;> simp [Addr.add]
theorem headG_news {w : World} {b o B : Nat} {l : List Gt} (h : GtAt w b o l) (hb : b < w.heap.size) {k : Nat} (hk : k ≤ l.length) (hB : w.heap.size ≤ B) : ∀ w', Below B w w' → ∀ j u, (encGt (l.take k))[j]? = some u → w'.cell? ((⟨b, o, none⟩ : Addr).add j) = some u := fun w' hbe j u hj => by
  have h1 := (h.below hbe (Nat.lt_of_lt_of_le hb hB)).news (f := 0) (n := k) (by omega)
  rw [Nat.zero_mul, List.drop_zero, Nat.add_zero] at h1
  exact h1 j u hj
theorem tailG_news {w : World} {b o cap B : Nat} {l : List Gt} (h : GtAt w b o l) (hb : b < w.heap.size) (hc : l.length ≤ cap) {f : Nat} (hf : f ≤ l.length) (hB : w.heap.size ≤ B) : ∀ w', Below B w w' → ∀ j u, (encGt (l.drop f))[j]? = some u → w'.cell? ((tailG b o cap f).add j) = some u := fun w' hbe j u hj => by
  by_cases e : cap = f
  · rw [List.drop_eq_nil_of_le (by omega)] at hj; simp [encGt] at hj
  · have h1 := (h.below hbe (Nat.lt_of_lt_of_le hb hB)).news (f := f) (n := l.length - f) (by omega)
    have e2 : (l.drop f).take (l.length - f) = l.drop f := List.take_of_length_le (by simp)
    rw [e2] at h1
    unfold tailG
    rw [if_neg e]
    exact h1 j u hj

set_option maxRecDepth 100000 in
set_option maxHeartbeats 2000000 in
theorem drop1_any (v : Value) (l : List Gt) (x : Int) (w : World) (hv : GtIn w v l) (hm : l.length ≤ 1048576) :
    Calls Try.prog 32 #[v, .int .i64 x] w (GtOut (dropGX l x) (dropGOk l x) w) := by
  obtain ⟨i0, hi0, hz0, hz1, hz2⟩ := info_parts infoGt
  have HV := Lib.hid (gv1_any v l w hv (by omega))
  have hlw : IntKind.i64.wrap ((l.length : Int) - 1) = (l.length : Int) - 1 := IntWalk.i64_in _ (by omega)
  cases hz : validG l with
  | false =>
    have hok : dropGOk l x = false := by unfold dropGOk; rw [hz]; rfl
    have hx : dropGX l x = [] := by unfold dropGX; rw [hok]; rfl
    rw [hok, hx]
    rw [hz] at HV
    obtain ⟨a, cap, rfl, _, _⟩ := hv
    clear hok hx hz
    go_enter Try.func32, Try.ntmps32
    go_wp2_with fail
    refine HV.out.mono ?_; rintro e w1 ⟨rfl, hb1⟩
    have HB1 := Lib.hid hb1
    clear hb1
    go_wp2
    go_ret2
    exact GtOut.no HB1.out.size (by simp) (HB1.out.alloc HB1.out.size _)
  | true =>
    rw [hz] at HV
    cases hin : inB x 0 ((l.length : Int) - 1) with
    | false =>
      have hok : dropGOk l x = false := by unfold dropGOk; rw [hin, hz]; rfl
      have hx : dropGX l x = [] := by unfold dropGX; rw [hok]; rfl
      rw [hok, hx]
      obtain ⟨a, cap, rfl, _, _⟩ := hv
      have Hin := Lib.hid hin
      clear hok hx hz hin
      go_enter Try.func32, Try.ntmps32
      go_wp2_with fail
      refine HV.out.mono ?_; rintro e w1 ⟨rfl, hb1⟩
      have HB1 := Lib.hid hb1
      clear hb1
      go_wp2_with fail
      refine (l6In_any _ _ _ _).mono ?_; rintro e w' ⟨rfl, rfl⟩
      rw [Hin.out]
      go_wp2
      go_ret2
      exact GtOut.no HB1.out.size (by simp) (HB1.out.alloc HB1.out.size _)
    | true =>
      obtain ⟨q0, q1⟩ := (inB_iff _ _ _).1 hin
      obtain ⟨k, rfl⟩ : ∃ k : Nat, x = k := ⟨x.toNat, by omega⟩
      have hk : k < l.length := by omega
      have hok : dropGOk l (k : Int) = true := by unfold dropGOk; rw [hin, hz]; rfl
      have hx : dropGX l (k : Int) = l.take k ++ l.drop (k + 1) := by unfold dropGX; rw [if_pos hok, Int.toNat_natCast]; rfl
      obtain ⟨xs, hxs⟩ : ∃ xs, l.take k ++ l.drop (k + 1) = xs := ⟨_, rfl⟩
      have Hxs := Lib.hid hxs
      have HOK := Lib.hid (And.intro (hx.trans hxs) hok)
      have h10 := (validG_iff.1 hz).1
      obtain ⟨a, cap, rfl, hcap, ha⟩ := hv
      obtain ⟨b, o, rfl, hb0, hat⟩ := ha (by rintro rfl; simp at hk)
      have Hna0 := Lib.hid (fun (w2 : World) (hb : Below w.heap.size w w2) => headG_news (hat.below hb hb0) (Nat.lt_of_lt_of_le hb0 hb.size) (show k ≤ l.length by omega) (Nat.le_refl _))
      have Hnb0 := Lib.hid (fun (w2 : World) (hb : Below w.heap.size w w2) => tailG_news (hat.below hb hb0) (Nat.lt_of_lt_of_le hb0 hb.size) hcap (show k + 1 ≤ l.length by omega) (Nat.le_refl _))
      have Hin := Lib.hid hin
      have hsa : ∀ wx, (Instr.slice 25 (.slice (some ⟨b, o, none⟩) l.length cap) none (some (.int .i64 (k : Int))) none).run Try.prog wx = .ok (.slice (some ⟨b, o, none⟩) k cap) wx := fun wx => by
        rw [run_slice_h wx 25 (some ⟨b, o, none⟩) l.length cap rfl .i64 (k : Int) (by omega) (by omega), ← headG_is]; rfl
      have hsb : ∀ wx, (Instr.slice 25 (.slice (some ⟨b, o, none⟩) l.length cap) (some (.int .i64 ((k : Int) + 1))) none none).run Try.prog wx = .ok (.slice (some (tailG b o cap (k + 1))) (l.length - (k + 1)) (cap - (k + 1))) wx := fun wx => by
        rw [run_slice_l wx 25 (some ⟨b, o, none⟩) l.length cap rfl .i64 ((k : Int) + 1) (by omega) (by omega), ← tailG_is]; rfl
      have hwr : IntKind.i64.wrap ((k : Int) + 1) = (k : Int) + 1 := IntWalk.i64_in _ (by omega)
      clear hok hx hz hin ha hat hxs
      go_enter Try.func32, Try.ntmps32
      go_wp2_with fail
      refine HV.out.mono ?_; rintro e w1 ⟨rfl, hb1⟩
      have HB1 := Lib.hid hb1
      clear hb1
      go_wp2_with fail
      refine (l6In_any _ _ _ _).mono ?_; rintro e w' ⟨rfl, rfl⟩
      rw [Hin.out]
      have HB2 := Lib.hid HB1.out.drew
      generalize hwd : World.drew _ = w2 at *
      have Hwd := Lib.hid hwd; clear hwd
      have Hna := Lib.hid (Hna0.out _ HB2.out)
      have Hnb := Lib.hid (Hnb0.out _ HB2.out)
      generalize tailG b o cap (k + 1) = at_ at *
      have HK0 := Lib.hid (Mk.start w2 w2.heap.size 33 3 (Nat.le_refl _))
      have Hrow := Lib.hid (show ∀ v w', (∀ v' n' xs', some (v, 0 + k + (l.length - (k + 1)), [] ++ encGt (l.take k) ++ encGt (l.drop (k + 1))) = some (v', n', xs') → w'.ownsRow w2.heap.size 33 3 v' n' xs') → RowGt w' w2.heap.size v xs from fun v w' h => by
        have h1 := h _ _ _ rfl
        rw [Nat.zero_add, List.nil_append] at h1
        rw [← Hxs.out]
        refine RowGt.more ?_
        rw [List.length_take, List.length_drop, Nat.min_eq_left (by omega)]
        exact h1)
      go_wp2
      refine wp_region_any (by kernel_rfl) ?_
      change wpAny _ _ _ _ 12 #[false, false, false, false, false, false, false, false, false, false, false, false] _ (World.drew _)
      refine with_Q (fun _ _ _ _ _ h => h) (fun Q hQ hN => ?_)
      rw [Hwd.out]
      refine take_op (i := 1) (d := 19) (v := .slice (some ⟨b, o, none⟩) l.length cap) rfl rfl (by kernel_rfl) (by kernel_rfl) (by kernel_rfl) hQ (Or.inl ⟨by rfl, fun _ => by first | rfl | (go_simp; done) | (go_simp; rfl)⟩) ?_
      simp only [Act.put, List.setIfInBounds_toArray, List.set_cons_zero, List.set_cons_succ]
      refine take_op (i := 2) (d := 20) (v := .int .i64 (k : Nat)) rfl rfl (by kernel_rfl) (by kernel_rfl) (by kernel_rfl) hQ (Or.inl ⟨by rfl, fun _ => by first | rfl | (go_simp; done) | (go_simp; rfl)⟩) ?_
      simp only [Act.put, List.setIfInBounds_toArray, List.set_cons_zero, List.set_cons_succ]
      refine take_op (i := 3) (d := 21) (v := .slice (some ⟨b, o, none⟩) k cap) rfl rfl (by kernel_rfl) (by kernel_rfl) (by kernel_rfl) hQ (Or.inl ⟨by rfl, fun _ => by first | rfl | (go_simp; done) | (go_simp; rfl)⟩) ?_
      simp only [Act.put, List.setIfInBounds_toArray, List.set_cons_zero, List.set_cons_succ]
      refine take_op (i := 5) (d := 23) (v := .slice (some ⟨b, o, none⟩) l.length cap) rfl rfl (by kernel_rfl) (by kernel_rfl) (by kernel_rfl) hQ (Or.inl ⟨by rfl, fun _ => by first | rfl | (go_simp; done) | (go_simp; rfl)⟩) ?_
      simp only [Act.put, List.setIfInBounds_toArray, List.set_cons_zero, List.set_cons_succ]
      refine take_op (i := 6) (d := 24) (v := .int .i64 (k : Nat)) rfl rfl (by kernel_rfl) (by kernel_rfl) (by kernel_rfl) hQ (Or.inl ⟨by rfl, fun _ => by first | rfl | (go_simp; done) | (go_simp; rfl)⟩) ?_
      simp only [Act.put, List.setIfInBounds_toArray, List.set_cons_zero, List.set_cons_succ]
      refine take_op (i := 7) (d := 25) (v := .int .i64 ((k : Int) + 1)) rfl rfl (by kernel_rfl) (by kernel_rfl) (by kernel_rfl) hQ (Or.inl ⟨by rfl, fun _ => by first | rfl | (go_simp; done) | (go_simp; rfl)⟩) ?_
      simp only [Act.put, List.setIfInBounds_toArray, List.set_cons_zero, List.set_cons_succ]
      refine take_op (i := 8) (d := 26) (v := .slice (some at_) (l.length - (k + 1)) (cap - (k + 1))) rfl rfl (by kernel_rfl) (by kernel_rfl) (by kernel_rfl) hQ (Or.inl ⟨by rfl, fun _ => by first | rfl | (go_simp; done) | (go_simp; rfl)⟩) ?_
      simp only [Act.put, List.setIfInBounds_toArray, List.set_cons_zero, List.set_cons_succ]
      refine wpAny_ready (rs := [0]) (by kernel_rfl) (by simp) ?_
      refine AllReady.cons rfl (fun K hK => ?_) AllReady.nil
      go_simp
      refine hK _ _ ?_
      try simp only [Act.put, List.setIfInBounds_toArray, List.set_cons_zero, List.set_cons_succ]
      have hk1 := Mk.zero HK0.out
      generalize World.alloc w2 (.cells #[] 33) = wz1 at *
      clear hK K
      refine wpAny_ready (rs := [4]) (by kernel_rfl) (by simp) ?_
      refine AllReady.cons rfl (fun K hK => ?_) AllReady.nil
      refine step_app hk1 (by rfl) _ _ 25 (by rfl) i0 _ 24 Try.underlying25 hi0 hz0 hz1 hz2 rfl (by omega) (by rfl) ⟨b, o, none⟩ k cap (encGt (l.take k)) (by rfl) (by rw [encGt_len, List.length_take]; simp only [Nat.min_eq_left (Nat.le_of_lt hk)]) (Hna.out _ hk1.bel) (encGt_one _) (by simp only [maxLen]; omega) (by omega) ?_
      intro va2 wz2 hk2 hn2
      change K (Act.put _ (some 22) va2) wz2
      refine hK _ _ ?_
      try simp only [Act.put, List.setIfInBounds_toArray, List.set_cons_zero, List.set_cons_succ]
      clear hK K
      refine wpAny_ready (rs := [9]) (by kernel_rfl) (by simp) ?_
      refine AllReady.cons rfl (fun K hK => ?_) AllReady.nil
      refine step_app hk2 (by rfl) _ _ 25 (by rfl) i0 _ 24 Try.underlying25 hi0 hz0 hz1 hz2 rfl (by omega) (by rfl) at_ (l.length - (k + 1)) (cap - (k + 1)) (encGt (l.drop (k + 1))) (by rfl) (by rw [encGt_len, List.length_drop]) (Hnb.out _ hk2.bel) (encGt_one _) (by simp only [maxLen]; omega) (by omega) ?_
      intro va3 wz3 hk3 hn3
      change K (Act.put _ (some 27) va3) wz3
      refine hK _ _ ?_
      try simp only [Act.put, List.setIfInBounds_toArray, List.set_cons_zero, List.set_cons_succ]
      clear hK K
      refine take_op (i := 10) (d := 4) (v := va3) rfl rfl (by kernel_rfl) (by kernel_rfl) (by kernel_rfl) hQ (Or.inl ⟨by rfl, fun _ => by first | rfl | (go_simp; done) | (go_simp; rfl)⟩) ?_
      simp only [Act.put, List.setIfInBounds_toArray, List.set_cons_zero, List.set_cons_succ]
      refine take_op (i := 11) (d := 5) (v := .bool true) rfl rfl (by kernel_rfl) (by kernel_rfl) (by kernel_rfl) hQ (Or.inl ⟨by rfl, fun _ => by first | rfl | (go_simp; done) | (go_simp; rfl)⟩) ?_
      simp only [Act.put, List.setIfInBounds_toArray, List.set_cons_zero, List.set_cons_succ]
      refine wpAny_done (by kernel_rfl) (hN _ _ ?_) _
      have HF := Lib.hid (Hrow.out _ _ hk3.own)
      have HB := Lib.hid (HB2.out.trans (Below.mono hk3.bel HB2.out.size))
      obtain ⟨adv, capv, rfl, hcv, hov, hblk⟩ := HF.out.row
      have HO := Lib.hid (And.intro hcv (And.intro hov hblk))
      clear hcv hov hblk
      go_wp2
      go_ret2
      rw [HOK.out.1, HOK.out.2]
      exact ⟨adv, capv, rfl, HO.out.1, HO.out.2.1, fun j hj => ⟨Nat.le_trans HB2.out.size (HO.out.2.2 j hj).1, (HO.out.2.2 j hj).2⟩, HB.out⟩

end Go.Proofs.Ythhllpnbmelidaa
