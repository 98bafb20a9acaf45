/- RoadsClose of the model. -/
import Derived.Test.YtnlhnibhgpelfaaRKS
namespace Go.Proofs.Ytnlhnibhgpelfaa
open Go.RowKit

/-- The address behind the first f of n roads, as s[f:] has it. -/
def tailR (b n f : Nat) : Addr := if n = f then ⟨b, 0, none⟩ else ⟨b, f * 3, none⟩
theorem tailR_is (b n f : Nat) : sliced (some ⟨b, 0, none⟩) f n n 3 = .slice (some (tailR b n f)) (n - f) (n - f) := by
  unfold sliced tailR
  by_cases h : n = f
  · rw [if_pos h, if_pos h]
  · rw [if_neg h, if_neg h]
    simp [Addr.add]
    intro h0; exact h0.symm
theorem headR_is (b n f : Nat) : sliced (some ⟨b, 0, none⟩) 0 f n 3 = .slice (some ⟨b, 0, none⟩) f n := by
  unfold sliced
  split <;> simp [Addr.add]
theorem RzIn.at0 {w : World} {b cap : Nat} {l : List Rz} (h : RzIn w (.slice (some ⟨b, 0, none⟩) l.length cap) l) : RzAt w b 0 l ∧ (l ≠ [] → b < w.heap.size) := by
  obtain ⟨a, c, he, _, ha⟩ := h
  by_cases hl : l = []
  · subst hl; exact ⟨fun i hi => by simp at hi, fun h => absurd rfl h⟩
  · obtain ⟨b', o, rfl, hlt, hr⟩ := ha hl
    cases he
    exact ⟨hr, fun _ => hlt⟩
theorem headR_news {w : World} {b cap : Nat} {l : List Rz} (h : RzIn w (.slice (some ⟨b, 0, none⟩) l.length cap) l) {k : Nat} (hk : k ≤ l.length) {B : Nat} (hB : w.heap.size ≤ B) : ∀ w', Below B w w' → ∀ j u, (encRz (l.take k))[j]? = some u → w'.cell? ((⟨b, 0, none⟩ : Addr).add j) = some u := fun w' hb j u hj => by
  obtain ⟨hat, hlt⟩ := h.at0
  have hl : l ≠ [] := by rintro rfl; simp [encRz] at hj
  rw [hb.cell (p := (⟨b, 0, none⟩ : Addr).add j) (by rw [addr_blk]; exact Nat.lt_of_lt_of_le (hlt hl) hB)]
  have h1 := hat.news (f := 0) (n := k) (by omega)
  rw [Nat.zero_mul, List.drop_zero] at h1
  exact h1 j u hj
theorem tailR_news {w : World} {b cap : Nat} {l : List Rz} (h : RzIn w (.slice (some ⟨b, 0, none⟩) l.length cap) l) {f : Nat} (hf : f ≤ l.length) {B : Nat} (hB : w.heap.size ≤ B) : ∀ w', Below B w w' → ∀ j u, (encRz (l.drop f))[j]? = some u → w'.cell? ((tailR b l.length f).add j) = some u := fun w' hb j u hj => by
  obtain ⟨hat, hlt⟩ := h.at0
  have hl : l ≠ [] := by rintro rfl; simp [encRz] at hj
  by_cases e : l.length = f
  · rw [List.drop_eq_nil_of_le (by omega)] at hj; simp [encRz] at hj
  · have h1 := hat.news (f := f) (n := l.length - f) (by omega)
    have e2 : (l.drop f).take (l.length - f) = l.drop f := List.take_of_length_le (by simp)
    rw [e2, Nat.zero_add] at h1
    unfold tailR
    rw [if_neg e, hb.cell (p := (⟨b, f * 3, none⟩ : Addr).add j) (by rw [addr_blk]; exact Nat.lt_of_lt_of_le (hlt hl) hB)]
    exact h1 j u hj

theorem RzOut.no {w w' : World} (hs : w.heap.size ≤ w'.heap.size) (hb : Below w.heap.size w w') : RzOut [] false w (.returned (.tuple #[.slice (some ⟨w'.heap.size, 0, none⟩) 0 0, .bool false])) (w'.alloc (.cells #[] 30)) := (RzRow.no hs hb).out

set_option maxRecDepth 100000 in
set_option maxHeartbeats 1000000 in
theorem close1_any (n : Int) (b : Nat) (l : List Rd) (x y : Int) (w : World) (hv : RzIn w (.slice (some ⟨b, 0, none⟩) l.length l.length) l) (hm : l.length ≤ 1048576) :
    Calls Try.prog 21 #[.int .i64 n, .slice (some ⟨b, 0, none⟩) l.length l.length, .int .i64 x, .int .i64 y] w (RzOut (closeR n l x y) (closeOk n l x y) w) := by
  obtain ⟨i0, hi0, hz0, hz1, hz2⟩ := info_parts infoRz
  have Hv := Lib.hid hv; clear hv
  have Hd := Lib.hid (specDirect_any n _ l x y w Hv.out.roads hm)
  by_cases hd : directOf n l x y < 0
  · have HOK := Lib.hid (show closeOk n l x y = false by unfold closeOk; simp; omega)
    have HL := Lib.hid (show closeR n l x y = [] from if_neg (by rw [HOK.out]; simp))
    go_enter Try.func21, Try.ntmps21
    go_wp2_with fail
    refine (Hd.out).mono ?_; rintro e w1 ⟨rfl, hb1⟩
    have HB1 := Lib.hid hb1; clear hb1
    go_wp2
    go_ret2
    rw [HOK.out, HL.out]
    exact RzOut.no HB1.out.size HB1.out
  · have HOK1 := Lib.hid (show closeOk n l x y = true by unfold closeOk; simp; omega)
    have HL := Lib.hid (show closeR n l x y = closeL l x y l.length from if_pos HOK1.out)
    have hz : validR n l = true := by
      unfold directOf at hd; split at hd
      · assumption
      · omega
    have hed : ∃ m, edge l x y = some m := by
      unfold directOf at hd; rw [if_pos hz] at hd
      cases he : edge l x y with
      | none => rw [he] at hd; simp at hd
      | some m => exact ⟨m, rfl⟩
    have Hed := Lib.hid hed; have Hz := Lib.hid hz; clear hed hz
    have Hf := Lib.hid (fun w' (h : Below w.heap.size w w') => l1Find_any _ l x y w' (Hv.out.below h).roads hm)
    go_enter Try.func21, Try.ntmps21
    go_wp2_with fail
    refine (Hd.out).mono ?_; rintro e w1 ⟨rfl, hb1⟩
    have HB1 := Lib.hid hb1; clear hb1
    go_wp2_with fail
    refine (Hf.out _ HB1.out).mono ?_; rintro e w2 ⟨hfo, hw2⟩
    obtain rfl : w1 = w2 := hw2
    rcases hfo with ⟨k, hk, hh, he, hn, rfl⟩ | ⟨he, _, _⟩
    case inr => obtain ⟨m, hm'⟩ := Hed.out; rw [he] at hm'; cases hm'
    have HOK := Lib.hid (And.intro (HL.out.trans (close_is Hz.out hk hn hh)) HOK1.out)
    clear hh he hn
    have HB2 := Lib.hid HB1.out.drew
    generalize hwd : w1.drew = w2 at *
    have Hwd := Lib.hid hwd; clear hwd
    have Hna := Lib.hid (headR_news (Hv.out.below HB2.out) (show k ≤ l.length by omega) (Nat.le_refl _))
    have Hnb := Lib.hid (tailR_news (Hv.out.below HB2.out) (show k + 1 ≤ l.length by omega) (Nat.le_refl _))
    have hsa : ∀ wx, (Instr.slice 26 (.slice (some ⟨b, 0, none⟩) l.length l.length) none (some (.int .i64 (k : Int))) none).run Try.prog wx = .ok (.slice (some ⟨b, 0, none⟩) k l.length) wx := fun wx => by
      rw [run_slice_h wx 26 (some ⟨b, 0, none⟩) l.length l.length rfl .i64 (k : Int) (by omega) (by omega), ← headR_is]; rfl
    have hsb : ∀ wx, (Instr.slice 26 (.slice (some ⟨b, 0, none⟩) l.length l.length) (some (.int .i64 ((k : Int) + 1))) none none).run Try.prog wx = .ok (.slice (some (tailR b l.length (k + 1))) (l.length - (k + 1)) (l.length - (k + 1))) wx := fun wx => by
      rw [run_slice_l wx 26 (some ⟨b, 0, none⟩) l.length l.length rfl .i64 ((k : Int) + 1) (by omega) (by omega), ← tailR_is]; rfl
    have hwr : IntKind.i64.wrap ((k : Int) + 1) = (k : Int) + 1 := IntWalk.i64_in _ (by omega)
    generalize tailR b l.length (k + 1) = at_ at *
    have HK0 := Lib.hid (Mk.start w2 w2.heap.size 30 3 (Nat.le_refl _))
    obtain ⟨xs, hxs⟩ : ∃ xs, l.take k ++ l.drop (k + 1) = xs := ⟨_, rfl⟩
    have Hxs := Lib.hid hxs
    rw [hxs] at HOK; clear hxs
    have Hrow := Lib.hid (show ∀ v w', (∀ v' n' xs', some (v, 0 + k + (l.length - (k + 1)), [] ++ encRz (l.take k) ++ encRz (l.drop (k + 1))) = some (v', n', xs') → w'.ownsRow w2.heap.size 30 3 v' n' xs') → RowRz w' w2.heap.size v xs from fun v w' h => by
      have h1 := h _ _ _ rfl
      rw [Nat.zero_add, List.nil_append] at h1
      rw [← Hxs.out]
      refine RowRz.more ?_
      rw [List.length_take, List.length_drop, Nat.min_eq_left (by omega)]
      exact h1)
    go_wp2
    refine wp_region_any (by kernel_rfl) ?_
    change wpAny _ _ _ _ 12 #[false, false, false, false, false, false, false, false, false, false, false, false] _ (World.drew _)
    refine with_Q (fun _ _ _ _ _ h => h) (fun Q hQ hN => ?_)
    rw [Hwd.out]
    refine take_op (i := 1) (d := 23) (v := .slice (some ⟨b, 0, none⟩) l.length l.length) rfl rfl (by kernel_rfl) (by kernel_rfl) (by kernel_rfl) hQ (Or.inl ⟨by rfl, fun _ => by first | rfl | (go_simp; done) | (go_simp; rfl)⟩) ?_
    simp only [Act.put, List.setIfInBounds_toArray, List.set_cons_zero, List.set_cons_succ]
    refine take_op (i := 2) (d := 24) (v := .int .i64 (k : Int)) rfl rfl (by kernel_rfl) (by kernel_rfl) (by kernel_rfl) hQ (Or.inl ⟨by rfl, fun _ => by first | rfl | (go_simp; done) | (go_simp; rfl)⟩) ?_
    simp only [Act.put, List.setIfInBounds_toArray, List.set_cons_zero, List.set_cons_succ]
    refine take_op (i := 3) (d := 25) (v := .slice (some ⟨b, 0, none⟩) k l.length) rfl rfl (by kernel_rfl) (by kernel_rfl) (by kernel_rfl) hQ (Or.inl ⟨by rfl, fun _ => by first | rfl | (go_simp; done) | (go_simp; rfl)⟩) ?_
    simp only [Act.put, List.setIfInBounds_toArray, List.set_cons_zero, List.set_cons_succ]
    refine take_op (i := 5) (d := 27) (v := .slice (some ⟨b, 0, none⟩) l.length l.length) rfl rfl (by kernel_rfl) (by kernel_rfl) (by kernel_rfl) hQ (Or.inl ⟨by rfl, fun _ => by first | rfl | (go_simp; done) | (go_simp; rfl)⟩) ?_
    simp only [Act.put, List.setIfInBounds_toArray, List.set_cons_zero, List.set_cons_succ]
    refine take_op (i := 6) (d := 28) (v := .int .i64 (k : Int)) rfl rfl (by kernel_rfl) (by kernel_rfl) (by kernel_rfl) hQ (Or.inl ⟨by rfl, fun _ => by first | rfl | (go_simp; done) | (go_simp; rfl)⟩) ?_
    simp only [Act.put, List.setIfInBounds_toArray, List.set_cons_zero, List.set_cons_succ]
    refine take_op (i := 7) (d := 29) (v := .int .i64 ((k : Int) + 1)) rfl rfl (by kernel_rfl) (by kernel_rfl) (by kernel_rfl) hQ (Or.inl ⟨by rfl, fun _ => by first | rfl | (go_simp; done) | (go_simp; rfl)⟩) ?_
    simp only [Act.put, List.setIfInBounds_toArray, List.set_cons_zero, List.set_cons_succ]
    refine take_op (i := 8) (d := 30) (v := .slice (some at_) (l.length - (k + 1)) (l.length - (k + 1))) rfl rfl (by kernel_rfl) (by kernel_rfl) (by kernel_rfl) hQ (Or.inl ⟨by rfl, fun _ => by first | rfl | (go_simp; done) | (go_simp; rfl)⟩) ?_
    simp only [Act.put, List.setIfInBounds_toArray, List.set_cons_zero, List.set_cons_succ]
    refine wpAny_ready (rs := [0]) (by kernel_rfl) (by simp) ?_
    refine AllReady.cons rfl (fun K hK => ?_) AllReady.nil
    go_simp
    refine hK _ _ ?_
    try simp only [Act.put, List.setIfInBounds_toArray, List.set_cons_zero, List.set_cons_succ]
    have hk1 := Mk.zero HK0.out
    generalize World.alloc w2 (.cells #[] 30) = wz1 at *
    clear hK K
    refine wpAny_ready (rs := [4]) (by kernel_rfl) (by simp) ?_
    refine AllReady.cons rfl (fun K hK => ?_) AllReady.nil
    refine step_app hk1 (by rfl) _ _ 26 (by rfl) i0 _ 24 Try.underlying26 hi0 hz0 hz1 hz2 rfl (by omega) (by rfl) ⟨b, 0, none⟩ k l.length (encRz (l.take k)) (by rfl) (by rw [encRz_len, List.length_take]; simp only [Nat.min_eq_left (Nat.le_of_lt hk)]) (Hna.out _ hk1.bel) (encRz_one _) (by simp only [maxLen]; omega) (by omega) ?_
    intro va2 wz2 hk2 hn2
    change K (Act.put _ (some 26) va2) wz2
    refine hK _ _ ?_
    try simp only [Act.put, List.setIfInBounds_toArray, List.set_cons_zero, List.set_cons_succ]
    clear hK K
    refine wpAny_ready (rs := [9]) (by kernel_rfl) (by simp) ?_
    refine AllReady.cons rfl (fun K hK => ?_) AllReady.nil
    refine step_app hk2 (by rfl) _ _ 26 (by rfl) i0 _ 24 Try.underlying26 hi0 hz0 hz1 hz2 rfl (by omega) (by rfl) at_ (l.length - (k + 1)) (l.length - (k + 1)) (encRz (l.drop (k + 1))) (by rfl) (by rw [encRz_len, List.length_drop]) (Hnb.out _ hk2.bel) (encRz_one _) (by simp only [maxLen]; omega) (by omega) ?_
    intro va3 wz3 hk3 hn3
    change K (Act.put _ (some 31) va3) wz3
    refine hK _ _ ?_
    try simp only [Act.put, List.setIfInBounds_toArray, List.set_cons_zero, List.set_cons_succ]
    clear hK K
    refine take_op (i := 10) (d := 8) (v := va3) rfl rfl (by kernel_rfl) (by kernel_rfl) (by kernel_rfl) hQ (Or.inl ⟨by rfl, fun _ => by first | rfl | (go_simp; done) | (go_simp; rfl)⟩) ?_
    simp only [Act.put, List.setIfInBounds_toArray, List.set_cons_zero, List.set_cons_succ]
    refine take_op (i := 11) (d := 9) (v := .bool true) rfl rfl (by kernel_rfl) (by kernel_rfl) (by kernel_rfl) hQ (Or.inl ⟨by rfl, fun _ => by first | rfl | (go_simp; done) | (go_simp; rfl)⟩) ?_
    simp only [Act.put, List.setIfInBounds_toArray, List.set_cons_zero, List.set_cons_succ]
    refine wpAny_done (by kernel_rfl) (hN _ _ ?_) _
    have HF := Lib.hid (Hrow.out _ _ hk3.own)
    have HB := Lib.hid (HB2.out.trans (Below.mono hk3.bel HB2.out.size))
    obtain ⟨adv, capv, rfl, hcv, hov, hblk⟩ := HF.out.row
    have HO := Lib.hid (And.intro hcv (And.intro hov hblk))
    clear hcv hov hblk
    go_wp2
    go_ret2
    rw [HOK.out.1, HOK.out.2]
    exact ⟨adv, capv, rfl, HO.out.1, HO.out.2.1, fun j hj => ⟨Nat.le_trans HB2.out.size (HO.out.2.2 j hj).1, (HO.out.2.2 j hj).2⟩, HB.out⟩

end Go.Proofs.Ytnlhnibhgpelfaa
