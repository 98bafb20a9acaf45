/- StopsPart: the program's and the model's. -/
import Derived.Test.YtfdaaeapfeajjaaSQ
import Derived.Test.YtfdaaeapfeajjaaSL
import Derived.Deep.Slices
namespace Go.Proofs.Ytfdaaeapfeajjaa
open Go.RowKit

theorem partOk_yes {n : Int} {l : List Rd} {f t : Nat} (hz : validS n l = true) (h : t < l.length) (hf : f + 1 ≤ t) : partOk n l f t = true := by
  unfold partOk
  rw [hz, (inB_iff _ _ _).2 (by omega), (inB_iff _ _ _).2 (by omega)]; rfl

theorem partOk_no {n : Int} {l : List Rd} {f t : Int} (h : ¬ (validS n l = true ∧ (0 ≤ f ∧ f ≤ (l.length : Int) - 1) ∧ (f + 1 ≤ t ∧ t ≤ (l.length : Int) - 1))) : partOk n l f t = false := by
  rw [Bool.eq_false_iff]
  intro h'
  unfold partOk at h'
  simp only [Bool.and_eq_true, inB_iff] at h'
  exact h ⟨h'.1.1, h'.1.2, h'.2⟩

theorem partL_no {n : Int} {l : List Rd} {f t : Int} (h : partOk n l f t = false) : partL n l f t = [] := by unfold partL; rw [h]; rfl

set_option maxRecDepth 100000 in
set_option maxHeartbeats 1000000 in
theorem part2_any (n : Int) (v : Value) (l : List Rd) (f t : Int) (w : World) (hv : RoadsIn w v l) (hm : l.length ≤ 1048576) :
    Calls Try.prog 16 #[.int .i64 n, v, .int .i64 f, .int .i64 t] w (StopsOut (partL n l f t) (partOk n l f t) w) := by
  have Hc := Lib.hid (ttOf_any n v l w hv hm)
  clear hv
  cases hz : validS n l with
  | false =>
    have hok : partOk n l f t = false := partOk_no (by rw [hz]; simp)
    have Hk := Lib.hid (And.intro hok (partL_no hok))
    have Hz := Lib.hid hz; clear hz hok
    go_enter Try.func16, Try.ntmps16
    go_wp2_with fail
    refine (Hc.out).mono ?_; rintro e w1 ⟨_, h1⟩
    obtain ⟨rfl, hb⟩ := h1 Hz.out
    clear h1
    go_wp2
    go_ret2
    rw [Hk.out.1, Hk.out.2]
    exact StopsOut.no hb.size (by simp) (hb.alloc hb.size _)
  | true =>
    obtain ⟨_, _, l2, l8⟩ := (validS_iff.1 hz).1
    by_cases hf : 0 ≤ f ∧ f ≤ (l.length : Int) - 1
    · have hF : inB f 0 ((l.length : Int) - 1) = true := (inB_iff _ _ _).2 hf
      by_cases ht : 0 ≤ t ∧ t ≤ (l.length : Int) - 1
      · have hT : inB t 0 ((l.length : Int) - 1) = true := (inB_iff _ _ _).2 ht
        obtain ⟨fn, rfl⟩ : ∃ m : Nat, f = m := ⟨f.toNat, by omega⟩
        obtain ⟨tn, rfl⟩ : ∃ m : Nat, t = m := ⟨t.toNat, by omega⟩
        have htl : tn < l.length := by omega
        have HP : Hid ((validS n (partTo l fn tn l.length) = true → partOk n l fn tn = true ∧ partL n l fn tn = partTo l fn tn l.length) ∧ (validS n (partTo l fn tn l.length) = false → partOk n l fn tn = false)) := by
          refine Lib.hid ?_
          by_cases hft : fn + 1 ≤ tn
          · have hok := partOk_yes hz htl hft
            have hv := part_valid hz htl hft
            refine ⟨fun _ => ⟨hok, ?_⟩, (fun h => by rw [hv] at h; cases h)⟩
            unfold partL; rw [if_pos hok]; rfl
          · have hv := part_short (n := n) htl hft
            exact ⟨(fun h => by rw [hv] at h; cases h), fun _ => partOk_no (by omega)⟩
        have HF := Lib.hid hF
        have HT := Lib.hid hT
        have Hz := Lib.hid hz; clear hz hF hT hf ht
        have hple := partTo_le l fn tn l.length
        have Hple := Lib.hid hple; clear hple
        go_enter Try.func16, Try.ntmps16
        go_wp2_with fail
        refine (Hc.out).mono ?_; rintro e w1 ⟨h1, _⟩
        obtain ⟨tb, hs, rfl, htt, _, hb⟩ := h1 Hz.out
        clear h1
        have Htt := Lib.hid htt; clear htt
        go_wp2_with fail
        refine (has_any tb hs l fn _ Htt.out l8 (by omega)).mono ?_; rintro e w' ⟨rfl, rfl⟩
        rw [HF.out]
        go_wp2_with fail
        refine (has_any tb hs l tn _ Htt.out l8 (by omega)).mono ?_; rintro e w' ⟨rfl, rfl⟩
        rw [HT.out]
        go_wp2_with fail
        refine (part_any tb hs l fn tn _ Htt.out l8).mono ?_; rintro e w2 ⟨ad, cap, rfl, hrd, hblk, hb2⟩
        have Hrd := Lib.hid hrd
        have Hblk := Lib.hid hblk
        clear hrd hblk
        have hbb := hb.trans (hb2.mono hb.size)
        go_wp2_with fail
        refine (ifT_any n ad cap (partTo l fn tn l.length) _ Hrd.out.ins (by have := Hple.out; omega)).mono ?_
        rintro e w3 ⟨hb3, ⟨hv, rfl⟩ | ⟨hv, g, hg1, hg2, rfl⟩⟩
        · have Hk := Lib.hid (HP.out.1 hv)
          clear hv
          go_wp2
          go_ret2
          rw [Hk.out.1, Hk.out.2]
          exact ⟨ad, cap, rfl, Hrd.out.below hb3, fun j hj => ⟨Nat.le_trans hb.size (Hblk.out j hj).1, Nat.lt_of_lt_of_le (Hblk.out j hj).2 hb3.size⟩, hbb.trans (hb3.mono hbb.size)⟩
        · have hok := HP.out.2 hv
          have Hk := Lib.hid (And.intro hok (partL_no hok))
          clear hv hok
          go_wp2
          go_ret2
          rw [Hk.out.1, Hk.out.2]
          exact StopsOut.no (Nat.le_trans hbb.size hg1) hg2 (hbb.trans (hb3.mono hbb.size))
      · have hT : inB t 0 ((l.length : Int) - 1) = false := inB_no ht
        have hok : partOk n l f t = false := partOk_no (by omega)
        have Hk := Lib.hid (And.intro hok (partL_no hok))
        have HF := Lib.hid hF
        have HT := Lib.hid hT
        have Hz := Lib.hid hz; clear hz hF hT hf ht hok
        go_enter Try.func16, Try.ntmps16
        go_wp2_with fail
        refine (Hc.out).mono ?_; rintro e w1 ⟨h1, _⟩
        obtain ⟨tb, hs, rfl, htt, _, hb⟩ := h1 Hz.out
        clear h1
        have Htt := Lib.hid htt; clear htt
        go_wp2_with fail
        refine (has_any tb hs l f _ Htt.out l8 (by omega)).mono ?_; rintro e w' ⟨rfl, rfl⟩
        rw [HF.out]
        go_wp2_with fail
        refine (has_any tb hs l t _ Htt.out l8 (by omega)).mono ?_; rintro e w' ⟨rfl, rfl⟩
        rw [HT.out]
        go_wp2
        go_ret2
        rw [Hk.out.1, Hk.out.2]
        exact StopsOut.no hb.size (by simp) (hb.alloc hb.size _)
    · have hF : inB f 0 ((l.length : Int) - 1) = false := inB_no hf
      have hok : partOk n l f t = false := partOk_no (by omega)
      have Hk := Lib.hid (And.intro hok (partL_no hok))
      have HF := Lib.hid hF
      have Hz := Lib.hid hz; clear hz hF hf hok
      go_enter Try.func16, Try.ntmps16
      go_wp2_with fail
      refine (Hc.out).mono ?_; rintro e w1 ⟨h1, _⟩
      obtain ⟨tb, hs, rfl, htt, _, hb⟩ := h1 Hz.out
      clear h1
      have Htt := Lib.hid htt; clear htt
      go_wp2_with fail
      refine (has_any tb hs l f _ Htt.out l8 (by omega)).mono ?_; rintro e w' ⟨rfl, rfl⟩
      rw [HF.out]
      go_wp2
      go_ret2
      rw [Hk.out.1, Hk.out.2]
      exact StopsOut.no hb.size (by simp) (hb.alloc hb.size _)

theorem encR_one (l : List Rd) : ∀ u ∈ encR l, u.oneCell' = true := by
  intro u hu
  unfold encR at hu
  rw [List.mem_flatMap] at hu
  obtain ⟨r, _, hr⟩ := hu
  simp at hr
  rcases hr with rfl | rfl | rfl <;> rfl

theorem addr_off (b o j : Nat) : (⟨b, o, none⟩ : Addr).add j = ⟨b, o + j, none⟩ := by
  unfold Addr.add
  split
  · rename_i h; rw [h]; rfl
  · rfl

theorem part_cells {w : World} {b : Nat} {l : List Rd} {f t : Nat} (hr : RowAt w b 0 l) (ht : t < l.length) :
    ∀ j u, (encR (partTo l f t l.length))[j]? = some u → w.cell? ((⟨b, f * 3, none⟩ : Addr).add j) = some u := by
  intro j u hu
  have hlen := partTo_len l (f := f) ht
  have hj : j < (encR (partTo l f t l.length)).length := (List.getElem?_eq_some_iff.1 hu).1
  rw [encR_len, hlen] at hj
  have hi : j / 3 < t + 1 - f := by omega
  obtain ⟨g0, g1, g2⟩ := encR_get (partTo l f t l.length) (j / 3) (by omega)
  rw [partTo_get l ht hi] at g0 g1 g2
  obtain ⟨c0, c1, c2⟩ := hr (f + j / 3) (by omega)
  rw [addr_off]
  have hm : j % 3 = 0 ∨ j % 3 = 1 ∨ j % 3 = 2 := by omega
  rcases hm with h | h | h
  · have e : j = j / 3 * 3 := by omega
    have e2 : f * 3 + j = 0 + (f + j / 3) * 3 := by omega
    rw [e2, c0]; rw [e] at hu; rw [g0] at hu; exact hu
  · have e : j = j / 3 * 3 + 1 := by omega
    have e2 : f * 3 + j = 0 + (f + j / 3) * 3 + 1 := by omega
    rw [e2, c1]; rw [e] at hu; rw [g1] at hu; exact hu
  · have e : j = j / 3 * 3 + 2 := by omega
    have e2 : f * 3 + j = 0 + (f + j / 3) * 3 + 2 := by omega
    rw [e2, c2]; rw [e] at hu; rw [g2] at hu; exact hu

set_option maxRecDepth 100000 in
set_option maxHeartbeats 1000000 in
theorem part1_cap (l : List Rd) (n : Int) (b cap : Nat) (hc : l.length ≤ cap) (f t : Int) (w : World) (hb : b < w.heap.size) (hr : RowAt w b 0 l) (hm : l.length ≤ 1048576) :
    Calls Try.prog 17 #[.int .i64 n, .slice (some ⟨b, 0, none⟩) l.length cap, .int .i64 f, .int .i64 t] w (StopsOut (partL n l f t) (partOk n l f t) w) := by
  have hv := RoadsIn.row (cap := cap) hb hr
  obtain ⟨i0, hi0, hz0, hz1, hz2⟩ := info_parts stopInfo
  have Hr := Lib.hid hr; clear hr
  cases hz : validS n l with
  | false =>
    have Hc := Lib.hid (valid1_isL n _ l w hv hm hz)
    have hok : partOk n l f t = false := partOk_no (by rw [hz]; simp)
    have Hk := Lib.hid (And.intro hok (partL_no hok))
    clear hz hok hv
    go_enter Try.func17, Try.ntmps17
    go_wp2_with fail
    refine (Hc.out).mono ?_; rintro e w1 ⟨rfl, hb1⟩
    go_wp2
    go_ret2
    rw [Hk.out.1, Hk.out.2]
    exact StopsOut.no hb1.size (by simp) (hb1.alloc hb1.size _)
  | true =>
    have Hc := Lib.hid (valid1_isL n _ l w hv hm hz)
    obtain ⟨_, _, l2, l8⟩ := (validS_iff.1 hz).1
    by_cases hf : 0 ≤ f ∧ f ≤ (l.length : Int) - 1
    · have hF : inB f 0 ((l.length : Int) - 1) = true := (inB_iff _ _ _).2 hf
      by_cases ht : f + 1 ≤ t ∧ t ≤ (l.length : Int) - 1
      · have hT : inB t (f + 1) ((l.length : Int) - 1) = true := (inB_iff _ _ _).2 ht
        obtain ⟨fn, rfl⟩ : ∃ m : Nat, f = m := ⟨f.toNat, by omega⟩
        obtain ⟨tn, rfl⟩ : ∃ m : Nat, t = m := ⟨t.toNat, by omega⟩
        have htl : tn < l.length := by omega
        have htc : tn + 1 ≤ cap := by omega
        have hft : fn + 1 ≤ tn := by omega
        have hok := partOk_yes hz htl hft
        have hL : partL n l fn tn = partTo l fn tn l.length := by unfold partL; rw [if_pos hok]; rfl
        have Hk := Lib.hid (And.intro hok hL)
        have HF := Lib.hid hF
        have HT := Lib.hid hT
        clear hz hF hT hf ht hok hL hv
        go_enter Try.func17, Try.ntmps17
        go_wp2_with fail
        refine (Hc.out).mono ?_; rintro e w1 ⟨rfl, hb1⟩
        go_wp2_with fail
        refine (l6In_any _ _ _ _).mono ?_; rintro e w' ⟨rfl, rfl⟩
        rw [HF.out]
        go_wp2_with fail
        refine (l6In_any _ _ _ _).mono ?_; rintro e w' ⟨rfl, rfl⟩
        rw [HT.out]
        have hbb : Below w.heap.size w (w1.alloc (.cells #[] 35)) := hb1.alloc hb1.size _
        have hcells := part_cells (f := fn) (t := tn) (Hr.out.below hbb hb) htl
        have hown := OwnS.made w1 w.heap.size hb1.size
        unfold OwnS at hown
        have hpl := partTo_len l (f := fn) htl
        have Hpl := Lib.hid hpl; clear hpl
        have hs1 := hbb.size
        go_wp2_with (at_builtin; refine wpList_append_own _ rfl _ _ 23 rfl w.heap.size 35 i0 _ 3 24 Try.underlying23 hi0 hz0 hz1 hz2 rfl (by omega) _ _ (encR []) rfl hown ⟨b, fn * 3, none⟩ (tn + 1 - fn) (cap - fn) (encR (partTo l fn tn l.length)) rfl (by rw [encR_len, Hpl.out]) hcells (encR_one _) (by unfold maxLen; simp; omega) (by simp; omega) hs1 ?_; intro v' w2 hown2 hgrow _)
        have hown3 : OwnS w2 w.heap.size v' (partTo l fn tn l.length) := by
          unfold OwnS
          rw [Hpl.out]
          simpa [encR] using hown2
        have B6 : Below w.heap.size w w2 := hbb.grown hgrow hs1 (fun j hj => (hown.lt j hj).1)
        obtain ⟨ad, cp, rfl, hrd, hblk⟩ := hown3.row
        have Hrd := Lib.hid hrd
        have Hblk := Lib.hid hblk
        clear hown3 hown2 hgrow hown hcells hrd hblk
        go_wp2
        go_ret2
        rw [Hk.out.1, Hk.out.2]
        exact ⟨ad, cp, rfl, Hrd.out, Hblk.out, B6⟩
      · have hT : inB t (f + 1) ((l.length : Int) - 1) = false := inB_no ht
        have hok : partOk n l f t = false := partOk_no (fun h => ht h.2.2)
        have Hk := Lib.hid (And.intro hok (partL_no hok))
        have HF := Lib.hid hF
        have HT := Lib.hid hT
        obtain ⟨hf0, hf1⟩ := hf
        clear hz hF hT ht hok hv
        go_enter Try.func17, Try.ntmps17
        go_wp2_with fail
        refine (Hc.out).mono ?_; rintro e w1 ⟨rfl, hb1⟩
        go_wp2_with fail
        refine (l6In_any _ _ _ _).mono ?_; rintro e w' ⟨rfl, rfl⟩
        rw [HF.out]
        go_wp2_with fail
        refine (l6In_any _ _ _ _).mono ?_; rintro e w' ⟨rfl, rfl⟩
        rw [HT.out]
        go_wp2
        go_ret2
        rw [Hk.out.1, Hk.out.2]
        exact StopsOut.no hb1.size (by simp) (hb1.alloc hb1.size _)
    · have hF : inB f 0 ((l.length : Int) - 1) = false := inB_no hf
      have hok : partOk n l f t = false := partOk_no (fun h => hf h.2.1)
      have Hk := Lib.hid (And.intro hok (partL_no hok))
      have HF := Lib.hid hF
      clear hz hF hf hok hv
      go_enter Try.func17, Try.ntmps17
      go_wp2_with fail
      refine (Hc.out).mono ?_; rintro e w1 ⟨rfl, hb1⟩
      go_wp2_with fail
      refine (l6In_any _ _ _ _).mono ?_; rintro e w' ⟨rfl, rfl⟩
      rw [HF.out]
      go_wp2
      go_ret2
      rw [Hk.out.1, Hk.out.2]
      exact StopsOut.no hb1.size (by simp) (hb1.alloc hb1.size _)

theorem part1_any (n : Int) (b : Nat) (l : List Rd) (f t : Int) (w : World) (hb : b < w.heap.size) (hr : RowAt w b 0 l) (hm : l.length ≤ 1048576) :
    Calls Try.prog 17 #[.int .i64 n, .slice (some ⟨b, 0, none⟩) l.length l.length, .int .i64 f, .int .i64 t] w (StopsOut (partL n l f t) (partOk n l f t) w) :=
  part1_cap l n b l.length (Nat.le_refl _) f t w hb hr hm

end Go.Proofs.Ytfdaaeapfeajjaa
