/- The program's number of shortest ways. -/
import Derived.Test.YtlkhgnglblgldaaT
namespace Go.Proofs.Ytlkhgnglblgldaa
open Go.RowKit Go.Maps

theorem own_int {w : World} {B : Nat} {b cap _k : Nat} {xs : List Int} (h : w.ownsRow B 3 1 (.slice (some ⟨b, 0, none⟩) xs.length cap) xs.length (xs.map (Value.int .i64))) : IntAt w b 0 xs := fun i hi => by
  have := h.cellAt i (by simpa using hi)
  rw [Nat.zero_add, this]
  simp [List.getD, List.getElem?_eq_getElem hi]

def WaysRel (n : Int) (g : Int → Int → Option Int) (f : Int → Option Int) (k : Nat) (t : Int) (w : World) (b _cap : Nat) (u i : Value) (wr : World) : Prop :=
  ∃ j : Nat, j ≤ (nearL n g f t).length ∧ i = .int .i64 j ∧ u = .int .i64 (manyPre n g f k t j) ∧ IntAt wr b 0 (nearL n g f t) ∧ b < wr.heap.size ∧ Below w.heap.size w wr

set_option maxRecDepth 100000 in
set_option maxHeartbeats 600000 in
theorem ways_any (n : Int) (g : Int → Int → Option Int) (f : Int → Option Int) (nb : Nat) (bs : Int → Nat) (cnt F c : Nat) (he : EdgesOk n g) (hc : cnt ≤ 32) (hf : ∀ x, 0 ≤ (f x).getD 0 ∧ (f x).getD 0 ≤ 1000) :
    ∀ (k : Nat) (t : Int) (w : World), NetAt w nb n bs cnt g → MapIs w intElem F c (fun t => (f t).map dI) → 0 ≤ t → t < n → (f t).getD 0 ≤ (k : Int) →
    Calls Try.prog 59 #[.map (some nb), .int .i64 t, .map (some F)] w (Gives (.int .i64 (manyN n g f (k + 1) t)) w) := by
  intro k
  induction k with
  | zero =>
    intro t w h hF ht0 ht1 hk
    have hn8 := he.n8
    have wt : W64 t := by unfold W64; omega
    have h0 : (f t).getD 0 = 0 := by have := hf t; omega
    have hm : manyN n g f 1 t = 1 := by unfold manyN; rw [if_pos h0]
    rw [hm]
    go_enter Try.func59, Try.ntmps59
    go_wp2_with (at_lookup; refine wp_look _ rfl _ _ rfl F c f rfl hF t wt rfl ?_; rw [h0])
    go_ret
    exact ⟨rfl, Below.refl _ _⟩
  | succ k ih =>
    intro t w h hF ht0 ht1 hk
    have hn8 := he.n8
    have wt : W64 t := by unfold W64; omega
    by_cases h0 : (f t).getD 0 = 0
    · have hm : manyN n g f (k + 1 + 1) t = 1 := by unfold manyN; rw [if_pos h0]
      rw [hm]
      go_enter Try.func59, Try.ntmps59
      go_wp2_with (at_lookup; refine wp_look _ rfl _ _ rfl F c f rfl hF t wt rfl ?_; rw [h0])
      go_ret
      exact ⟨rfl, Below.refl _ _⟩
    · have hm := manyPre_all n g f (k + 1) t h0
      have Hm := Lib.hid hm; clear hm
      have Ih := Lib.hid ih; clear ih
      have Hf := Lib.hid hf; clear hf
      have He := Lib.hid he; clear he
      have hqt : (f t).getD 0 ≠ 0 := h0
      have Hk := Lib.hid hk; clear hk
      generalize hqe : (f t).getD 0 = q at hqt
      have Hqe := Lib.hid hqe; clear hqe h0
      go_enter Try.func59, Try.ntmps59
      go_wp2_with (at_lookup; refine wp_look _ rfl _ _ rfl F c f rfl hF t wt rfl ?_; rw [Hqe.out])
      refine (nearer_any n g f t nb bs cnt F c w h He.out ht0 ht1 hc hF Hf.out).mono ?_
      rintro e w1 ⟨b, cap, rfl, hown, hb1⟩
      have hia := own_int (_k := 0) hown
      have hbl : b < w1.heap.size := (hown.lt b rfl).2
      clear hown
      have hL8 : (nearL n g f t).length ≤ 8 := Nat.le_trans (nearL_len n g f t) (by omega)
      have hFl := hF.lt
      have HF := Lib.hid hF; clear hF
      have Hnet := Lib.hid h; clear h
      have hmem : ∀ j, j < (nearL n g f t).length → (0 ≤ (nearL n g f t).getD j 0 ∧ (nearL n g f t).getD j 0 < n) ∧ (f ((nearL n g f t).getD j 0)).getD 0 ≤ (k : Int) := fun j hj => by
        have h1 : (nearL n g f t).getD j 0 ∈ nearL n g f t := by rw [getI _ hj]; exact List.getElem_mem hj
        obtain ⟨h2, h3⟩ := mem_nearL.1 h1
        obtain ⟨m, hm, he⟩ := nearP_iff.1 h3
        have := He.out.bd _ _ _ hm
        have := Hk.out
        exact ⟨h2, by omega⟩
      have Hmem := Lib.hid hmem; clear hmem
      have hsucc : ∀ j, j < (nearL n g f t).length → manyPre n g f (k + 1) t (j + 1) = wrap64 (manyPre n g f (k + 1) t j + manyN n g f (k + 1) ((nearL n g f t).getD j 0)) := fun j hj => manyPre_succ n g f (k + 1) t j hj
      have Hsucc := Lib.hid hsucc; clear hsucc
      have hz : manyPre n g f (k + 1) t 0 = 0 := by simp [manyPre]
      have Hz := Lib.hid hz; clear hz
      go_wp2
      go_loopw [7, 19] (fun u i wr => WaysRel n g f (k + 1) t w b cap u i wr) (fun _ i _ => (nearL n g f t).length - (intOf i).toNat)
      case atStart => exact ⟨0, Nat.zero_le _, rfl, by rw [Hz.out], hia, hbl, hb1⟩
      case round =>
        obtain ⟨j, hj, rfl, rfl, hia2, hbl2, hbel⟩ := hrel
        by_cases hlt : j < (nearL n g f t).length
        · have hcell := hia2 j hlt
          rw [Nat.zero_add] at hcell
          obtain ⟨⟨hx0, hx1⟩, hx2⟩ := Hmem.out j hlt
          have hs := Hsucc.out j hlt
          generalize hxe : (nearL n g f t).getD j 0 = x at *
          have Hs := Lib.hid hs; clear hs
          have hlt' : (j : Int) < ((nearL n g f t).length : Int) := by omega
          go_wp2_with fail
          refine (Ih.out x wr (Hnet.out.below hbel) (HF.out.below hbel hFl) hx0 hx1 hx2).mono ?_
          rintro e w2 ⟨rfl, hb2⟩
          go_wp2
          go_roundw
          case rel => exact ⟨j + 1, by omega, by go_num, by rw [Hs.out], hia2.below hb2 hbl2, by have := hb2.size; omega, hbel.trans (hb2.mono hbel.size)⟩
          case measure => simp [intOf]; omega
        · have hjn : (nearL n g f t).length = j := by omega
          have Hjn := Lib.hid hjn
          have hge : ¬ (j : Int) < ((nearL n g f t).length : Int) := by omega
          clear hjn
          go_wp2
          go_ret
          exact ⟨by rw [Hm.out, Hjn.out]; rfl, hbel⟩

end Go.Proofs.Ytlkhgnglblgldaa
