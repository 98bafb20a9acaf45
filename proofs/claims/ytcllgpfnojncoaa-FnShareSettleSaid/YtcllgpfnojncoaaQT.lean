/- The program's ShareSettle. -/
import Derived.Test.YtcllgpfnojncoaaQR
import Derived.Test.YtcllgpfnojncoaaQSU
namespace Go.Proofs.Ytcllgpfnojncoaa
open Go.RowKit

def StRel (s t : List Int) (g : Nat) (w : World) (i : Value) (wr : World) : Prop := ∃ k : Nat, k ≤ t.length ∧ i = .int .i64 k ∧ IntAt wr g 0 (subs s t k) ∧ Room wr g s.length ∧ Below w.heap.size w wr

set_option maxRecDepth 100000 in
set_option maxHeartbeats 2000000 in
theorem settle2_any (v v' : Value) (l : List Pt) (t : List Int) (w : World) (hv : PtIn w v l) (hv' : IntsIn w v' t) (hm : l.length ≤ 1048576) :
    Calls Try.prog 48 #[v, v'] w (IntsOk (setX l t) (setOk l t) w) := by
  have Htk := Lib.hid (taken2_any v' t w hv')
  have Hval := Lib.hid (valid2_any v l w hv hm)
  cases hk : tkOk t with
  | false =>
    have ho : setOk l t = false := by unfold setOk; rw [hk]; rfl
    have hx : setX l t = [] := by unfold setX; rw [ho]; rfl
    have Hx := Lib.hid hx; clear hx
    have Ho := Lib.hid ho; clear ho
    rw [hk] at Htk
    obtain ⟨a, cap, rfl, _, _⟩ := hv
    obtain ⟨a', cap', rfl, _, _⟩ := hv'
    generalize tkV t = tv at *
    go_enter Try.func48, Try.ntmps48
    go_wp2_with fail
    refine Htk.out.mono ?_; rintro e w1 ⟨rfl, rfl⟩
    go_wp2
    go_ret2
    rw [Hx.out, Ho.out]
    exact IntsOk.no (Nat.le_refl _) (by simp) ((Below.refl _ _).alloc (Nat.le_refl _) _)
  | true =>
    rw [hk] at Htk
    have htv : tkV t = t.sum := by unfold tkV; rw [hk]; rfl
    rw [htv] at Htk
    obtain ⟨k6, k0, k1⟩ := tkOk_iff.1 hk
    have hs0 := sum_nonneg k0
    cases hz : validP l with
    | false =>
      have ho : setOk l t = false := by unfold setOk; rw [hk, hz]; rfl
      have hx : setX l t = [] := by unfold setX; rw [ho]; rfl
      have Hx := Lib.hid hx; clear hx
      have Ho := Lib.hid ho; clear ho
      rw [hz] at Hval
      obtain ⟨a, cap, rfl, _, _⟩ := hv
      obtain ⟨a', cap', rfl, _, _⟩ := hv'
      generalize t.sum = tv at *
      clear hk htv k0 k6
      go_enter Try.func48, Try.ntmps48
      go_wp2_with fail
      refine Htk.out.mono ?_; rintro e w1 ⟨rfl, rfl⟩
      go_wp2_with fail
      refine Hval.out.mono ?_; rintro e w1 ⟨rfl, hb1⟩
      have HB := Lib.hid hb1; clear hb1
      go_wp2
      go_ret2
      rw [Hx.out, Ho.out]
      exact IntsOk.no HB.out.size (by simp) (HB.out.alloc HB.out.size _)
    | true =>
      have ho : setOk l t = true := by unfold setOk; rw [hk, hz]; rfl
      have hlen : t.length = (shareL (cnt6 (ownP l)) t.sum).length := by rw [shareL_len, cnt6_len]; exact k6
      have hx : setX l t = subs (shareL (cnt6 (ownP l)) t.sum) t t.length := by rw [subs_all hlen]; unfold setX; rw [ho]; rfl
      have Hx := Lib.hid hx; clear hx
      have Ho := Lib.hid ho; clear ho
      have Hps := Lib.hid (cntP_pos hz)
      have Hle := Lib.hid (cnt6_le (ownP l) (ownP_len hz))
      have Hbd := Lib.hid (shareL_bd (by rw [cnt6_len]; omega) (cnt6_le (ownP l) (ownP_len hz)) ⟨hs0, k1⟩ (cntP_pos hz).1)
      have Hlen := Lib.hid hlen
      have ht0 : ∀ i, 0 ≤ t.getD i 0 ∧ t.getD i 0 ≤ 1000000 := fun i => by
        by_cases hi : i < t.length
        · have h1 := takeI_sum hi
          have h2 := take_sum_le k0 (i + 1)
          have h3 := sum_nonneg (t := t.take i) (fun x hx => k0 x (List.mem_of_mem_take hx))
          have h4 := k0 _ (List.getElem_mem hi)
          rw [List.getD_eq_getElem?_getD, List.getElem?_eq_getElem hi] at *
          simp only [Option.getD_some] at *
          omega
        · rw [List.getD_eq_getElem?_getD, List.getElem?_eq_none (by omega)]; simp
      have Ht0 := Lib.hid ht0
      rw [hz] at Hval
      obtain ⟨b, o, cap, rfl, _, hb, hl⟩ := hv.full hz
      have Hv' := Lib.hid hv'
      obtain ⟨a', cap', rfl, _, ha'⟩ := hv'
      obtain ⟨b', o', rfl, hb', hat'⟩ := ha' (by intro h; simp [h] at k6)
      have Hat := Lib.hid hat'
      have Hz := Lib.hid hz
      have K6 := Lib.hid k6
      have Hl := Lib.hid hl
      have htl : t.length ≤ 6 := by omega
      clear hz hk htv hlen k0 ht0 ha' hat' hl k6
      generalize hsv : t.sum = sv at *
      have Hsv := Lib.hid hsv; clear hsv
      go_enter Try.func48, Try.ntmps48
      go_wp2_with fail
      refine Htk.out.mono ?_; rintro e w1 ⟨rfl, rfl⟩
      go_wp2_with fail
      refine Hval.out.mono ?_; rintro e w2 ⟨rfl, hb1⟩
      have Hw := Lib.hid (workedM b o cap l w2 Hz.out (Nat.lt_of_lt_of_le hb hb1.size) (Hl.out.below hb1 hb))
      have HB := Lib.hid hb1; clear hb1
      go_wp2_with fail
      refine (milesOf_any _ _ _ _).mono ?_; rintro e w' ⟨rfl, rfl⟩
      go_wp2_with fail
      refine Hw.out.mono ?_; rintro e w3 ⟨ad, cp, rfl, hcp, hown, _, hb3⟩
      have hsz := HB.out.size
      have hB2 := HB.out.trans ((((Below.refl w2.heap.size w2).alloc (Nat.le_refl _) _).trans (hb3.mono (by simp))).mono hsz)
      have Hsh := Lib.hid (shares_any _ (cnt6 (ownP l)) sv w3 (hown.ints hcp) (by rw [cnt6_len]; omega) Hle.out ⟨hs0, k1⟩ Hps.out)
      have HB2 := Lib.hid hB2
      clear hown hb3 hB2 hcp
      generalize hn : (cnt6 (ownP l)).length = n at *
      go_wp2_with fail
      refine Hsh.out.mono ?_
      rintro e w4 ⟨ad4, cp4, rfl, hc4, ho4, hblk4, hb4⟩
      generalize hsl : shareL (cnt6 (ownP l)) sv = s at *
      have hsn : s ≠ [] := fun h => by have h1 := Hlen.out; rw [h, List.length_nil] at h1; have h2 := K6.out; omega
      obtain ⟨g, rfl, hgl, hgi, hgr⟩ := ho4 hsn
      have hgw := (hblk4 g ⟨0, rfl⟩).1
      have hs3 := HB2.out.size
      have HB4 := Lib.hid (HB2.out.trans (hb4.mono hs3))
      have Hgi := Lib.hid hgi
      have Hgr := Lib.hid hgr
      have Hc4 := Lib.hid hc4
      rw [← Hlen.out]
      clear ho4 hblk4 hb4 hgi hgr hc4 hsl hn
      go_wp2
      go_loopw [31] (fun i wr => StRel s t g w1 i wr) (fun i _ => t.length - (intOf i).toNat)
      case atStart => exact ⟨0, Nat.zero_le _, rfl, Hgi.out, Hgr.out, HB4.out⟩
      case round =>
        obtain ⟨k, hk, rfl, h1, h2, h3⟩ := hrel
        by_cases hlt : k < t.length
        · have c1 := (Hat.out.below h3 hb') k hlt
          have c0 := h1 k (by rw [subs_len, ← Hlen.out]; exact hlt)
          rw [Nat.zero_add, subs_at s t k k (by rw [← Hlen.out]; exact hlt), if_neg (by omega)] at c0
          have hst : subs s t (k + 1) = (subs s t k).set k (s.getD k 0 - t.getD k 0) := by
            conv => lhs; unfold subs
            rw [subs_at s t k k (by rw [← Hlen.out]; exact hlt), if_neg (by omega)]
          obtain ⟨x0, x1⟩ := Hbd.out k
          obtain ⟨y0, y1⟩ := Ht0.out k
          have hfz := h2.2 k
          have hidx : k < (subs s t k).length := by rw [subs_len, ← Hlen.out]; exact hlt
          have hset := h1.setQ (v := s.getD k 0 - t.getD k 0) hidx
          have H1 := Lib.hid hset
          have H2 := Lib.hid h2
          have H3 := Lib.hid h3
          have Hst := Lib.hid hst
          generalize s.getD k 0 = x at *
          generalize t.getD k 0 = y at *
          have hk6 : k < 6 := by omega
          have hkt : (k : Int) < (t.length : Int) := by omega
          clear h1 h2 h3 hst hset hidx
          go_wp2
          exact ⟨⟨k + 1, hlt, by go_num, by rw [Hst.out]; exact H1.out, H2.out.setCell _ _, H3.out.setCell (p := ⟨g, k, none⟩) (show w1.heap.size ≤ g by omega) _⟩, by simp [intOf]; omega⟩
        · obtain rfl : k = t.length := by omega
          rw [← Hx.out] at h1
          have hxl : (setX l t).length = t.length := by rw [Hx.out, subs_len, Hlen.out]
          have Hxl := Lib.hid hxl
          have H1 := Lib.hid h1
          have H2 := Lib.hid h2
          have H3 := Lib.hid h3
          clear h1 h2 h3 hxl
          go_wp2
          go_ret2
          rw [Ho.out]
          have hgl5 := World.block_lt_of_cell? _ _ (H1.out 0 (by rw [Hxl.out]; have := K6.out; omega))
          refine ⟨some ⟨g, 0, none⟩, cp4, by rw [Hxl.out]; rfl, by rw [Hxl.out, Hlen.out]; exact Hc4.out, fun _ => ⟨g, rfl, hgl5, H1.out, by rw [Hxl.out, Hlen.out]; exact H2.out⟩, fun j hj => ?_, H3.out⟩
          obtain ⟨o2, ho2⟩ := hj
          cases ho2
          exact ⟨by omega, hgl5⟩

end Go.Proofs.Ytcllgpfnojncoaa
