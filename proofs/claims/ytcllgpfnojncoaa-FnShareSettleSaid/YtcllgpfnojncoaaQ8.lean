/- The model's ShareSettle. -/
import Derived.Test.YtcllgpfnojncoaaQ7
import Derived.Test.YtcllgpfnojncoaaQSU
namespace Go.Proofs.Ytcllgpfnojncoaa
open Go.RowKit

def Tk1Rel (t : List Int) (w : World) (s i : Value) (wr : World) : Prop := ∃ k : Nat, k ≤ t.length ∧ i = .int .i64 k ∧ s = .int .i64 (t.take k).sum ∧ (∀ j, j < k → 0 ≤ t.getD j 0) ∧ (0 ≤ (t.take k).sum ∧ (t.take k).sum ≤ 1000000) ∧ w = wr
def St1Rel (s t : List Int) (g : Nat) (w : World) (i : Value) (wr : World) : Prop := ∃ k : Nat, k ≤ s.length ∧ i = .int .i64 k ∧ IntAt wr g 0 (subs s t k) ∧ Room wr g s.length ∧ Below w.heap.size w wr

set_option maxRecDepth 100000 in
set_option maxHeartbeats 4000000 in
theorem settle1_any (v v' : Value) (l : List Pt) (t : List Int) (w : World) (hv : PtIn w v l) (hv' : IntsIn w v' t) (hm : l.length ≤ 1048576) (hm' : t.length ≤ 1048576) :
    Calls Try.prog 46 #[v, v'] w (IntsOk (setX l t) (setOk l t) w) := by
  have Hno : Hid (∀ W, Below w.heap.size w W → setOk l t = false → IntsOk (setX l t) (setOk l t) w (.returned (.tuple #[.slice (some ⟨W.heap.size, 0, none⟩) 0 0, .bool false])) (W.alloc (.cells #[] 3))) := Lib.hid (fun W hb ho => by
    have hx : setX l t = [] := by unfold setX; rw [ho]; rfl
    rw [hx, ho]
    exact IntsOk.no hb.size (by simp) (hb.alloc hb.size _))
  have Hbadt := Lib.hid (show tkOk t = false → setOk l t = false from fun h => by unfold setOk; rw [h]; rfl)
  have Hmk := Lib.hid (fun amt => make1_any v l amt w hv hm)
  obtain ⟨a, cap, rfl, _, _⟩ := hv
  have Hv' := Lib.hid hv'
  obtain ⟨a', cap', rfl, hc', ha'⟩ := hv'
  clear hc'
  have Ha := Lib.hid ha'; clear ha'
  go_enter Try.func46, Try.ntmps46
  go_wp2
  go_loopw [6, 7] (fun s i wr => Tk1Rel t w s i wr) (fun _ i _ => t.length - (intOf i).toNat)
  case atStart => exact ⟨0, Nat.zero_le _, rfl, by simp, fun j hj => by omega, by simp, rfl⟩
  case round =>
    obtain ⟨k, hk, rfl, rfl, hnn, ⟨s0, s1⟩, hw⟩ := hrel
    obtain rfl : w = wr := hw
    by_cases hlt : k < t.length
    · obtain ⟨b, o, rfl, hb0, hrw⟩ := Ha.out (by intro h; simp [h] at hlt)
      have c0 := hrw k hlt
      have hsum := takeI_sum hlt
      have hmem : t.getD k 0 ∈ t := by rw [List.getD_eq_getElem?_getD, List.getElem?_eq_getElem hlt]; exact List.getElem_mem hlt
      have hbad : (inB (t.getD k 0) 0 1000000 = false ∨ 1000000 < (t.take k).sum + t.getD k 0) → tkOk t = false := fun h => bnot_of tkOk_iff (fun q => by
        have h1 := q.2.1 _ hmem
        have h2 := take_sum_le q.2.1 (k + 1)
        have h3 := q.2.2
        rcases h with h | h
        · rw [(inB_iff _ _ _).2 (by omega)] at h; cases h
        · omega)
      have hnn' : 0 ≤ t.getD k 0 → ∀ j, j < k + 1 → 0 ≤ t.getD j 0 := fun h j hj => by
        by_cases e : j = k
        · subst e; exact h
        · exact hnn j (by omega)
      have Hbad := Lib.hid hbad
      have Hnn := Lib.hid hnn'
      have Hsum := Lib.hid hsum
      generalize t.getD k 0 = x at *
      generalize (t.take k).sum = s at *
      have hki : (k : Int) < (t.length : Int) := by omega
      have hk0 : (0 : Int) ≤ (k : Int) := Int.natCast_nonneg _
      clear hsum hbad hnn hnn' hmem hrw
      cases hx : inB x 0 1000000 with
      | false =>
        have Hb := Lib.hid (Hno.out w (Below.refl _ _) (Hbadt.out (Hbad.out (.inl hx))))
        have HX := Lib.hid hx
        clear hx
        go_wp2_with fail
        refine (l6In_any _ _ _ _).mono ?_; rintro e w1 ⟨rfl, hw⟩
        obtain rfl : w = w1 := hw
        rw [HX.out]
        go_wp2
        go_ret2
        exact Hb.out
      | true =>
        obtain ⟨x0, x9⟩ := (inB_iff _ _ _).1 hx
        have HX := Lib.hid hx
        clear hx
        have Hn := Lib.hid (Hnn.out x0)
        by_cases hx1 : 1000000 < s + x
        · have Hb := Lib.hid (Hno.out w (Below.refl _ _) (Hbadt.out (Hbad.out (.inr hx1))))
          go_wp2_with fail
          refine (l6In_any _ _ _ _).mono ?_; rintro e w1 ⟨rfl, hw⟩
          obtain rfl : w = w1 := hw
          rw [HX.out]
          go_wp2
          go_ret2
          exact Hb.out
        · go_wp2_with fail
          refine (l6In_any _ _ _ _).mono ?_; rintro e w1 ⟨rfl, hw⟩
          obtain rfl : w = w1 := hw
          rw [HX.out]
          go_wp2
          exact ⟨⟨k + 1, hlt, by go_num, by rw [Hsum.out], Hn.out, by rw [Hsum.out]; omega, rfl⟩, by simp [intOf]; omega⟩
    · obtain rfl : k = t.length := by omega
      rw [List.take_length] at s0 s1 ⊢
      have hall : ∀ x ∈ t, 0 ≤ x := fun x hx => by
        obtain ⟨i, hi, rfl⟩ := List.mem_iff_getElem.1 hx
        have := hnn i hi
        rwa [List.getD_eq_getElem?_getD, List.getElem?_eq_getElem hi] at this
      have hms : makeOk l t.sum = validP l := by unfold makeOk; rw [okAm_iff.2 ⟨s0, s1⟩, Bool.and_true]
      have Hm2 := Lib.hid (Hmk.out t.sum)
      rw [hms] at Hm2
      have Hall := Lib.hid hall
      have Hms := Lib.hid hms
      generalize hsv : t.sum = sv at *
      have Hsv := Lib.hid hsv
      clear hall hnn hms hsv
      cases hz : validP l with
      | false =>
        rw [hz] at Hm2
        have Hso := Lib.hid (show setOk l t = false by unfold setOk; rw [hz, Bool.and_false])
        clear hz
        go_wp2_with fail
        refine Hm2.out.mono ?_
        rintro e w2 ⟨ad2, cp2, rfl, _, _, _, hb2⟩
        have HN := Lib.hid (Hno.out w2 hb2 Hso.out)
        generalize (makeX l sv).length = mm at *
        clear hb2
        go_wp2
        go_ret2
        exact HN.out
      | true =>
        rw [hz] at Hm2
        by_cases h6 : t.length = 6
        · have htk : tkOk t = true := tkOk_iff.2 ⟨h6, Hall.out, by rw [Hsv.out]; exact s1⟩
          have hso : setOk l t = true := by unfold setOk; rw [htk, hz]; rfl
          have hmx : makeX l sv = shareL (cnt6 (ownP l)) sv := by unfold makeX; rw [Hms.out, hz]; rfl
          have hlen : (makeX l sv).length = 6 := by rw [hmx, shareL_len, cnt6_len]
          have hx : setX l t = subs (makeX l sv) t t.length := by
            rw [hmx, ← Hsv.out, subs_all (by rw [shareL_len, cnt6_len]; exact h6)]
            unfold setX; rw [hso]; rfl
          have hbd := shareL_bd (ms := cnt6 (ownP l)) (amt := sv) (by rw [cnt6_len]; omega) (cnt6_le (ownP l) (ownP_len hz)) ⟨s0, s1⟩ (cntP_pos hz).1
          rw [← hmx] at hbd
          have ht0 : ∀ i, 0 ≤ t.getD i 0 ∧ t.getD i 0 ≤ 1000000 := fun i => by
            by_cases hi : i < t.length
            · have h1 := takeI_sum hi
              have h2 := take_sum_le Hall.out (i + 1)
              have h3 := sum_nonneg (t := t.take i) (fun x hx => Hall.out x (List.mem_of_mem_take hx))
              have h4 := Hall.out _ (List.getElem_mem hi)
              rw [Hsv.out] at h2
              rw [List.getD_eq_getElem?_getD, List.getElem?_eq_getElem hi] at *
              simp only [Option.getD_some] at *
              omega
            · rw [List.getD_eq_getElem?_getD, List.getElem?_eq_none (by omega)]; simp
          have Hbd := Lib.hid hbd
          have Ht0 := Lib.hid ht0
          have Hx := Lib.hid hx
          have Ho := Lib.hid hso
          have H6 := Lib.hid h6
          have Hlen := Lib.hid hlen
          have hd : ((t.length : Int) != 6) = false := by simp; omega
          have hd6 : (t.length : Int) = 6 := by omega
          have hmx6 : (makeX l sv).length ≤ 6 := by omega
          obtain ⟨b, o, rfl, hb0, hat⟩ := Ha.out (by intro h; simp [h] at h6)
          have Hat := Lib.hid hat
          have hd6' := Lib.hid hd6
          clear hz htk hso hmx hlen hx hbd ht0 h6 hat hd6
          generalize makeX l sv = s at *
          go_wp2_with fail
          refine Hm2.out.mono ?_
          rintro e w2 ⟨ad2, cp2, rfl, hc2, ho2, hblk2, hb2⟩
          obtain ⟨g, rfl, hgl, hgi, hgr⟩ := ho2 (by intro h; have := Hlen.out; rw [h] at this; simp at this)
          have hgw := (hblk2 g ⟨0, rfl⟩).1
          have Hgi := Lib.hid hgi
          have Hgr := Lib.hid hgr
          have Hc2 := Lib.hid hc2
          have HB2 := Lib.hid hb2
          clear ho2 hblk2 hb2 hgi hgr hc2
          go_wp2
          go_loopw [10] (fun i wr => St1Rel s t g w i wr) (fun i _ => s.length - (intOf i).toNat)
          case atStart => exact ⟨0, Nat.zero_le _, rfl, Hgi.out, Hgr.out, HB2.out⟩
          case round =>
            obtain ⟨q, hq, rfl, h1, h2, h3⟩ := hrel
            by_cases hlt2 : q < s.length
            · have hqt : q < t.length := by have := H6.out; have := Hlen.out; omega
              have c1 := (Hat.out.below h3 hb0) q hqt
              have c0 := h1 q (by rw [subs_len]; exact hlt2)
              rw [Nat.zero_add, subs_at s t q q hlt2, if_neg (by omega)] at c0
              have hst : subs s t (q + 1) = (subs s t q).set q (s.getD q 0 - t.getD q 0) := by
                conv => lhs; unfold subs
                rw [subs_at s t q q hlt2, if_neg (by omega)]
              obtain ⟨x0, x1⟩ := Hbd.out q
              obtain ⟨y0, y1⟩ := Ht0.out q
              have hfz := h2.2 q
              have hidx : q < (subs s t q).length := by rw [subs_len]; exact hlt2
              have hset := h1.setQ (v := s.getD q 0 - t.getD q 0) hidx
              have H1 := Lib.hid hset
              have H2 := Lib.hid h2
              have H3 := Lib.hid h3
              have Hst := Lib.hid hst
              generalize s.getD q 0 = x at *
              generalize t.getD q 0 = y at *
              have hws : IntKind.i64.wrap (x - y) = x - y := IntWalk.i64_in _ (by omega)
              have hq0 : (0 : Int) ≤ (q : Int) := Int.natCast_nonneg _
              have hq1 : (q : Int) < (t.length : Int) := by omega
              have hq2 : (q : Int) < (s.length : Int) := by omega
              have hgb1 : g ≠ b := by omega
              have hgb2 : b ≠ g := by omega
              clear h1 h2 h3 hst hset hidx
              go_wp2
              go_region
              all_goals
                go_wp2
                refine ⟨⟨q + 1, hlt2, by go_num, by rw [Hst.out]; exact H1.out, H2.out.setCell _ _, (H3.out.setCell (p := ⟨g, q, none⟩) hgw _).drew⟩, ?_⟩
                simp [intOf]; omega
            · obtain rfl : q = s.length := by omega
              have hst : s.length = t.length := by rw [H6.out, Hlen.out]
              rw [hst, ← Hx.out] at h1
              have hxl : (setX l t).length = s.length := by rw [Hx.out, subs_len]
              have Hxl := Lib.hid hxl
              have H1 := Lib.hid h1
              have H2 := Lib.hid h2
              have H3 := Lib.hid h3
              clear h1 h2 h3 hxl hst
              go_wp2
              go_ret2
              rw [Ho.out]
              have hgl5 := World.block_lt_of_cell? _ _ (H1.out 0 (by rw [Hxl.out, Hlen.out]; omega))
              refine ⟨some ⟨g, 0, none⟩, cp2, by rw [Hxl.out]; rfl, by rw [Hxl.out]; exact Hc2.out, fun _ => ⟨g, rfl, hgl5, H1.out, by rw [Hxl.out]; exact H2.out⟩, fun j hj => ?_, H3.out⟩
              obtain ⟨o2, ho2⟩ := hj
              cases ho2
              exact ⟨hgw, hgl5⟩
        · have hd : ((t.length : Int) != 6) = true := by simp; omega
          have hno := Hbadt.out (bnot_of tkOk_iff (fun h => h6 h.1))
          have Hno2 := Lib.hid hno
          clear hno hz
          go_wp2_with fail
          refine Hm2.out.mono ?_
          rintro e w2 ⟨ad2, cp2, rfl, _, _, _, hb2⟩
          have HN := Lib.hid (Hno.out w2 hb2 Hno2.out)
          generalize (makeX l sv).length = mm at *
          clear hb2
          go_wp2
          go_ret2
          exact HN.out

end Go.Proofs.Ytcllgpfnojncoaa
