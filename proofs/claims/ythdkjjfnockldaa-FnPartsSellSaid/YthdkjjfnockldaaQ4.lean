/- The model's PartsPlain, PartsSell, PartsTurn, PartsJoin. -/
import Derived.Test.YthdkjjfnockldaaQ3
namespace Go.Proofs.Ythdkjjfnockldaa
open Go.RowKit

theorem PtOut.noM {w w' : World} {g : Nat} (hg : w.heap.size ≤ g) (hl : g < w'.heap.size) (hb : Below w.heap.size w w') : PtOut [] false w (.returned (.tuple #[.slice (some ⟨g, 0, none⟩) 0 0, .bool false])) w' :=
  ⟨some ⟨g, 0, none⟩, 0, rfl, Nat.le_refl _, OwnPt.nil, fun j hj => by obtain ⟨o, ho⟩ := hj; cases ho; exact ⟨hg, hl⟩, hb⟩
theorem RowPt.out {w wr : World} {B : Nat} {ad : Option Addr} {cap : Nat} {xs : List Pt} (h : RowPt wr B (.slice ad xs.length cap) xs) (hB : w.heap.size ≤ B) (hb : Below w.heap.size w wr) : PtOut xs true w (.returned (.tuple #[.slice ad xs.length cap, .bool true])) wr := by
  obtain ⟨ad', cap', e, hc, ho, hin⟩ := h.row
  injection e with e1 e2 e3
  subst e1 e3
  exact ⟨ad, cap, rfl, hc, ho, fun j hj => ⟨by have := (hin j hj).1; omega, (hin j hj).2⟩, hb⟩

set_option maxHeartbeats 1000000 in
theorem plain1_any (v : Value) (l : List Pt) (w : World) (hv : PtIn w v l) (hm : l.length ≤ 1048576) :
    Calls Try.prog 30 #[v] w (PtOut (plainX l) (plainOk l) w) := by
  have Hv := Lib.hid hv
  have hb0 : Below w.heap.size w (w.alloc (.cells #[] 41)) := (Below.refl _ _).alloc (Nat.le_refl _) _
  have Hval := Lib.hid (valid1_any v l _ (hv.below hb0) (by omega))
  have Hb0 := Lib.hid hb0; clear hb0
  cases hz : validP l with
  | false =>
    have ho : plainOk l = false := by unfold plainOk; rw [hz]; rfl
    have hx : plainX l = [] := by unfold plainX; rw [ho]; rfl
    have Hx := Lib.hid hx; clear hx
    have Ho := Lib.hid ho; clear ho
    rw [hz] at Hval
    clear hv
    go_enter Try.func30, Try.ntmps30
    go_wp2_with fail
    refine Hval.out.mono ?_; rintro e w1 ⟨rfl, hw⟩
    subst hw
    go_wp2
    go_ret2
    rw [Hx.out, Ho.out]
    exact PtOut.noM (Nat.le_refl _) (by simp) Hb0.out
  | true =>
    have How := Lib.hid (fun w' (h : Below w.heap.size w w') => owners1_any v l w' (hv.below h) hz)
    rw [hz] at Hval
    have Hln := Lib.hid (ownP_len hz)
    have ho : plainOk l = validP (plainL (ownP l)) := by unfold plainOk; rw [hz]; rfl
    have hx : plainX l = ifP (plainL (ownP l)) := by unfold plainX ifP; rw [ho]
    have hpl := (plainL_bd (ownP l)).1
    have Hpl := Lib.hid hpl
    obtain ⟨b, o, cap, rfl, _, hb, hl⟩ := PtIn.full hv hz
    clear hv hl hz hpl
    cases hq : validP (plainL (ownP l)) with
    | false =>
      have Hx := Lib.hid (hx.trans (ifP_no hq)); clear hx
      have Ho := Lib.hid (ho.trans hq); clear ho
      have Hq := Lib.hid hq; clear hq
      go_enter Try.func30, Try.ntmps30
      go_wp2_with fail
      refine Hval.out.mono ?_; rintro e w1 ⟨rfl, hw⟩
      subst hw
      go_wp2_with fail
      refine (How.out _ Hb0.out).mono ?_
      rintro e w2 ⟨ad, cp, rfl, hcp, hown, _, hb2⟩
      have Hpa := Lib.hid (parts1_any _ (ownP l) w2 (hown.ints hcp) Hln.out)
      have HB2 := Lib.hid (Hb0.out.trans (hb2.mono Hb0.out.size))
      clear hown hb2 hcp
      generalize hn : (ownP l).length = n at *
      go_wp2_with fail
      refine Hpa.out.mono ?_
      rintro e w3 ⟨ad3, cp3, rfl, hrow, hb3⟩
      obtain ⟨ad', cap', e, hc, hown, _⟩ := hrow.row
      injection e with e1 e2 e3
      subst e1 e3
      have Hv3 := Lib.hid (valid1_any _ (plainL (ownP l)) w3 (hown.ins hc) (by have := Hpl.out; have := Hln.out; omega))
      rw [Hq.out] at Hv3
      have HB3 := Lib.hid (HB2.out.trans (hb3.mono HB2.out.size))
      clear hown hb3 hc hrow
      generalize hn2 : (plainL (ownP l)).length = n2 at *
      go_wp2_with fail
      refine Hv3.out.mono ?_; rintro e w4 ⟨rfl, rfl⟩
      go_wp2
      go_ret2
      rw [Hx.out, Ho.out]
      exact PtOut.noM HB3.out.size (by simp) (HB3.out.alloc HB3.out.size _)
    | true =>
      have Hx := Lib.hid (hx.trans (ifP_yes hq)); clear hx
      have Ho := Lib.hid (ho.trans hq); clear ho
      have Hq := Lib.hid hq; clear hq
      go_enter Try.func30, Try.ntmps30
      go_wp2_with fail
      refine Hval.out.mono ?_; rintro e w1 ⟨rfl, hw⟩
      subst hw
      go_wp2_with fail
      refine (How.out _ Hb0.out).mono ?_
      rintro e w2 ⟨ad, cp, rfl, hcp, hown, _, hb2⟩
      have Hpa := Lib.hid (parts1_any _ (ownP l) w2 (hown.ints hcp) Hln.out)
      have HB2 := Lib.hid (Hb0.out.trans (hb2.mono Hb0.out.size))
      clear hown hb2 hcp
      generalize hn : (ownP l).length = n at *
      go_wp2_with fail
      refine Hpa.out.mono ?_
      rintro e w3 ⟨ad3, cp3, rfl, hrow, hb3⟩
      have HB3 := Lib.hid (HB2.out.trans (hb3.mono HB2.out.size))
      have HR := Lib.hid (RowPt.out hrow HB2.out.size HB3.out)
      obtain ⟨ad', cap', e, hc, hown, _⟩ := hrow.row
      injection e with e1 e2 e3
      subst e1 e3
      have Hv3 := Lib.hid (valid1_any _ (plainL (ownP l)) w3 (hown.ins hc) (by have := Hpl.out; have := Hln.out; omega))
      rw [Hq.out] at Hv3
      clear hown hb3 hc hrow
      generalize hn2 : (plainL (ownP l)).length = n2 at *
      go_wp2_with fail
      refine Hv3.out.mono ?_; rintro e w4 ⟨rfl, rfl⟩
      go_wp2
      go_ret2
      rw [Hx.out, Ho.out]
      exact HR.out

theorem soldL_len (l : List Pt) (a b o : Int) : (soldL l a b o).length = (ownP l).length := by simp [soldL]
theorem soldL_none (l : List Pt) (a o : Int) : soldL l a a o = ownP l := by
  unfold soldL
  conv => rhs; rw [← ownP_all l]
  refine List.map_congr_left fun k _ => ?_
  unfold soldAt
  rw [if_neg (fun h => by have := inS_iff.1 h; omega)]
theorem soldL_up (l : List Pt) (a o : Int) (k : Nat) (ha : a ≤ k) (hk : k < (ownP l).length) : soldL l a ((k : Int) + 1) o = (soldL l a k o).set k o := by
  apply List.ext_getElem (by simp [soldL])
  intro i h1 h2
  rw [List.getElem_set]
  simp only [soldL, List.getElem_map, List.getElem_range, soldAt]
  by_cases e : k = i
  · subst e
    rw [if_pos rfl, if_pos (inS_iff.2 (by omega))]
  · rw [if_neg e]
    by_cases q : inS a k i = true
    · rw [if_pos q, if_pos (inS_iff.2 (by have := inS_iff.1 q; omega))]
    · rw [if_neg q, if_neg (fun h => q (inS_iff.2 (by have := inS_iff.1 h; omega)))]

def SeRel (l : List Pt) (a b o : Int) (g : Nat) (w : World) (i : Value) (wr : World) : Prop :=
  ∃ k : Nat, a ≤ k ∧ (k : Int) ≤ b ∧ i = .int .i64 k ∧ IntAt wr g 0 (soldL l a k o) ∧ Room wr g (ownP l).length ∧ Below w.heap.size w wr

set_option maxRecDepth 100000 in
set_option maxHeartbeats 2000000 in
theorem sell1_any (v : Value) (l : List Pt) (x y z : Int) (w : World) (hv : PtIn w v l) (hm : l.length ≤ 1048576) (wx : W64 x) :
    Calls Try.prog 32 #[v, .int .i64 x, .int .i64 y, .int .i64 z] w (PtOut (sellX l x y z) (sellOk l x y z) w) := by
  have Hv := Lib.hid hv
  have Hstr := Lib.hid (stretch1_any v l x y w hv hm wx)
  have hzo : okOw z = inB z 0 5 := by rw [Bool.eq_iff_iff, okOw_iff, inB_iff]
  cases hs : strOk l x y with
  | false =>
    have ho : sellOk l x y z = false := by unfold sellOk; rw [hs]; rfl
    have hx : sellX l x y z = [] := by unfold sellX; rw [ho]; rfl
    have Hx := Lib.hid hx; clear hx
    have Ho := Lib.hid ho; clear ho
    rw [hs] at Hstr
    obtain ⟨a, cap, rfl, _, _⟩ := hv
    go_enter Try.func32, Try.ntmps32
    go_wp2_with fail
    refine Hstr.out.mono ?_; rintro e w1 ⟨rfl, hb1⟩
    have HB := Lib.hid hb1; clear hb1
    go_wp2
    go_ret2
    rw [Hx.out, Ho.out]
    exact PtOut.noM HB.out.size (by simp) (HB.out.alloc HB.out.size _)
  | true =>
    obtain ⟨hz, x0, xy, yl⟩ := strOk_iff.1 hs
    rw [hs] at Hstr
    have How := Lib.hid (fun w' (h : Below w.heap.size w w') => owners1_any v l w' (hv.below h) hz)
    obtain ⟨b, o, cap, rfl, _, hb, hl⟩ := PtIn.full hv hz
    cases hw : okOw z with
    | false =>
      have ho : sellOk l x y z = false := by unfold sellOk; rw [hw, hs]; rfl
      have hx : sellX l x y z = [] := by unfold sellX; rw [ho]; rfl
      have Hx := Lib.hid hx; clear hx
      have Ho := Lib.hid ho; clear ho
      have Hw := Lib.hid (hzo.symm.trans hw); clear hw hs hl hv
      go_enter Try.func32, Try.ntmps32
      go_wp2_with fail
      refine Hstr.out.mono ?_; rintro e w1 ⟨rfl, hb1⟩
      have HB := Lib.hid hb1; clear hb1
      go_wp2_with fail
      refine (l6In_any _ _ _ _).mono ?_; rintro e w1 ⟨rfl, rfl⟩; rw [Hw.out]
      go_wp2
      go_ret2
      rw [Hx.out, Ho.out]
      exact PtOut.noM HB.out.size (by simp) (HB.out.alloc HB.out.size _)
    | true =>
      have ho : sellOk l x y z = validP (plainL (soldL l x y z)) := by unfold sellOk; rw [hw, hs]; rfl
      have hx : sellX l x y z = ifP (plainL (soldL l x y z)) := by unfold sellX ifP; rw [ho]
      have Hx := Lib.hid hx; clear hx
      have Ho := Lib.hid ho; clear ho
      have Hw := Lib.hid (hzo.symm.trans hw); clear hw hs
      have Hln := Lib.hid (ownP_len hz)
      have Hpos := Lib.hid (ownP_pos hz)
      have Hyl := Lib.hid yl
      have hpl := (plainL_bd (soldL l x y z)).1
      rw [soldL_len] at hpl
      have Hpl := Lib.hid hpl
      obtain ⟨k0, rfl⟩ : ∃ k : Nat, x = k := ⟨x.toNat, by omega⟩
      have hy9 : y ≤ 1188 := by have := Hln.out; omega
      clear hv hl hz hpl yl
      go_enter Try.func32, Try.ntmps32
      go_wp2_with fail
      refine Hstr.out.mono ?_; rintro e w1 ⟨rfl, hb1⟩
      have HB := Lib.hid hb1; clear hb1
      go_wp2_with fail
      refine (l6In_any _ _ _ _).mono ?_; rintro e w1 ⟨rfl, rfl⟩; rw [Hw.out]
      go_wp2_with fail
      refine (How.out _ HB.out).mono ?_
      rintro e w2 ⟨ad, cp, rfl, hcp, hown, hblk, hb2⟩
      obtain ⟨g, rfl, hgl, hgi, hgr⟩ := hown (by intro h; have := Hpos.out; simp [h] at this)
      have hgb := (hblk g ⟨0, rfl⟩).1
      have hsz := HB.out.size
      have HB2 := Lib.hid (HB.out.trans (hb2.mono hsz))
      have Hgi := Lib.hid hgi
      have Hgr := Lib.hid hgr
      have Hcp := Lib.hid hcp
      clear hown hblk hb2 hgi hgr hcp
      go_wp2
      go_loopw [11] (fun i wr => SeRel l k0 y z g w i wr) (fun i _ => (y - intOf i).toNat)
      case atStart => exact ⟨k0, by omega, by omega, rfl, by rw [soldL_none]; exact Hgi.out, Hgr.out, HB2.out⟩
      case round =>
        obtain ⟨k, ha, hkb, rfl, h1, h2, h3⟩ := hrel
        by_cases hlt : (k : Int) < y
        · have hkl : k < (ownP l).length := by have := Hyl.out; omega
          have hup := soldL_up l k0 z k ha hkl
          have hidx : k < (soldL l k0 k z).length := by rw [soldL_len]; exact hkl
          have hset := h1.setQ (v := z) hidx
          rw [← hup] at hset
          obtain ⟨u0, e0⟩ := h2.1 k hkl
          have f0 := h2.2 k
          have hki : (k : Int) < ((ownP l).length : Int) := by omega
          have hkz : (0 : Int) ≤ (k : Int) := Int.natCast_nonneg _
          have H1 := Lib.hid hset
          have H2 := Lib.hid h2
          have H3 := Lib.hid h3
          clear h1 h2 h3 hset hup hidx
          generalize hnn : (ownP l).length = nn at *
          go_wp2
          exact ⟨⟨k + 1, by omega, by omega, by go_num, by rw [Int.natCast_add]; exact H1.out, by rw [hnn]; exact H2.out.setCell _ _, H3.out.setCell (p := ⟨g, k, none⟩) (by show w.heap.size ≤ g; omega) _⟩, by simp [intOf]; omega⟩
        · have hky : (k : Int) = y := by omega
          subst hky
          have hlt' := Lib.hid hlt
          have hown2 : OwnI wr (some ⟨g, 0, none⟩) (soldL l k0 k z) := fun _ => ⟨g, rfl, World.block_lt_of_cell? _ _ (h1 0 (by rw [soldL_len]; exact Hpos.out)), h1, by rw [soldL_len]; exact h2⟩
          have hints := hown2.ints (cap := cp) (by rw [soldL_len]; exact Hcp.out)
          have Hpa := Lib.hid (parts1_any _ (soldL l k0 k z) wr hints (by rw [soldL_len]; exact Hln.out))
          rw [soldL_len] at Hpa
          have HB3 := Lib.hid h3
          clear h1 h2 h3 hown2 hints
          generalize hnn : (ownP l).length = nn at *
          go_wp2_with fail
          refine Hpa.out.mono ?_
          rintro e w3 ⟨ad3, cp3, rfl, hrow, hb3⟩
          have HB4 := Lib.hid (HB3.out.trans (hb3.mono HB3.out.size))
          have HR := Lib.hid (RowPt.out hrow HB3.out.size HB4.out)
          obtain ⟨ad', cap', e, hc, hown, _⟩ := hrow.row
          injection e with e1 e2 e3
          subst e1 e3
          have Hv3 := Lib.hid (valid1_any _ (plainL (soldL l k0 k z)) w3 (hown.ins hc) (by have := Hpl.out; have := Hln.out; omega))
          clear hown hb3 hc hrow
          generalize hn2 : (plainL (soldL l k0 k z)).length = n2 at *
          cases hq : validP (plainL (soldL l k0 k z)) with
          | false =>
            rw [hq] at Hv3
            have HX := Lib.hid (Hx.out.trans (ifP_no hq))
            have HO := Lib.hid (Ho.out.trans hq)
            clear hq
            go_wp2_with fail
            refine Hv3.out.mono ?_; rintro e w4 ⟨rfl, rfl⟩
            go_wp2
            go_ret2
            rw [HX.out, HO.out]
            exact PtOut.noM HB4.out.size (by simp) (HB4.out.alloc HB4.out.size _)
          | true =>
            rw [hq] at Hv3
            have HX := Lib.hid (Hx.out.trans (ifP_yes hq))
            have HO := Lib.hid (Ho.out.trans hq)
            clear hq
            go_wp2_with fail
            refine Hv3.out.mono ?_; rintro e w4 ⟨rfl, rfl⟩
            go_wp2
            go_ret2
            rw [HX.out, HO.out]
            exact HR.out

end Go.Proofs.Ythdkjjfnockldaa
