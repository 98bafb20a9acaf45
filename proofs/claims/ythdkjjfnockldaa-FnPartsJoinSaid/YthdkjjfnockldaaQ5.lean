/- The model's PartsTurn, PartsJoin. -/
import Derived.Test.YthdkjjfnockldaaQ4
namespace Go.Proofs.Ythdkjjfnockldaa
open Go.RowKit

def TnRel (l : List Pt) (w : World) (u i : Value) (wr : World) : Prop :=
  ∃ k : Nat, k ≤ l.length ∧ i = .int .i64 ((k : Int) - 1) ∧ RowPt wr w.heap.size u (l.drop k).reverse ∧ Below w.heap.size w wr

set_option maxRecDepth 100000 in
set_option maxHeartbeats 2000000 in
theorem turn1_any (v : Value) (l : List Pt) (w : World) (hv : PtIn w v l) (hm : l.length ≤ 1048576) :
    Calls Try.prog 34 #[v] w (PtOut (turnX l) (validP l) w) := by
  obtain ⟨i0, hi, hz0, hz1, hz2⟩ := info_parts infoPt
  have Hval := Lib.hid (fun w' (h : Below w.heap.size w w') => valid1_any v l w' (hv.below h) (by omega))
  have hb0 : Below w.heap.size w (w.alloc (.cells #[] 41)) := (Below.refl _ _).alloc (Nat.le_refl _) _
  have Hb0 := Lib.hid hb0; clear hb0
  cases hz : validP l with
  | false =>
    have hx : turnX l = [] := by unfold turnX; rw [hz]; rfl
    have Hx := Lib.hid hx; clear hx
    rw [hz] at Hval
    obtain ⟨a, cap, rfl, _, _⟩ := hv
    have hnw : wrap64 ((l.length : Int) - 1) = (l.length : Int) - 1 := by unfold wrap64; omega
    by_cases h0 : l.length = 0
    · have hneg : ¬ ((l.length : Int) - 1 ≥ 0) := by omega
      have H0 := Lib.hid h0
      clear h0
      generalize hn : l.length = n at *
      go_enter Try.func34, Try.ntmps34
      go_wp2
      refine wp_loop_rounds 1 ?_
      rw [rounds_succ]
      go_wp2_with fail
      refine (Hval.out _ Hb0.out).mono ?_; rintro e w1 ⟨rfl, hw⟩
      subst hw
      go_wp2
      go_ret2
      rw [Hx.out]
      exact PtOut.noM (Nat.le_refl _) (by simp) Hb0.out
    · have hpos : (0 : Int) ≤ (l.length : Int) - 1 := by omega
      clear h0
      generalize hn : l.length = n at *
      go_enter Try.func34, Try.ntmps34
      go_wp2
      refine wp_loop_rounds 1 ?_
      rw [rounds_succ]
      go_wp2_with fail
      refine (Hval.out _ Hb0.out).mono ?_; rintro e w1 ⟨rfl, hw⟩
      subst hw
      go_wp2_with fail
      refine (Hval.out _ Hb0.out).mono ?_; rintro e w1 ⟨rfl, hw⟩
      subst hw
      go_wp2
      go_ret2
      rw [Hx.out]
      exact PtOut.noM (Nat.le_refl _) (by simp) Hb0.out
  | true =>
    have hx : turnX l = l.reverse := by unfold turnX; rw [hz]; rfl
    have Hx := Lib.hid hx; clear hx
    rw [hz] at Hval
    obtain ⟨b, o, cap, rfl, _, hb, hl⟩ := PtIn.full hv hz
    have hl12 := (validP_iff.1 hz).2.1
    have Hl := Lib.hid hl
    clear hl hv hz
    have hnw : wrap64 ((l.length : Int) - 1) = (l.length : Int) - 1 := by unfold wrap64; omega
    go_enter Try.func34, Try.ntmps34
    go_wp2
    go_loopw [4, 5] (fun u i wr => TnRel l w u i wr) (fun _ i _ => (intOf i + 1).toNat)
    case atStart => exact ⟨l.length, Nat.le_refl _, rfl, by rw [List.drop_length]; exact RowPt.made w w.heap.size (Nat.le_refl _), Hb0.out⟩
    case round =>
      obtain ⟨k, hk, rfl, hrow, hbel⟩ := hrel
      by_cases hpos : 0 < k
      · obtain ⟨j, rfl⟩ : ∃ j, k = j + 1 := ⟨k - 1, by omega⟩
        rw [show ((j + 1 : Nat) : Int) - 1 = (j : Int) by omega]
        obtain ⟨c0, c1⟩ := (Hl.out.below hbel hb) j (by omega)
        have hst : (l.drop j).reverse = (l.drop (j + 1)).reverse ++ [l.getD j pt0] := by
          rw [List.drop_eq_getElem_cons (show j < l.length by omega), List.reverse_cons, Pt.getD_eq l (by omega)]
        have hlen : (l.drop (j + 1)).reverse.length = l.length - (j + 1) := by simp
        have hown := hrow
        unfold RowPt at hown
        rw [hlen] at hown
        obtain ⟨⟨xa, xb⟩, hr⟩ : ∃ r, l.getD j pt0 = r := ⟨_, rfl⟩
        rw [hr] at c0 c1 hst
        simp only at c0 c1
        have hsz := hbel.size
        have HB := Lib.hid hbel
        have Hst := Lib.hid hst
        have Hlen := Lib.hid hlen
        have hj0 : (0 : Int) ≤ (j : Int) := Int.natCast_nonneg _
        have hj1 : (j : Int) < (l.length : Int) := by omega
        have hjn : j < l.length := by omega
        have HV := Lib.hid (Hval.out _ hbel)
        clear hrow hbel hst hlen hr
        generalize hys : (l.drop (j + 1)).reverse = ys at *
        generalize hn : l.length = n at *
        go_wp2_with fail
        refine HV.out.mono ?_; rintro e w1 ⟨rfl, hw⟩
        obtain rfl : wr = w1 := hw.symm
        go_wp2_with (at_builtin; refine wpList_append_own _ rfl _ _ 23 rfl w.heap.size 41 i0 _ 2 16 Try.underlying23 hi hz0 hz1 hz2 rfl (by omega) _ _ (encPt ys) rfl (World.ownsRow.alloc hown _) ⟨wr.heap.size, 0, none⟩ 1 1 [.int .i64 xa, .int .i64 xb] rfl rfl (World.news_of_block (cs := #[.int .i64 xa, .int .i64 xb]) (t := 41) (fr := (0, 0)) (heap_alloc_new _ _)) (by simp [Value.oneCell']) (by unfold maxLen; omega) (by omega) (by simp; omega) ?_; intro v' w8 hown8 hgrow _)
        have HB8 := Lib.hid ((HB.out.alloc hsz (.cells #[.int .i64 xa, .int .i64 xb] 41)).grown hgrow (by simp; omega) (fun j hj => (hown.lt j hj).1))
        have Hown8 := Lib.hid (show RowPt w8 w.heap.size v' (ys ++ [⟨xa, xb⟩]) from RowPt.snoc (by rw [Hlen.out]; exact hown8))
        clear hown8 hgrow hown
        go_wp2
        exact ⟨⟨j, by omega, by go_num, by rw [Hst.out]; exact Hown8.out, HB8.out⟩, by simp [intOf]⟩
      · obtain rfl : k = 0 := by omega
        rw [List.drop_zero] at hrow
        rw [← Hx.out] at hrow
        have hneg : ¬ (((0 : Nat) : Int) - 1 ≥ 0) := by omega
        have HV := Lib.hid (Hval.out _ hbel)
        obtain ⟨ad2, cap2, rfl, _⟩ := hrow.row
        have HR := Lib.hid (RowPt.out hrow (Nat.le_refl _) hbel)
        clear hrow hbel
        generalize hn : (turnX l).length = n at *
        go_wp2_with fail
        refine HV.out.mono ?_; rintro e w1 ⟨rfl, hw⟩
        subst hw
        go_wp2
        go_ret2
        exact HR.out

theorem valid2M (ad : Option Addr) (cap : Nat) (q : List Pt) (w : World) (hv : PtIn w (.slice ad q.length cap) q) (hq : q.length ≤ 2097152) :
    Calls Try.prog 52 #[.slice ad q.length cap] w fun e w' => e = .returned (.bool (validP q)) ∧ w' = w := valid1_any _ q w hv hq

theorem PtIn.news {w : World} {ad : Addr} {n cap : Nat} {l : List Pt} (hn : n = l.length) (h : PtIn w (.slice (some ad) n cap) l) : ∀ j u, (encPt l)[j]? = some u → w.cell? (ad.add j) = some u := by
  subst hn
  intro j u hj
  by_cases hl : l = []
  · subst hl; simp [encPt] at hj
  · obtain ⟨a, cap', e, _, ha⟩ := h
    injection e with e1 e2 e3
    obtain ⟨b, o, e4, hb, hat⟩ := ha hl
    rw [e4] at e1
    injection e1 with e1
    subst e1
    have := PtAt.news (f := 0) (n := l.length) hat (by omega) j u
    simpa using this (by simpa using hj)

set_option maxRecDepth 100000 in
set_option maxHeartbeats 2000000 in
theorem join1_any (ad ad' : Addr) (cap cap' : Nat) (l l' : List Pt) (w : World) (hv : PtIn w (.slice (some ad) l.length cap) l) (hv' : PtIn w (.slice (some ad') l'.length cap') l') (hm : l.length ≤ 1048576) (hm' : l'.length ≤ 1048576) :
    Calls Try.prog 38 #[.slice (some ad) l.length cap, .slice (some ad') l'.length cap'] w (PtOut (joinX l l') (joinOk l l') w) := by
  obtain ⟨i0, hi, hz0, hz1, hz2⟩ := info_parts infoPt
  have Hval := Lib.hid (fun w' (h : Below w.heap.size w w') => valid1_any _ l w' (hv.below h) (by omega))
  have Hval' := Lib.hid (fun w' (h : Below w.heap.size w w') => valid1_any _ l' w' (hv'.below h) (by omega))
  have hb0 : Below w.heap.size w (w.alloc (.cells #[] 41)) := (Below.refl _ _).alloc (Nat.le_refl _) _
  have hnews := (hv.below hb0).news rfl
  have Hnews' := Lib.hid (fun w' (h : Below w.heap.size w w') => (hv'.below h).news rfl)
  have hown := RowPt.made w w.heap.size (Nat.le_refl _)
  have HB0 := Lib.hid hb0
  have Hno : Hid (∀ W, Below w.heap.size w W → joinOk l l' = false → PtOut (joinX l l') (joinOk l l') w (.returned (.tuple #[.slice (some ⟨W.heap.size, 0, none⟩) 0 0, .bool false])) (W.alloc (.cells #[] 41))) := Lib.hid (fun W hb ho => by
    have hx : joinX l l' = [] := by unfold joinX; rw [ho]; rfl
    rw [hx, ho]
    exact PtOut.noM hb.size (by simp) (hb.alloc hb.size _))
  have Hjo := Lib.hid (show joinOk l l' = (validP l && (validP l' && validP (l ++ l'))) from rfl)
  have Hjx := Lib.hid (show joinOk l l' = true → joinX l l' = l ++ l' from fun h => by unfold joinX; rw [h]; rfl)
  unfold RowPt at hown
  clear hv hv' hb0
  go_enter Try.func38, Try.ntmps38
  go_wp2_with (first | (at_builtin; refine wpList_append_own _ rfl _ _ 23 rfl w.heap.size 41 i0 _ 2 16 Try.underlying23 hi hz0 hz1 hz2 rfl (by omega) _ _ (encPt []) rfl hown ad l.length cap (encPt l) rfl (encPt_len l) hnews (encPt_one l) (by simp only [maxLen, List.length_nil]; omega) (by simp only [List.length_nil]; omega) (by simp) ?_; intro v1 w1 hown1 hgrow1 _; have hb1 := HB0.out.grown hgrow1 (by simp) (fun j hj => (hown.lt j hj).1); have hnews2 := Hnews'.out w1 hb1; have hs1 := hb1.size) | (at_builtin; refine wpList_append_own _ rfl _ _ 23 rfl w.heap.size 41 i0 _ 2 16 Try.underlying23 hi hz0 hz1 hz2 rfl (by omega) _ _ _ rfl hown1 ad' l'.length cap' (encPt l') rfl (encPt_len l') hnews2 (encPt_one l') (by simp only [maxLen, List.length_nil]; omega) (by simp only [List.length_nil]; omega) hs1 ?_; intro v2 w2 hown2 hgrow2 _; have hb2 := hb1.grown hgrow2 hs1 (fun j hj => (hown1.lt j hj).1)))
  have HB2 := Lib.hid hb2
  have hrow : RowPt w2 w.heap.size v2 (l ++ l') := by
    unfold RowPt
    rw [List.length_append, encPt_append]
    simpa [encPt] using hown2
  have HV := Lib.hid (Hval.out w2 hb2)
  have HV' := Lib.hid (Hval'.out w2 hb2)
  obtain ⟨adr, capr, rfl, hc, hor, hin⟩ := hrow.row
  have hlen2 : (l ++ l').length ≤ 2097152 := by rw [List.length_append]; omega
  have HR : Hid (joinOk l l' = true → PtOut (joinX l l') (joinOk l l') w (.returned (.tuple #[.slice adr (l ++ l').length capr, .bool true])) w2) := Lib.hid (fun h => by
    rw [Hjx.out h, h]; exact RowPt.out hrow (Nat.le_refl _) hb2)
  have Hin := Lib.hid (hor.ins hc)
  clear hrow hor hin hown1 hown2 hgrow1 hgrow2 hnews hnews2 hb1 hb2 hc hown Hnews' Hval Hval'
  cases hz : validP l with
  | false =>
    rw [hz] at HV
    have HN := Lib.hid (Hno.out w2 HB2.out (by rw [Hjo.out, hz]; rfl))
    clear hz
    generalize hnn : (l ++ l').length = nn at *
    refine HV.out.mono ?_; rintro e w3 ⟨rfl, hw⟩
    subst hw
    go_wp2
    go_ret2
    exact HN.out
  | true =>
    rw [hz] at HV
    cases hz' : validP l' with
    | false =>
      rw [hz'] at HV'
      have HN := Lib.hid (Hno.out w2 HB2.out (by rw [Hjo.out, hz, hz']; rfl))
      clear hz hz'
      generalize hnn : (l ++ l').length = nn at *
      refine HV.out.mono ?_; rintro e w3 ⟨rfl, hw⟩
      subst hw
      go_wp2_with fail
      refine HV'.out.mono ?_; rintro e w3 ⟨rfl, hw⟩
      subst hw
      go_wp2
      go_ret2
      exact HN.out
    | true =>
      rw [hz'] at HV'
      cases hz2 : validP (l ++ l') with
      | false =>
        have HN := Lib.hid (Hno.out w2 HB2.out (by rw [Hjo.out, hz, hz', hz2]; rfl))
        have HV3 := Lib.hid (valid2M adr capr (l ++ l') w2 Hin.out hlen2)
        rw [hz2] at HV3
        clear hz hz' hz2
        generalize hnn : (l ++ l').length = nn at *
        refine HV.out.mono ?_; rintro e w3 ⟨rfl, hw⟩
        subst hw
        go_wp2_with fail
        refine HV'.out.mono ?_; rintro e w3 ⟨rfl, hw⟩
        subst hw
        go_wp2_with fail
        refine HV3.out.mono ?_; rintro e w3 ⟨rfl, hw⟩
        subst hw
        go_wp2
        go_ret2
        exact HN.out
      | true =>
        have HN := Lib.hid (HR.out (by rw [Hjo.out, hz, hz', hz2]; rfl))
        have HV3 := Lib.hid (valid2M adr capr (l ++ l') w2 Hin.out hlen2)
        rw [hz2] at HV3
        clear hz hz' hz2
        generalize hnn : (l ++ l').length = nn at *
        refine HV.out.mono ?_; rintro e w3 ⟨rfl, hw⟩
        subst hw
        go_wp2_with fail
        refine HV'.out.mono ?_; rintro e w3 ⟨rfl, hw⟩
        subst hw
        go_wp2_with fail
        refine HV3.out.mono ?_; rintro e w3 ⟨rfl, hw⟩
        subst hw
        go_wp2
        go_ret2
        exact HN.out

end Go.Proofs.Ythdkjjfnockldaa
