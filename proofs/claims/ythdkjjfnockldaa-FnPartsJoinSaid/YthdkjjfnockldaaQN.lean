/- The program's PartsTurn, PartsJoin. -/
import Derived.Test.YthdkjjfnockldaaQM
import Derived.Test.YthdkjjfnockldaaPCL
import Derived.Test.YthdkjjfnockldaaPKC
namespace Go.Proofs.Ythdkjjfnockldaa
open Go.RowKit

set_option maxHeartbeats 1000000 in
theorem turn2_any (v : Value) (l : List Pt) (w : World) (hv : PtIn w v l) (hm : l.length ≤ 1048576) :
    Calls Try.prog 23 #[v] w (PtOut (turnX l) (validP l) w) := by
  have Hval := Lib.hid (valid2_any v l w hv hm)
  cases hz : validP l with
  | false =>
    have hx : turnX l = [] := by unfold turnX; rw [hz]; rfl
    have Hx := Lib.hid hx; clear hx
    rw [hz] at Hval
    clear hv
    go_enter Try.func23, Try.ntmps23
    go_wp2_with fail
    refine Hval.out.mono ?_; rintro e w1 ⟨rfl, hb1⟩
    have HB := Lib.hid hb1; clear hb1
    go_wp2
    go_ret2
    rw [Hx.out]
    exact PtOut.no HB.out.size (by simp) (HB.out.alloc HB.out.size _)
  | true =>
    have hx : turnX l = l.reverse := by unfold turnX; rw [hz]; rfl
    have Hx := Lib.hid hx; clear hx
    rw [hz] at Hval
    obtain ⟨b, o, cap, rfl, _, hb, hl⟩ := hv.full hz
    have hne : l ≠ [] := by intro h; have := (validP_iff.1 hz).1; simp [h] at this
    have Hne := Lib.hid hne; clear hz hne
    go_enter Try.func23, Try.ntmps23
    go_wp2_with fail
    refine Hval.out.mono ?_; rintro e w1 ⟨rfl, hb1⟩
    have Hcl := Lib.hid (clonePt_any b o cap l w1 (Nat.lt_of_lt_of_le hb hb1.size) (hl.below hb1 hb) hm)
    have HB := Lib.hid hb1; clear hb1 hl
    go_wp2_with fail
    refine Hcl.out.mono ?_; rintro e w2 ⟨v2, rfl, hrow, hb2⟩
    obtain ⟨ad2, cap2, rfl, hc2, hown, hblk⟩ := hrow.row
    obtain ⟨g, rfl, hgl, hat, hroom⟩ := hown Hne.out
    have hgb := (hblk g ⟨0, rfl⟩).1
    have Hrv := Lib.hid (reversePt_any g cap2 l w2 hat hroom hm)
    have hsz := HB.out.size
    have HB2 := Lib.hid (HB.out.trans (hb2.mono hsz))
    have hs2 := hb2.size
    clear hat hroom hown hblk hrow hb2
    go_wp2_with fail
    refine Hrv.out.mono ?_; rintro e w3 ⟨rfl, hat3, hroom3, ht3⟩
    have Hat := Lib.hid hat3
    have Hro := Lib.hid hroom3
    have Ht := Lib.hid ht3
    clear hat3 hroom3 ht3
    go_wp2
    go_ret2
    rw [Hx.out]
    have hs3 := Ht.out.size
    refine ⟨some ⟨g, 0, none⟩, cap2, by rw [List.length_reverse]; rfl, by rw [List.length_reverse]; exact hc2, fun _ => ⟨g, rfl, by omega, Hat.out, by rw [List.length_reverse]; exact Hro.out⟩, fun j hj => ?_, HB2.out.trans (Ht.out.below (fun j hj => by omega) HB2.out.size)⟩
    obtain ⟨o', ho⟩ := hj
    cases ho
    omega

theorem pairTo {α : Type} (a b : α) (i : Nat) (h : i < 2) : i = 0 ∨ i = 1 := by omega

set_option maxHeartbeats 1000000 in
theorem join2_any (v v' : Value) (l l' : List Pt) (w : World) (hv : PtIn w v l) (hv' : PtIn w v' l') (hm : l.length ≤ 1048576) (hm' : l'.length ≤ 1048576) :
    Calls Try.prog 37 #[v, v'] w (PtOut (joinX l l') (joinOk l l') w) := by
  have Hval := Lib.hid (valid2_any v l w hv hm)
  have Hval' := Lib.hid (fun w' (h : Below w.heap.size w w') => valid2_any v' l' w' (hv'.below h) hm')
  cases hz : validP l with
  | false =>
    have ho : joinOk l l' = false := by unfold joinOk; rw [hz]; rfl
    have hx : joinX l l' = [] := by unfold joinX; rw [ho]; rfl
    have Hx := Lib.hid hx; clear hx
    have Ho := Lib.hid ho; clear ho
    rw [hz] at Hval
    obtain ⟨a, cap, rfl, _, _⟩ := hv
    obtain ⟨a', cap', rfl, _, _⟩ := hv'
    go_enter Try.func37, Try.ntmps37
    go_wp2_with fail
    refine Hval.out.mono ?_; rintro e w1 ⟨rfl, hb1⟩
    have HB := Lib.hid hb1; clear hb1
    go_wp2
    go_ret2
    rw [Hx.out, Ho.out]
    exact PtOut.no HB.out.size (by simp) (HB.out.alloc HB.out.size _)
  | true =>
    rw [hz] at Hval
    cases hz' : validP l' with
    | false =>
      have ho : joinOk l l' = false := by unfold joinOk; rw [hz, hz']; rfl
      have hx : joinX l l' = [] := by unfold joinX; rw [ho]; rfl
      have Hx := Lib.hid hx; clear hx
      have Ho := Lib.hid ho; clear ho
      rw [hz'] at Hval'
      obtain ⟨a, cap, rfl, _, _⟩ := hv
      obtain ⟨a', cap', rfl, _, _⟩ := hv'
      go_enter Try.func37, Try.ntmps37
      go_wp2_with fail
      refine Hval.out.mono ?_; rintro e w1 ⟨rfl, hb1⟩
      have HB := Lib.hid hb1; clear hb1
      go_wp2_with fail
      refine (Hval'.out w1 HB.out).mono ?_; rintro e w2 ⟨rfl, hb2⟩
      have HB2 := Lib.hid (HB.out.trans (hb2.mono HB.out.size)); clear hb2
      go_wp2
      go_ret2
      rw [Hx.out, Ho.out]
      exact PtOut.no HB2.out.size (by simp) (HB2.out.alloc HB2.out.size _)
    | true =>
      have ho : joinOk l l' = validP (l ++ l') := by unfold joinOk; rw [hz, hz']; rfl
      have hx : joinX l l' = ifP (l ++ l') := by unfold joinX ifP; rw [ho]
      have Hx := Lib.hid hx; clear hx
      have Ho := Lib.hid ho; clear ho
      rw [hz'] at Hval'
      have hj1 := (validP_iff.1 hz).2.1
      have hj0 := (validP_iff.1 hz).1
      have hj2 := (validP_iff.1 hz').2.1
      have Hla := Lib.hid (show (l ++ l').length ≤ 1048576 by rw [List.length_append]; omega)
      obtain ⟨b, o, cap, rfl, hcap, hb, hl⟩ := hv.full hz
      obtain ⟨b', o', cap', rfl, hcap', hb', hl'⟩ := hv'.full hz'
      have Hl := Lib.hid hl
      have Hl' := Lib.hid hl'
      clear hl hl' hz hz'
      go_enter Try.func37, Try.ntmps37
      go_wp2_with fail
      refine Hval.out.mono ?_; rintro e w1 ⟨rfl, hb1⟩
      have HB := Lib.hid hb1; clear hb1
      go_wp2_with fail
      refine (Hval'.out w1 HB.out).mono ?_; rintro e w2 ⟨rfl, hb2⟩
      have HB2 := Lib.hid (HB.out.trans (hb2.mono HB.out.size)); clear hb2
      have hpt : PtsTwo (w2.alloc (.cells #[.slice (some ⟨b, o, none⟩) l.length cap, .slice (some ⟨b', o', none⟩) l'.length cap'] 23)) w2.heap.size (fun i => if i = 0 then ⟨b, o, none⟩ else ⟨b', o', none⟩) (fun i => if i = 0 then cap else cap') (fun i => if i = 0 then l else l') := by
        have hs2 := HB2.out.size
        have hB3 : Below w.heap.size w (w2.alloc (.cells #[.slice (some ⟨b, o, none⟩) l.length cap, .slice (some ⟨b', o', none⟩) l'.length cap'] 23)) := HB2.out.alloc hs2 _
        refine ⟨by simp, fun i hi => ?_, fun i hi _ => ?_, fun i hi => ?_⟩
        · have hn := news1 w2 #[.slice (some ⟨b, o, none⟩) l.length cap, .slice (some ⟨b', o', none⟩) l'.length cap'] 23
          rcases pairTo 0 0 i hi with rfl | rfl
          · exact hn 0 _ rfl
          · have := hn 1 _ rfl
            have ha : (⟨w2.heap.size, 0, none⟩ : Addr).add 1 = ⟨w2.heap.size, 1, none⟩ := by unfold Addr.add; split <;> simp_all
            rw [ha] at this
            simp
        · rcases pairTo 0 0 i hi with rfl | rfl
          · simp; omega
          · simp; omega
        · rcases pairTo 0 0 i hi with rfl | rfl
          · have := PtAt.news (f := 0) (n := l.length) (Hl.out.below hB3 hb) (by omega)
            simpa using this
          · have := PtAt.news (f := 0) (n := l'.length) (Hl'.out.below hB3 hb') (by omega)
            simpa using this
      have hcat : catPt (fun i => if i = 0 then l else l') 2 = l ++ l' := by simp [catPt]
      have Hcc := Lib.hid (concatPt_any _ _ _ _ _ hpt (by rw [hcat, List.length_append]; omega) (by rw [hcat, List.length_append]; omega))
      rw [hcat] at Hcc
      clear hpt hcat
      go_wp2_with fail
      refine Hcc.out.mono ?_; rintro e w3 ⟨v3, rfl, hrow, hb3⟩
      have hs2 := HB2.out.size
      have hB3 := (HB2.out.alloc hs2 (.cells #[.slice (some ⟨b, o, none⟩) l.length cap, .slice (some ⟨b', o', none⟩) l'.length cap'] 23)).trans (hb3.mono (by simp; omega))
      obtain ⟨ad3, cap3, rfl, _⟩ := hrow.row
      have Hif := Lib.hid (ifParts_any ad3 cap3 _ _ w w3 hrow (by simp; omega) hB3 Hla.out)
      clear hrow hb3 hB3
      generalize hq : (l ++ l').length = n at *
      go_wp2_with fail
      refine Hif.out.mono ?_; rintro e w4 ⟨ad4, cp4, rfl, hcp, hown, hblk, hb4⟩
      have HR : Hid (PtOut (ifP (l ++ l')) (validP (l ++ l')) w (.returned (.tuple #[.slice ad4 (ifP (l ++ l')).length cp4, .bool (validP (l ++ l'))])) w4) := Lib.hid ⟨ad4, cp4, rfl, hcp, hown, hblk, hb4⟩
      clear hown hblk hb4
      generalize hi : (ifP (l ++ l')).length = m at *
      generalize hj : validP (l ++ l') = ok at *
      go_wp2
      go_ret2
      rw [Hx.out, Ho.out]
      exact HR.out

end Go.Proofs.Ythdkjjfnockldaa
