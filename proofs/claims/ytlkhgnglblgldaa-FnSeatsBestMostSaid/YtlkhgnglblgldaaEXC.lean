/- SeatsBest of the program. -/
import Derived.Test.YtlkhgnglblgldaaEXA
import Derived.Test.YtlkhgnglblgldaaEXB
import Derived.Test.YtlkhgnglblgldaaS
import Derived.Test.YtlkhgnglblgldaaIO
import Derived.Sort.OwnSortedInts
import Derived.BigRegion
import Derived.OwnWalk
namespace Go.Proofs.Ytlkhgnglblgldaa
open Go.RowKit Go.Sort

theorem sortI_own {w : World} {B cap g : Nat} {zs : List Int} (h : w.ownsRow B 3 1 (.slice (some ⟨g, 0, none⟩) zs.length cap) zs.length (zs.map (Value.int .i64))) (hl : zs.length < 1000000) :
    Calls Try.prog 47 #[.slice (some ⟨g, 0, none⟩) zs.length cap] w fun e w' => e = .returned (.tuple #[]) ∧ w'.ownsRow B 3 1 (.slice (some ⟨g, 0, none⟩) zs.length cap) zs.length ((zs.mergeSort fun x y => decide (x ≤ y)).map (Value.int .i64)) ∧ w.grownBy w' (some g) := by
  obtain ⟨_, h2⟩ := h
  rcases h2 with ⟨h0, _⟩ | ⟨g', cap', cur, he, hg, hh, hn, hcap, hsz, htake⟩
  · cases h0
  · cases he
    have hH := holds_of_blockI hh (ss := zs) (by simpa using htake)
    refine (Try.slices_Sort_int g 0 cap zs w hH (Array.getElem?_eq_some_iff.1 hh).1 (by omega)).mono ?_
    rintro e w' ⟨rfl, n, os, rfl⟩
    refine ⟨rfl, ?_, grownBy_sortedI _⟩
    exact ownsRow_sortedI (ss := zs) (ts := zs.mergeSort fun x y => decide (x ≤ y)) (by simp) hg hh hn hcap hsz
theorem ownI_shape {w : World} {B k : Nat} {v : Value} {xs : List Value} (h : w.ownsRow B 3 1 v (k + 1) xs) : ∃ g cap, v = .slice (some ⟨g, 0, none⟩) (k + 1) cap := by
  obtain ⟨_, h2⟩ := h
  rcases h2 with ⟨_, h0⟩ | ⟨g, cap, cur, rfl, _⟩
  · omega
  · exact ⟨g, cap, rfl⟩
def intsOf (xs : List Nat) : List Int := xs.map fun (i : Nat) => (i : Int)
theorem intsOf_len (xs : List Nat) : (intsOf xs).length = xs.length := by simp [intsOf]
theorem intsOf_snoc (xs : List Nat) (i : Nat) : intsOf (xs ++ [i]) = intsOf xs ++ [(i : Int)] := by simp [intsOf]
theorem goE_short {l : List Bk} (hf : ∀ i, i < l.length → (l.getD i bk0).a < (l.getD i bk0).b) (t : Nat) : (goE l t).2.length ≤ l.length := by
  have h := congrArg List.length (pickE_sort hf t)
  rw [List.length_mergeSort, List.length_map] at h
  rw [h]; exact pickE_len _ _ _
def lenS : Value → Nat
  | .slice _ n _ => n
  | _ => 0
def SbRel (l : List Bk) (w0 : World) (N : Nat) (u f ok : Value) (wr : World) : Prop :=
  ∃ (t g cap : Nat), t ≤ N ∧ (goE l t).1 = t ∧ u = .slice (some ⟨g, 0, none⟩) (goE l t).2.length cap ∧ f = .int .i64 ((feB l t).getD 0 : Nat) ∧ ok = .bool (feB l t).isSome ∧ RowI wr w0.heap.size u (intsOf (goE l t).2) ∧ Below w0.heap.size w0 wr

set_option maxRecDepth 100000 in
set_option maxHeartbeats 2000000 in
theorem seatsBest2_any (n : Int) (v : Value) (l : List Bk) (w : World) (hv : BkIn w v l) (hl : l.length ≤ 1048576) :
    Calls Try.prog 10 #[.int .i64 n, v] w (IntsOk (bestX n l) (bestOk n l) w) := by
  obtain ⟨i0, hi, hz0, hz1, hz2⟩ := info_parts Try.info3
  have HV := Lib.hid (books2_any n v l w hv hl)
  cases hz : validB n l with
  | false =>
    have hno : bestOk n l = false := by unfold bestOk; rw [hz]; rfl
    rw [bestX_no hno, hno]
    rw [hz] at HV
    clear hv hz hno
    go_enter Try.func10, Try.ntmps10
    go_wp2_with fail
    refine HV.out.mono ?_; rintro e w1 ⟨rfl, hb1⟩
    have HB := Lib.hid hb1; clear hb1
    go_wp2
    go_ret2
    exact IntsOk.no HB.out.size (by simp) (HB.out.alloc HB.out.size _)
  | true =>
    rw [hz] at HV
    have hok : bestOk n l = l.all fun r => r.m := by unfold bestOk; rw [hz]; rfl
    have HN := Lib.hid (fun w' (hb : Below w.heap.size w w') => hasNot_any v l w' (hv.below hb) hl)
    obtain ⟨⟨hn1, hn7⟩, hl16, hfit, _⟩ := validB_iff.1 hz
    have hfa : ∀ i, i < l.length → fit7 (l.getD i bk0) := fun i hi => fit7_of hn7 (hfit i hi)
    have hfb : ∀ i, i < l.length → (l.getD i bk0).b ≤ n := fun i hi => (fitsB_iff.1 (hfit i hi)).2.2
    have hf : ∀ i, i < l.length → (l.getD i bk0).a < (l.getD i bk0).b := fun i hi => (hfa i hi).2.1
    cases hall : l.all fun r => r.m with
    | false =>
      rw [hall] at hok HN
      rw [bestX_no hok, hok]
      clear hv hz hok hfit hfa hfb hf hall
      go_enter Try.func10, Try.ntmps10
      go_wp2_with fail
      refine HV.out.mono ?_; rintro e w1 ⟨rfl, hb1⟩
      go_wp2_with fail
      refine (HN.out _ hb1).mono ?_; rintro e w2 ⟨rfl, hb2⟩
      have HB := Lib.hid (hb1.trans (hb2.mono hb1.size)); clear hb1 hb2
      go_wp2
      go_ret2
      exact IntsOk.no HB.out.size (by simp) (HB.out.alloc HB.out.size _)
    | true =>
      rw [hall] at hok HN
      rw [bestX_yes hok, hok]
      have HFE := Lib.hid (fun (s : Int) w' (hb : Below w.heap.size w w') => firstToEnd_any v l s w' (hv.below hb) hl)
      have Hf := Lib.hid hf
      have Hfa := Lib.hid hfa
      have Hfb := Lib.hid hfb
      obtain ⟨a, cap, rfl, hcap, ha⟩ := hv
      have Ha := Lib.hid ha
      clear hz hok hfit hfa hfb hf hall ha hcap
      go_enter Try.func10, Try.ntmps10
      go_wp2_with fail
      refine HV.out.mono ?_; rintro e w1 ⟨rfl, hb1⟩
      go_wp2_with fail
      refine (HN.out _ hb1).mono ?_; rintro e w2 ⟨rfl, hb2⟩
      have hb := hb1.trans (hb2.mono hb1.size)
      have hsz := hb.size
      have hr0 := RowI.made w2 w.heap.size hsz
      have hb' : Below w.heap.size w (w2.alloc (.cells #[] 3)) := hb.alloc hsz _
      have HR0 := Lib.hid hr0
      have HB' := Lib.hid hb'
      clear hb1 hb2 hb hr0 hb' HV HN
      go_wp2_with fail
      refine (HFE.out 0 _ HB'.out).mono ?_; rintro e w3 ⟨rfl, hb3⟩
      have HR := Lib.hid (HR0.out.below hb3)
      have HB := Lib.hid (HB'.out.trans (hb3.mono HB'.out.size))
      clear hb3 HR0 HB'
      unfold idxV
      go_wp2
      go_loopw [6, 7, 8] (fun u f ok wr => SbRel l w n.toNat u f ok wr) (fun u _ _ _ => l.length - lenS u)
      case atStart => exact ⟨0, w2.heap.size, 0, Nat.zero_le _, rfl, rfl, rfl, rfl, HR.out, HB.out⟩
      case round =>
        clear HR HB
        obtain ⟨t, g, cp, htn, ht, rfl, rfl, rfl, hrow, hbel⟩ := hrel
        cases hfe : feB l t with
        | none =>
          have Hend := Lib.hid (goE_end Hf.out ht htn hfe)
          simp only [Option.getD_none, Option.isSome_none]
          have hpk : pickE l n.toNat l.length = pickE l t l.length := by unfold pickE; rw [Hend.out]
          have hsort : ((intsOf (goE l t).2).mergeSort fun x y => decide (x ≤ y)) = pickE l t l.length := pickE_sort Hf.out t
          have hsh := goE_short Hf.out t
          have hlen := intsOf_len (goE l t).2
          have hown := hrow
          unfold RowI at hown
          rw [← hlen] at hown
          have hS := sortI_own hown (by omega)
          rw [hsort, hlen] at hS
          have hpl : (pickE l t l.length).length = (intsOf (goE l t).2).length := by rw [← hsort, List.length_mergeSort]
          rw [← hlen] at hS
          have Hgr := Lib.hid (fun w' (h : wr.grownBy w' (some g)) => hbel.grown h hbel.size (fun j hj => by injection hj with hj; subst hj; exact (hown.lt _ rfl).1))
          have HS := Lib.hid hS
          have Hpl := Lib.hid hpl
          rw [← hlen]
          have Hpk := Lib.hid hpk
          clear hpk hsort hsh hlen hown hS hpl hrow hbel Hend hfe
          generalize intsOf (goE l t).2 = zs at *
          generalize pickE l t l.length = ps at *
          go_wp2_with fail
          refine HS.out.mono ?_; rintro e w4 ⟨rfl, ho4, hg4⟩
          have HR4 := Lib.hid (show RowI w4 w.heap.size (.slice (some ⟨g, 0, none⟩) zs.length cp) ps by unfold RowI; rw [Hpl.out]; exact ho4)
          have HI := Lib.hid (IntsOk.row (w := w) true HR4.out (Nat.le_refl _) (Hgr.out w4 hg4))
          clear ho4 hg4 HR4
          go_wp2
          go_ret2
          rw [Hpk.out]
          exact HI.out
        | some i =>
          simp only [Option.getD_some, Option.isSome_some]
          have hsome := feTo_some hfe
          have hil : i < l.length := hsome.1
          obtain ⟨t', he1, he2, he3, he4⟩ := goE_next Hf.out ht hfe
          have hsh := goE_short Hf.out t'
          rw [he4, List.length_append] at hsh
          have htn' : t' ≤ n.toNat := by have := Hfb.out i hil; omega
          have hi' : (i : Int) < (l.length : Int) := by omega
          have hi0 : (0 : Int) ≤ (i : Int) := Int.natCast_nonneg _
          have hlen := intsOf_len (goE l t).2
          have hown := hrow
          unfold RowI at hown
          rw [hlen] at hown
          have hszr := hbel.size
          have HB := Lib.hid hbel
          have Hrow := Lib.hid hrow
          have Hsn := Lib.hid (show intsOf (goE l t').2 = intsOf (goE l t).2 ++ [(i : Int)] by rw [he4, intsOf_snoc])
          have Hlen := Lib.hid hlen
          have Hlen2 := Lib.hid (show (goE l t').2.length = (goE l t).2.length + 1 by rw [he4, List.length_append]; rfl)
          have He3 := Lib.hid he3
          have He1 := Lib.hid he1
          obtain ⟨b, o, rfl, hb0, hrw⟩ := Ha.out (by intro h; simp [h] at hil)
          have Hc1 := Lib.hid (fun w8 (hb8 : Below w.heap.size w w8) => (show w8.cell? ⟨b, o + i * 3 + 1, none⟩ = some (.int .i64 (t' : Int)) by rw [← he1]; exact ((hrw.below hb8 hb0) i hil).2.1))
          clear hrow hbel hsome he2 he3 he4 he1 hlen hrw hfe
          generalize (goE l t).2 = xs at *
          generalize hlx : xs.length = c at *
          simp only [List.length_singleton] at hsh
          go_wp2_with (at_builtin; refine wpList_append_own _ rfl _ _ 26 rfl w.heap.size 3 i0 (.int .i64 0) 1 8 Try.underlying26 hi hz0 hz1 hz2 rfl (by decide) _ _ _ rfl (hown.alloc _) ⟨wr.heap.size, 0, none⟩ 1 1 [.int .i64 i] rfl rfl (cell_one_new _ _ _) (by simp [Value.oneCell']) (by simp only [maxLen]; omega) (by omega) (by simp; omega) ?_; intro v' w8 hown8 hgrow _; have c1 := Hc1.out w8 ((HB.out.alloc hszr (.cells #[.int .i64 i] 3)).grown hgrow (by simp; omega) (fun j hj => (hown.lt j hj).1)))
          have hb8 := (HB.out.alloc hszr (.cells #[.int .i64 i] 3)).grown hgrow (by simp; omega) (fun j hj => (hown.lt j hj).1)
          have HB8 := Lib.hid hb8
          obtain ⟨g8, cp8, rfl⟩ := ownI_shape hown8
          have HR8 := Lib.hid (show RowI w8 w.heap.size (.slice (some ⟨g8, 0, none⟩) (c + 1) cp8) (intsOf (goE l t').2) by
            rw [Hsn.out]; exact RowI.snoc (by rw [Hlen.out]; exact hown8))
          have hs8 := hb8.size
          clear hown8 hgrow hown hb8 Hrow
          refine (HFE.out (t' : Int) _ HB8.out).mono ?_; rintro e w9 ⟨rfl, hb9⟩
          have HR9 := Lib.hid (HR8.out.below hb9)
          have HB9 := Lib.hid (HB8.out.trans (hb9.mono HB8.out.size))
          clear hb9 HR8 HB8
          unfold idxV
          go_wp2
          exact ⟨⟨t', g8, cp8, htn', He3.out, by rw [Hlen2.out], rfl, rfl, HR9.out, HB9.out⟩, by simp [lenS]; omega⟩

end Go.Proofs.Ytlkhgnglblgldaa
