/- RoadsNet of the model. -/
import Derived.Test.YtlkhgnglblgldaaNK
import Derived.Test.YtlkhgnglblgldaaRKS
import Derived.Test.YtlkhgnglblgldaaY
import Derived.Test.YtlkhgnglblgldaaIO
import Derived.Test.YtlkhgnglblgldaaHD
import Derived.Lib.AppendZeros
import Derived.Laws.OwnMore
import Derived.Deep.AppendLies
namespace Go.Proofs.Ytlkhgnglblgldaa
open Go.RowKit

theorem Try.infoBoolN : (Try.prog.info? 4).map (fun i => (i.zero, i.size, i.bytes)) = some (some (.bool false), 1, 1) := by kernel_rfl

/-- Marks: n cells of bool from ⟨b, 0⟩ on, that may be written. -/
def MkAt (w : World) (b n : Nat) (f : Nat → Bool) : Prop := (∀ i, i < n → w.cell? ⟨b, i, none⟩ = some (.bool (f i))) ∧ (∀ o, w.frozen? ⟨b, o, none⟩ = false) ∧ b < w.heap.size
theorem MkAt.made (w : World) (n : Nat) (t : TypeId) : MkAt (w.alloc (.cells (madeCells #[.bool false] n) t)) w.heap.size n (fun _ => false) :=
  ⟨fun i hi => by
    rw [World.cell?_alloc_new]
    rw [← Array.getElem?_toList, toList_madeCells_one, List.getElem?_replicate, if_pos hi], fun o => by simp, by simp⟩
theorem MkAt.put {w : World} {b n : Nat} {f : Nat → Bool} (h : MkAt w b n f) {k : Nat} (hk : k < n) (x : Bool) : MkAt (w.setCell ⟨b, k, none⟩ (.bool x)) b n (fun i => if i = k then x else f i) :=
  ⟨fun i hi => by
    by_cases e : i = k
    · subst e
      rw [World.cell?_setCell_same _ _ _ (h.1 i hi)]; simp
    · rw [World.cell?_setCell_other _ _ _ _ (by intro h; injection h; omega), h.1 i hi]; simp [e], fun o => by rw [World.frozen?_setCell]; exact h.2.1 o, by have := h.2.2; simpa [World.setCell] using this⟩
theorem MkAt.below {w w' : World} {b n : Nat} {f : Nat → Bool} (h : MkAt w b n f) {B : Nat} (hb : Below B w w') (hlt : b < B) : MkAt w' b n f :=
  ⟨fun i hi => by rw [hb.cell (p := ⟨b, i, none⟩) hlt]; exact h.1 i hi, fun o => by rw [hb.frozen (p := ⟨b, o, none⟩) hlt]; exact h.2.1 o, Nat.lt_of_lt_of_le h.2.2 hb.size⟩
theorem MkAt.blk {w w' : World} {b n : Nat} {f : Nat → Bool} (h : MkAt w b n f) (e : w'.heap[b]? = w.heap[b]?) (hs : w.heap.size ≤ w'.heap.size) : MkAt w' b n f :=
  ⟨fun i hi => by rw [World.cell?_of_block (a := ⟨b, i, none⟩) e]; exact h.1 i hi, fun o => by rw [World.frozen?_of_block (a := ⟨b, o, none⟩) e]; exact h.2.1 o, Nat.lt_of_lt_of_le h.2.2 hs⟩
theorem MkAt.drewN {w : World} {b n : Nat} {f : Nat → Bool} (h : MkAt w b n f) (m : Nat) : MkAt (w.drewN m) b n f := h
theorem contains_snocN (xs : List Nat) (k : Nat) : (fun i => (xs ++ [k]).contains i) = fun i => if i = k then true else xs.contains i := by
  funext i
  by_cases e : i = k
  · subst e; simp
  · simp [e]
theorem RowRz.setFar {w : World} {B g n cap : Nat} {l : List Rz} (h : RowRz w B (.slice (some ⟨g, 0, none⟩) n cap) l) {p : Addr} (hp : g ≠ p.block) (u : Value) : RowRz (w.setCell p u) B (.slice (some ⟨g, 0, none⟩) n cap) l := by
  obtain ⟨h1, h2⟩ := h
  refine ⟨h1, ?_⟩
  rcases h2 with ⟨h0, _⟩ | ⟨g', cap', cur, hv, hg, hh, r⟩
  · cases h0
  · cases hv
    exact .inr ⟨g, cap, cur, rfl, hg, (Below.heap_setCell w p u g hp).trans hh, r⟩

/-- Those taken so far, and their marks. -/
def NmRel (n : Int) (l : List Rd) (w : World) (mb : Nat) (o : List Nat) (u : Value) (wr : World) : Prop :=
  ∃ (g cap : Nat), u = .slice (some ⟨g, 0, none⟩) (pickR l (netTo n l o)).length cap ∧ (pickR l (netTo n l o)).length ≤ cap ∧ RowRz wr w.heap.size u (pickR l (netTo n l o)) ∧ g ≠ mb ∧ MkAt wr mb l.length (fun j => (netTo n l o).contains j) ∧ Below w.heap.size w wr

set_option maxRecDepth 100000 in
set_option maxHeartbeats 2000000 in
theorem net1_any (n : Int) (v : Value) (l : List Rd) (w : World) (hv : RoadsIn w v l) (hl : l.length ≤ 1048576) :
    Calls Try.prog 15 #[.int .i64 n, v] w (IntsOk (netL n l) (wholeOf n l) w) := by
  obtain ⟨i0, hinf, hz0, hz1, hz2⟩ := info_parts Try.info3
  obtain ⟨ir, hir, hr0, hr1, hr2⟩ := info_parts infoRz
  obtain ⟨i4, hi4, hz40, hz41, hz42⟩ := info_parts Try.infoBoolN
  have hmk := fun W => run_make_rowN (P := Try.prog) 75 4 i4 _ Try.underlying75 hi4 hz40 .i64 .i64 l.length l.length (Nat.le_refl _) (by rw [hz42]; omega) (by omega) W
  rw [hz41] at hmk
  simp only [Nat.mul_one] at hmk
  have HW := Lib.hid (specWhole_any n v l w hv hl)
  cases hok : wholeOf n l with
  | false =>
    rw [netL_no hok]
    rw [hok] at HW
    clear hok
    go_enter Try.func15, Try.ntmps15
    go_wp2_with fail
    refine HW.out.mono ?_; rintro e w1 ⟨rfl, hb1⟩
    have HB := Lib.hid hb1; clear hb1
    go_wp2
    go_ret2
    exact IntsOk.no HB.out.size (by simp) (HB.out.alloc HB.out.size _)
  | true =>
    rw [netL_yes hok]
    rw [hok] at HW
    have hz : validR n l = true := by unfold wholeOf at hok; rw [Bool.and_eq_true] at hok; exact hok.1
    obtain ⟨hn1, hn8, h16, hokT⟩ := valid_bounds hz
    have hfit := fun i (hi : i < l.length) => (fits_iff _ _).1 ((okAt_iff n l i).1 (okTo_at n l hokT hi)).1
    have Hfit := Lib.hid hfit
    have Hend := Lib.hid (ordT_end (l := l) fun i hi => ⟨(hfit i hi).2.2.2.1, (hfit i hi).2.2.2.2⟩)
    have Hz := Lib.hid hz
    obtain ⟨ad, cap, rfl, har⟩ := hv
    have Har := Lib.hid har
    clear hok hz hokT hfit har
    go_enter Try.func15, Try.ntmps15
    go_wp2_with fail
    refine HW.out.mono ?_; rintro e w1 ⟨rfl, hb1⟩
    have hs1 := hb1.size
    have hr1' := RowRz.made w1 w.heap.size hs1
    have hb2 : Below w.heap.size w (w1.alloc (.cells #[] 49)) := hb1.alloc hs1 _
    have hm3 := MkAt.made (w1.alloc (.cells #[] 49)) l.length 4
    have e2 : (w1.alloc (.cells #[] 49)).heap.size = w1.heap.size + 1 := by simp
    have hx3 : Below (w1.alloc (.cells #[] 49)).heap.size (w1.alloc (.cells #[] 49)) ((w1.alloc (.cells #[] 49)).alloc (.cells (madeCells #[.bool false] l.length) 4)) := (Below.refl _ _).alloc (Nat.le_refl _) _
    have hr3 := hr1'.below hx3
    have hb3 := hb2.trans (hx3.mono hb2.size)
    rw [e2] at hm3
    have HR3 := Lib.hid hr3; have HM3 := Lib.hid hm3; have HB3 := Lib.hid hb3
    have hmb : w.heap.size ≤ w1.heap.size + 1 := by omega
    clear hb1 hr1' hb2 hm3 e2 hx3 hr3 hb3 HW
    go_wp2
    generalize (w1.alloc (.cells #[] 49)).alloc (.cells (madeCells #[.bool false] l.length) 4) = w3 at *
    go_loopw [6, 8] (fun u tv wr => ∃ t : Nat, t ≤ 99 ∧ tv = .int .i64 (t + 1 : Nat) ∧ NmRel n l w (w1.heap.size + 1) (ordT l t 0) u wr) (fun _ tv _ => 101 - (intOf tv).toNat)
    case atStart => exact ⟨0, Nat.zero_le _, rfl, by rw [ordT_start]; exact ⟨w1.heap.size, 0, rfl, Nat.le_refl _, HR3.out, by omega, HM3.out, HB3.out⟩⟩
    case round =>
      clear HR3 HM3 HB3
      obtain ⟨t, ht, rfl, hrel⟩ := hrel
      obtain ⟨T, hT⟩ : ∃ T : Int, ((t + 1 : Nat) : Int) = T := ⟨_, rfl⟩
      rw [hT]
      have HT := Lib.hid hT
      by_cases htl : t < 99
      · have hT1 : T ≤ 99 := by omega
        have hT0 : 1 ≤ T := by omega
        clear hT
        have HRel := Lib.hid hrel
        clear hrel
        go_wp2
        go_loopw [6, 9] (fun u iv wr => ∃ i : Nat, i ≤ l.length ∧ iv = .int .i64 i ∧ NmRel n l w (w1.heap.size + 1) (ordT l t i) u wr) (fun _ iv _ => l.length - (intOf iv).toNat)
        case atStart => exact ⟨0, Nat.zero_le _, rfl, HRel.out⟩
        case round =>
          clear HRel
          obtain ⟨i, hi, rfl, hrel⟩ := hrel
          by_cases hil : i < l.length
          · have hil' : (i : Int) < (l.length : Int) := by omega
            have hi0 : (0 : Int) ≤ (i : Int) := Int.natCast_nonneg _
            obtain ⟨g, cp, rfl, hcp, hrow, hgm, hmk', hb⟩ := hrel
            obtain ⟨b, o, rfl, hb0, hrw⟩ := Har.out (by intro h; simp [h] at hil)
            obtain ⟨c1, c2, c3⟩ := (hrw.below hb hb0) _ hil
            have Hcell := Lib.hid (fun w' (h : Below w.heap.size w w') => (hrw.below h hb0) _ hil)
            have hft := Hfit.out _ hil
            obtain ⟨s1, s2, s3⟩ := net_inv (n := n) (ordT_nodup l t i) (fun j hj => ordT_mem hi hj)
            have hval := pickR_valid Hz.out s1 s2 s3
            have h16' : (pickR l (netTo n l (ordT l t i))).length ≤ 16 := by rw [pickR_len]; omega
            have Hhit := Lib.hid (fun h => ordT_hit (l := l) (t := t) (i := i) h)
            have Hmiss := Lib.hid (fun h => ordT_miss (l := l) (t := t) (i := i) h)
            rw [HT.out] at Hhit Hmiss
            have Hstep := Lib.hid (netTo_snoc n l (ordT l t i) i)
            have Hy := Lib.hid (fun h => stepK_yes (n := n) (l := l) (S := netTo n l (ordT l t i)) (i := i) h)
            have Hn := Lib.hid (fun h => stepK_no (n := n) (l := l) (S := netTo n l (ordT l t i)) (i := i) h)
            have Hps := Lib.hid (pickR_snoc l (netTo n l (ordT l t i)) i)
            have Hfr := Lib.hid (far_reach hval (l.getD i rd0).a (l.getD i rd0).b)
            have hgl : g < wr.heap.size := by
              obtain ⟨_, h2⟩ := hrow
              rcases h2 with ⟨h0, _⟩ | ⟨g', _, _, hv', _, hh, _⟩
              · cases h0
              · cases hv'; exact (Array.getElem?_eq_some_iff.1 hh).1
            have HB := Lib.hid hb; have Hrow := Lib.hid hrow; have HMk := Lib.hid hmk'
            clear hb hrow hmk' hrw s1 s2 s3 hval
            obtain ⟨r, hr⟩ : ∃ r, l.getD i rd0 = r := ⟨_, rfl⟩
            rw [hr] at c1 c2 c3 hft Hcell Hhit Hmiss Hps Hfr Hy Hn
            clear hr
            generalize hSo : netTo n l (ordT l t i) = S at *
            have HSo := Lib.hid hSo
            clear hSo
            obtain ⟨ra, rb, rm⟩ := r
            simp only at c1 c2 c3 hft Hcell Hhit Hmiss Hfr Hy Hn
            obtain ⟨f1, f2, f3, f4, f5⟩ := hft
            by_cases hm : rm = T
            · have hq : (rm == T) = true := by simpa using hm
              have HFar := Lib.hid (fun w' (h : Below wr.heap.size wr w') => specFar_any n _ (pickR l S) ra rb w' ((Hrow.out.in_ hcp).below h) (by omega))
              obtain ⟨f, hf⟩ : ∃ f, farOf n (pickR l S) ra rb = f := ⟨_, rfl⟩
              rw [hf] at HFar Hfr
              have Hh := Lib.hid (Hhit.out hm)
              clear hf Hhit Hmiss
              subst hm
              cases hrr : reachB n (edge (pickR l S)) ra rb with
              | true =>
                have Hst := Lib.hid (show netTo n l (ordT l t (i + 1)) = S by rw [Hh.out, Hstep.out]; exact Hy.out hrr)
                have hfd : decide (f < 0) = false := decide_eq_false (fun h => by have := Hfr.out.1 h; rw [hrr] at this; cases this)
                clear Hy Hn Hfr hrr Hh Hstep
                go_wp2
                refine wp_region_any (by kernel_rfl) ?_
                change wpAny _ _ _ _ 23 #[false, false, false, false, false, false, false, false, false, false, false, false, false, false, false, false, false, false, false, false, false, false, false] _ (World.drew _)
                refine with_Q (fun _ _ _ _ _ h => h) (fun Q hQ hN => ?_)
                refine take_op (i := 0) (d := 31) (v := .slice (some ⟨b, o, none⟩) l.length cap) rfl rfl (by kernel_rfl) (by kernel_rfl) (by kernel_rfl) hQ (Or.inl ⟨by rfl, fun _ => by first | rfl | (go_simp; done) | (go_simp; rfl)⟩) ?_
                simp only [Act.put, List.setIfInBounds_toArray, List.set_cons_zero, List.set_cons_succ]
                refine take_op (i := 1) (d := 32) (v := .int .i64 i) rfl rfl (by kernel_rfl) (by kernel_rfl) (by kernel_rfl) hQ (Or.inl ⟨by rfl, fun _ => by first | rfl | (go_simp; done) | (go_simp; rfl)⟩) ?_
                simp only [Act.put, List.setIfInBounds_toArray, List.set_cons_zero, List.set_cons_succ]
                refine take_op (i := 2) (d := 33) (v := .pointer (some ⟨b, o + i * 3, none⟩)) rfl rfl (by kernel_rfl) (by kernel_rfl) (by kernel_rfl) hQ (Or.inl ⟨by rfl, fun _ => by first | rfl | (go_simp; done) | (go_simp; rfl)⟩) ?_
                simp only [Act.put, List.setIfInBounds_toArray, List.set_cons_zero, List.set_cons_succ]
                refine take_op (i := 3) (d := 34) (v := .pointer (some ⟨b, o + i * 3 + 2, none⟩)) rfl rfl (by kernel_rfl) (by kernel_rfl) (by kernel_rfl) hQ (Or.inl ⟨by rfl, fun _ => by first | rfl | (go_simp; done) | (go_simp; rfl)⟩) ?_
                simp only [Act.put, List.setIfInBounds_toArray, List.set_cons_zero, List.set_cons_succ]
                refine take_op (i := 5) (d := 36) (v := .int .i64 rm) rfl rfl (by kernel_rfl) (by kernel_rfl) (by kernel_rfl) hQ (Or.inl ⟨by rfl, fun _ => by first | rfl | (go_simp; done) | (go_simp; rfl)⟩) ?_
                simp only [Act.put, List.setIfInBounds_toArray, List.set_cons_zero, List.set_cons_succ]
                refine wpAny_ready (rs := [4]) (by kernel_rfl) (by simp) ?_
                refine AllReady.cons rfl (fun K hK => ?_) AllReady.nil
                go_simp
                refine hK _ _ ?_
                try simp only [Act.put, List.setIfInBounds_toArray, List.set_cons_zero, List.set_cons_succ]
                clear hK K
                refine take_op (i := 6) (d := 37) (v := .bool true) rfl rfl (by kernel_rfl) (by kernel_rfl) (by kernel_rfl) hQ (Or.inl ⟨by rfl, fun _ => by first | rfl | (go_simp; done) | (go_simp; rfl)⟩) ?_
                simp only [Act.put, List.setIfInBounds_toArray, List.set_cons_zero, List.set_cons_succ]
                refine take_op (i := 7) (d := 38) (v := .bool true) rfl rfl (by kernel_rfl) (by kernel_rfl) (by kernel_rfl) hQ (Or.inl ⟨by rfl, fun _ => by first | rfl | (go_simp; done) | (go_simp; rfl)⟩) ?_
                simp only [Act.put, List.setIfInBounds_toArray, List.set_cons_zero, List.set_cons_succ]
                refine take_op (i := 8) (d := 39) (v := .int .i64 n) rfl rfl (by kernel_rfl) (by kernel_rfl) (by kernel_rfl) hQ (Or.inl ⟨by rfl, fun _ => by first | rfl | (go_simp; done) | (go_simp; rfl)⟩) ?_
                simp only [Act.put, List.setIfInBounds_toArray, List.set_cons_zero, List.set_cons_succ]
                refine take_op (i := 9) (d := 40) (v := .slice (some ⟨g, 0, none⟩) (pickR l S).length cp) rfl rfl (by kernel_rfl) (by kernel_rfl) (by kernel_rfl) hQ (Or.inl ⟨by rfl, fun _ => by first | rfl | (go_simp; done) | (go_simp; rfl)⟩) ?_
                simp only [Act.put, List.setIfInBounds_toArray, List.set_cons_zero, List.set_cons_succ]
                refine take_op (i := 10) (d := 41) (v := .slice (some ⟨b, o, none⟩) l.length cap) rfl rfl (by kernel_rfl) (by kernel_rfl) (by kernel_rfl) hQ (Or.inl ⟨by rfl, fun _ => by first | rfl | (go_simp; done) | (go_simp; rfl)⟩) ?_
                simp only [Act.put, List.setIfInBounds_toArray, List.set_cons_zero, List.set_cons_succ]
                refine take_op (i := 11) (d := 42) (v := .int .i64 i) rfl rfl (by kernel_rfl) (by kernel_rfl) (by kernel_rfl) hQ (Or.inl ⟨by rfl, fun _ => by first | rfl | (go_simp; done) | (go_simp; rfl)⟩) ?_
                simp only [Act.put, List.setIfInBounds_toArray, List.set_cons_zero, List.set_cons_succ]
                refine take_op (i := 12) (d := 43) (v := .pointer (some ⟨b, o + i * 3, none⟩)) rfl rfl (by kernel_rfl) (by kernel_rfl) (by kernel_rfl) hQ (Or.inl ⟨by rfl, fun _ => by first | rfl | (go_simp; done) | (go_simp; rfl)⟩) ?_
                simp only [Act.put, List.setIfInBounds_toArray, List.set_cons_zero, List.set_cons_succ]
                refine take_op (i := 13) (d := 44) (v := .pointer (some ⟨b, o + i * 3, none⟩)) rfl rfl (by kernel_rfl) (by kernel_rfl) (by kernel_rfl) hQ (Or.inl ⟨by rfl, fun _ => by first | rfl | (go_simp; done) | (go_simp; rfl)⟩) ?_
                simp only [Act.put, List.setIfInBounds_toArray, List.set_cons_zero, List.set_cons_succ]
                refine take_op (i := 15) (d := 46) (v := .slice (some ⟨b, o, none⟩) l.length cap) rfl rfl (by kernel_rfl) (by kernel_rfl) (by kernel_rfl) hQ (Or.inl ⟨by rfl, fun _ => by first | rfl | (go_simp; done) | (go_simp; rfl)⟩) ?_
                simp only [Act.put, List.setIfInBounds_toArray, List.set_cons_zero, List.set_cons_succ]
                refine take_op (i := 16) (d := 47) (v := .int .i64 i) rfl rfl (by kernel_rfl) (by kernel_rfl) (by kernel_rfl) hQ (Or.inl ⟨by rfl, fun _ => by first | rfl | (go_simp; done) | (go_simp; rfl)⟩) ?_
                simp only [Act.put, List.setIfInBounds_toArray, List.set_cons_zero, List.set_cons_succ]
                refine take_op (i := 17) (d := 48) (v := .pointer (some ⟨b, o + i * 3, none⟩)) rfl rfl (by kernel_rfl) (by kernel_rfl) (by kernel_rfl) hQ (Or.inl ⟨by rfl, fun _ => by first | rfl | (go_simp; done) | (go_simp; rfl)⟩) ?_
                simp only [Act.put, List.setIfInBounds_toArray, List.set_cons_zero, List.set_cons_succ]
                refine take_op (i := 18) (d := 49) (v := .pointer (some ⟨b, o + i * 3 + 1, none⟩)) rfl rfl (by kernel_rfl) (by kernel_rfl) (by kernel_rfl) hQ (Or.inl ⟨by rfl, fun _ => by first | rfl | (go_simp; done) | (go_simp; rfl)⟩) ?_
                simp only [Act.put, List.setIfInBounds_toArray, List.set_cons_zero, List.set_cons_succ]
                refine wpAny_ready (rs := [14, 19]) (by kernel_rfl) (by simp) ?_
                refine AllReady.cons rfl (fun K hK => ?_) (AllReady.cons rfl (fun K hK => ?_) AllReady.nil)
                · go_simp
                  refine hK _ _ ?_
                  try simp only [Act.put, List.setIfInBounds_toArray, List.set_cons_zero, List.set_cons_succ]
                  clear hK K
                  refine wpAny_ready (rs := [19]) (by kernel_rfl) (by simp) ?_
                  refine AllReady.cons rfl (fun K hK => ?_) AllReady.nil
                  go_simp
                  refine hK _ _ ?_
                  try simp only [Act.put, List.setIfInBounds_toArray, List.set_cons_zero, List.set_cons_succ]
                  clear hK K
                  refine wpAny_ready (rs := [20]) (by kernel_rfl) (by simp) ?_
                  refine AllReady.cons rfl (fun K hK => ?_) AllReady.nil
                  go_simp
                  go_at_call 50
                  refine (HFar.out _ ((Below.refl _ _).drew)).mono ?_; rintro e w5 ⟨rfl, hb5⟩
                  refine hK _ _ ?_
                  try simp only [Act.put, List.setIfInBounds_toArray, List.set_cons_zero, List.set_cons_succ]
                  clear hK K
                  refine take_op (i := 21) (d := 52) (v := .bool (decide (f < 0))) rfl rfl (by kernel_rfl) (by kernel_rfl) (by kernel_rfl) hQ (Or.inl ⟨by rfl, fun _ => by first | rfl | (go_simp; done) | (go_simp; rfl)⟩) ?_
                  simp only [Act.put, List.setIfInBounds_toArray, List.set_cons_zero, List.set_cons_succ]
                  refine take_op (i := 22) (d := 53) (v := .bool (decide (f < 0))) rfl rfl (by kernel_rfl) (by kernel_rfl) (by kernel_rfl) hQ (Or.inl ⟨by rfl, fun _ => by first | rfl | (go_simp; done) | (go_simp; rfl)⟩) ?_
                  simp only [Act.put, List.setIfInBounds_toArray, List.set_cons_zero, List.set_cons_succ]
                  refine wpAny_done (by kernel_rfl) (hN _ _ ?_) _
                  have hb5' : Below wr.heap.size wr w5 := ((Below.refl _ _).drew).trans (hb5.mono (Nat.le_refl _))
                  have HB5 := Lib.hid (HB.out.trans (hb5'.mono HB.out.size))
                  have HR5 := Lib.hid (Hrow.out.below hb5')
                  have HM5 := Lib.hid (HMk.out.below hb5' HMk.out.2.2)
                  have hs5 := hb5'.size
                  rw [hfd]
                  clear hb5 hb5' HB Hrow HMk c1 c2 c3
                  go_wp2
                  go_roundw
                  case rel => exact ⟨i + 1, hil, by go_num, by unfold NmRel; rw [Hst.out]; exact ⟨g, cp, rfl, hcp, HR5.out, hgm, HM5.out, HB5.out⟩⟩
                  case measure => simp [intOf]; omega
                · go_simp
                  refine hK _ _ ?_
                  try simp only [Act.put, List.setIfInBounds_toArray, List.set_cons_zero, List.set_cons_succ]
                  clear hK K
                  refine wpAny_ready (rs := [14]) (by kernel_rfl) (by simp) ?_
                  refine AllReady.cons rfl (fun K hK => ?_) AllReady.nil
                  go_simp
                  refine hK _ _ ?_
                  try simp only [Act.put, List.setIfInBounds_toArray, List.set_cons_zero, List.set_cons_succ]
                  clear hK K
                  refine wpAny_ready (rs := [20]) (by kernel_rfl) (by simp) ?_
                  refine AllReady.cons rfl (fun K hK => ?_) AllReady.nil
                  go_simp
                  go_at_call 50
                  refine (HFar.out _ ((Below.refl _ _).drew)).mono ?_; rintro e w5 ⟨rfl, hb5⟩
                  refine hK _ _ ?_
                  try simp only [Act.put, List.setIfInBounds_toArray, List.set_cons_zero, List.set_cons_succ]
                  clear hK K
                  refine take_op (i := 21) (d := 52) (v := .bool (decide (f < 0))) rfl rfl (by kernel_rfl) (by kernel_rfl) (by kernel_rfl) hQ (Or.inl ⟨by rfl, fun _ => by first | rfl | (go_simp; done) | (go_simp; rfl)⟩) ?_
                  simp only [Act.put, List.setIfInBounds_toArray, List.set_cons_zero, List.set_cons_succ]
                  refine take_op (i := 22) (d := 53) (v := .bool (decide (f < 0))) rfl rfl (by kernel_rfl) (by kernel_rfl) (by kernel_rfl) hQ (Or.inl ⟨by rfl, fun _ => by first | rfl | (go_simp; done) | (go_simp; rfl)⟩) ?_
                  simp only [Act.put, List.setIfInBounds_toArray, List.set_cons_zero, List.set_cons_succ]
                  refine wpAny_done (by kernel_rfl) (hN _ _ ?_) _
                  have hb5' : Below wr.heap.size wr w5 := ((Below.refl _ _).drew).trans (hb5.mono (Nat.le_refl _))
                  have HB5 := Lib.hid (HB.out.trans (hb5'.mono HB.out.size))
                  have HR5 := Lib.hid (Hrow.out.below hb5')
                  have HM5 := Lib.hid (HMk.out.below hb5' HMk.out.2.2)
                  have hs5 := hb5'.size
                  rw [hfd]
                  clear hb5 hb5' HB Hrow HMk c1 c2 c3
                  go_wp2
                  go_roundw
                  case rel => exact ⟨i + 1, hil, by go_num, by unfold NmRel; rw [Hst.out]; exact ⟨g, cp, rfl, hcp, HR5.out, hgm, HM5.out, HB5.out⟩⟩
                  case measure => simp [intOf]; omega
              | false =>
                have Hst := Lib.hid (show netTo n l (ordT l t (i + 1)) = S ++ [i] by rw [Hh.out, Hstep.out]; exact Hn.out hrr)
                have hfd : decide (f < 0) = true := decide_eq_true (Hfr.out.2 hrr)
                clear Hy Hn Hfr hrr Hh Hstep
                go_wp2
                refine wp_region_any (by kernel_rfl) ?_
                change wpAny _ _ _ _ 23 #[false, false, false, false, false, false, false, false, false, false, false, false, false, false, false, false, false, false, false, false, false, false, false] _ (World.drew _)
                refine with_Q (fun _ _ _ _ _ h => h) (fun Q hQ hN => ?_)
                refine take_op (i := 0) (d := 31) (v := .slice (some ⟨b, o, none⟩) l.length cap) rfl rfl (by kernel_rfl) (by kernel_rfl) (by kernel_rfl) hQ (Or.inl ⟨by rfl, fun _ => by first | rfl | (go_simp; done) | (go_simp; rfl)⟩) ?_
                simp only [Act.put, List.setIfInBounds_toArray, List.set_cons_zero, List.set_cons_succ]
                refine take_op (i := 1) (d := 32) (v := .int .i64 i) rfl rfl (by kernel_rfl) (by kernel_rfl) (by kernel_rfl) hQ (Or.inl ⟨by rfl, fun _ => by first | rfl | (go_simp; done) | (go_simp; rfl)⟩) ?_
                simp only [Act.put, List.setIfInBounds_toArray, List.set_cons_zero, List.set_cons_succ]
                refine take_op (i := 2) (d := 33) (v := .pointer (some ⟨b, o + i * 3, none⟩)) rfl rfl (by kernel_rfl) (by kernel_rfl) (by kernel_rfl) hQ (Or.inl ⟨by rfl, fun _ => by first | rfl | (go_simp; done) | (go_simp; rfl)⟩) ?_
                simp only [Act.put, List.setIfInBounds_toArray, List.set_cons_zero, List.set_cons_succ]
                refine take_op (i := 3) (d := 34) (v := .pointer (some ⟨b, o + i * 3 + 2, none⟩)) rfl rfl (by kernel_rfl) (by kernel_rfl) (by kernel_rfl) hQ (Or.inl ⟨by rfl, fun _ => by first | rfl | (go_simp; done) | (go_simp; rfl)⟩) ?_
                simp only [Act.put, List.setIfInBounds_toArray, List.set_cons_zero, List.set_cons_succ]
                refine take_op (i := 5) (d := 36) (v := .int .i64 rm) rfl rfl (by kernel_rfl) (by kernel_rfl) (by kernel_rfl) hQ (Or.inl ⟨by rfl, fun _ => by first | rfl | (go_simp; done) | (go_simp; rfl)⟩) ?_
                simp only [Act.put, List.setIfInBounds_toArray, List.set_cons_zero, List.set_cons_succ]
                refine wpAny_ready (rs := [4]) (by kernel_rfl) (by simp) ?_
                refine AllReady.cons rfl (fun K hK => ?_) AllReady.nil
                go_simp
                refine hK _ _ ?_
                try simp only [Act.put, List.setIfInBounds_toArray, List.set_cons_zero, List.set_cons_succ]
                clear hK K
                refine take_op (i := 6) (d := 37) (v := .bool true) rfl rfl (by kernel_rfl) (by kernel_rfl) (by kernel_rfl) hQ (Or.inl ⟨by rfl, fun _ => by first | rfl | (go_simp; done) | (go_simp; rfl)⟩) ?_
                simp only [Act.put, List.setIfInBounds_toArray, List.set_cons_zero, List.set_cons_succ]
                refine take_op (i := 7) (d := 38) (v := .bool true) rfl rfl (by kernel_rfl) (by kernel_rfl) (by kernel_rfl) hQ (Or.inl ⟨by rfl, fun _ => by first | rfl | (go_simp; done) | (go_simp; rfl)⟩) ?_
                simp only [Act.put, List.setIfInBounds_toArray, List.set_cons_zero, List.set_cons_succ]
                refine take_op (i := 8) (d := 39) (v := .int .i64 n) rfl rfl (by kernel_rfl) (by kernel_rfl) (by kernel_rfl) hQ (Or.inl ⟨by rfl, fun _ => by first | rfl | (go_simp; done) | (go_simp; rfl)⟩) ?_
                simp only [Act.put, List.setIfInBounds_toArray, List.set_cons_zero, List.set_cons_succ]
                refine take_op (i := 9) (d := 40) (v := .slice (some ⟨g, 0, none⟩) (pickR l S).length cp) rfl rfl (by kernel_rfl) (by kernel_rfl) (by kernel_rfl) hQ (Or.inl ⟨by rfl, fun _ => by first | rfl | (go_simp; done) | (go_simp; rfl)⟩) ?_
                simp only [Act.put, List.setIfInBounds_toArray, List.set_cons_zero, List.set_cons_succ]
                refine take_op (i := 10) (d := 41) (v := .slice (some ⟨b, o, none⟩) l.length cap) rfl rfl (by kernel_rfl) (by kernel_rfl) (by kernel_rfl) hQ (Or.inl ⟨by rfl, fun _ => by first | rfl | (go_simp; done) | (go_simp; rfl)⟩) ?_
                simp only [Act.put, List.setIfInBounds_toArray, List.set_cons_zero, List.set_cons_succ]
                refine take_op (i := 11) (d := 42) (v := .int .i64 i) rfl rfl (by kernel_rfl) (by kernel_rfl) (by kernel_rfl) hQ (Or.inl ⟨by rfl, fun _ => by first | rfl | (go_simp; done) | (go_simp; rfl)⟩) ?_
                simp only [Act.put, List.setIfInBounds_toArray, List.set_cons_zero, List.set_cons_succ]
                refine take_op (i := 12) (d := 43) (v := .pointer (some ⟨b, o + i * 3, none⟩)) rfl rfl (by kernel_rfl) (by kernel_rfl) (by kernel_rfl) hQ (Or.inl ⟨by rfl, fun _ => by first | rfl | (go_simp; done) | (go_simp; rfl)⟩) ?_
                simp only [Act.put, List.setIfInBounds_toArray, List.set_cons_zero, List.set_cons_succ]
                refine take_op (i := 13) (d := 44) (v := .pointer (some ⟨b, o + i * 3, none⟩)) rfl rfl (by kernel_rfl) (by kernel_rfl) (by kernel_rfl) hQ (Or.inl ⟨by rfl, fun _ => by first | rfl | (go_simp; done) | (go_simp; rfl)⟩) ?_
                simp only [Act.put, List.setIfInBounds_toArray, List.set_cons_zero, List.set_cons_succ]
                refine take_op (i := 15) (d := 46) (v := .slice (some ⟨b, o, none⟩) l.length cap) rfl rfl (by kernel_rfl) (by kernel_rfl) (by kernel_rfl) hQ (Or.inl ⟨by rfl, fun _ => by first | rfl | (go_simp; done) | (go_simp; rfl)⟩) ?_
                simp only [Act.put, List.setIfInBounds_toArray, List.set_cons_zero, List.set_cons_succ]
                refine take_op (i := 16) (d := 47) (v := .int .i64 i) rfl rfl (by kernel_rfl) (by kernel_rfl) (by kernel_rfl) hQ (Or.inl ⟨by rfl, fun _ => by first | rfl | (go_simp; done) | (go_simp; rfl)⟩) ?_
                simp only [Act.put, List.setIfInBounds_toArray, List.set_cons_zero, List.set_cons_succ]
                refine take_op (i := 17) (d := 48) (v := .pointer (some ⟨b, o + i * 3, none⟩)) rfl rfl (by kernel_rfl) (by kernel_rfl) (by kernel_rfl) hQ (Or.inl ⟨by rfl, fun _ => by first | rfl | (go_simp; done) | (go_simp; rfl)⟩) ?_
                simp only [Act.put, List.setIfInBounds_toArray, List.set_cons_zero, List.set_cons_succ]
                refine take_op (i := 18) (d := 49) (v := .pointer (some ⟨b, o + i * 3 + 1, none⟩)) rfl rfl (by kernel_rfl) (by kernel_rfl) (by kernel_rfl) hQ (Or.inl ⟨by rfl, fun _ => by first | rfl | (go_simp; done) | (go_simp; rfl)⟩) ?_
                simp only [Act.put, List.setIfInBounds_toArray, List.set_cons_zero, List.set_cons_succ]
                refine wpAny_ready (rs := [14, 19]) (by kernel_rfl) (by simp) ?_
                refine AllReady.cons rfl (fun K hK => ?_) (AllReady.cons rfl (fun K hK => ?_) AllReady.nil)
                · go_simp
                  refine hK _ _ ?_
                  try simp only [Act.put, List.setIfInBounds_toArray, List.set_cons_zero, List.set_cons_succ]
                  clear hK K
                  refine wpAny_ready (rs := [19]) (by kernel_rfl) (by simp) ?_
                  refine AllReady.cons rfl (fun K hK => ?_) AllReady.nil
                  go_simp
                  refine hK _ _ ?_
                  try simp only [Act.put, List.setIfInBounds_toArray, List.set_cons_zero, List.set_cons_succ]
                  clear hK K
                  refine wpAny_ready (rs := [20]) (by kernel_rfl) (by simp) ?_
                  refine AllReady.cons rfl (fun K hK => ?_) AllReady.nil
                  go_simp
                  go_at_call 50
                  refine (HFar.out _ ((Below.refl _ _).drew)).mono ?_; rintro e w5 ⟨rfl, hb5⟩
                  refine hK _ _ ?_
                  try simp only [Act.put, List.setIfInBounds_toArray, List.set_cons_zero, List.set_cons_succ]
                  clear hK K
                  refine take_op (i := 21) (d := 52) (v := .bool (decide (f < 0))) rfl rfl (by kernel_rfl) (by kernel_rfl) (by kernel_rfl) hQ (Or.inl ⟨by rfl, fun _ => by first | rfl | (go_simp; done) | (go_simp; rfl)⟩) ?_
                  simp only [Act.put, List.setIfInBounds_toArray, List.set_cons_zero, List.set_cons_succ]
                  refine take_op (i := 22) (d := 53) (v := .bool (decide (f < 0))) rfl rfl (by kernel_rfl) (by kernel_rfl) (by kernel_rfl) hQ (Or.inl ⟨by rfl, fun _ => by first | rfl | (go_simp; done) | (go_simp; rfl)⟩) ?_
                  simp only [Act.put, List.setIfInBounds_toArray, List.set_cons_zero, List.set_cons_succ]
                  refine wpAny_done (by kernel_rfl) (hN _ _ ?_) _
                  have hb5' : Below wr.heap.size wr w5 := ((Below.refl _ _).drew).trans (hb5.mono (Nat.le_refl _))
                  have HB5 := Lib.hid (HB.out.trans (hb5'.mono HB.out.size))
                  have HR5 := Lib.hid (Hrow.out.below hb5')
                  have HM5 := Lib.hid (HMk.out.below hb5' HMk.out.2.2)
                  have hs5 := hb5'.size
                  rw [hfd]
                  clear hb5 hb5' HB Hrow HMk c1 c2 c3
                  obtain ⟨e1, e2, e3⟩ := Hcell.out w5 HB5.out
                  have hs50 := HB5.out.size
                  have hown5 := HR5.out
                  unfold RowRz at hown5
                  have hmlt := HM5.out.2.2
                  go_wp2_with (at_builtin; refine wpList_append_lies _ rfl _ _ 37 rfl w.heap.size 49 ir _ 3 24 Try.underlying37 hir hr0 hr1 hr2 rfl (by decide) _ _ (encRz (pickR l S)) rfl (World.ownsRow.alloc hown5 _) ⟨w5.heap.size, 0, none⟩ 1 1 [.int .i64 ra, .int .i64 rb, .int .i64 rm] rfl rfl (World.news_of_block (cs := #[.int .i64 ra, .int .i64 rb, .int .i64 rm]) (t := 49) (fr := (0, 0)) (heap_alloc_new w5 _)) (by simp [Value.oneCell']) (by decide) (by simp only [maxLen]; omega) (by omega) (by simp; omega) (w5.heap.size + 1) (by simp) ?_; intro g8 cp8 w8 hown8 hgrow hat8 hlt8; have hm8 := (HM5.out.below (B := w5.heap.size) ((Below.refl _ _).alloc (Nat.le_refl _) (.cells #[.int .i64 ra, .int .i64 rb, .int .i64 rm] 49)) hmlt).blk (hgrow.block (w1.heap.size + 1) (by simp; omega) (fun e => by injection e with e; exact hgm (Eq.symm e))) hgrow.size; have cm := hm8.1 i hil; have hfz := hm8.2.1 i)
                  have HB8 := Lib.hid ((HB5.out.alloc hs50 (.cells #[.int .i64 ra, .int .i64 rb, .int .i64 rm] 49)).grown hgrow (by simp; omega) (fun j hj => (hown5.lt j hj).1))
                  have hg8 : g8 ≠ w1.heap.size + 1 := hat8.elim (fun h => by injection h with h; exact fun e => hgm (Eq.trans h e)) (fun h => by omega)
                  have hR8 : RowRz w8 w.heap.size (.slice (some ⟨g8, 0, none⟩) ((pickR l S).length + 1) cp8) (pickR l S ++ [⟨ra, rb, rm⟩]) := RowRz.snoc hown8
                  have hcp8 : (pickR l S).length + 1 ≤ cp8 := by
                    obtain ⟨_, h2⟩ := hown8
                    rcases h2 with ⟨h0, _⟩ | ⟨_, _, _, hv', _, _, h3, _⟩
                    · cases h0
                    · cases hv'; exact h3
                  have HR9 := Lib.hid (RowRz.setFar (p := ⟨w1.heap.size + 1, i, none⟩) hR8 hg8 (.bool true))
                  have HM9 := Lib.hid (show MkAt (w8.setCell ⟨w1.heap.size + 1, i, none⟩ (.bool true)) (w1.heap.size + 1) l.length (fun j => (S ++ [i]).contains j) by rw [contains_snocN]; exact hm8.put hil true)
                  have HB9 := Lib.hid (HB8.out.setCell (p := ⟨w1.heap.size + 1, i, none⟩) hmb (.bool true))
                  have Hlen := Lib.hid (show (pickR l S ++ [(⟨ra, rb, rm⟩ : Rd)]).length = (pickR l S).length + 1 by simp)
                  clear hown8 hgrow hown5 hat8 hm8 cm hfz hR8 HB8
                  go_roundw
                  case rel => exact ⟨i + 1, hil, by go_num, by unfold NmRel; rw [Hst.out, Hps.out, Hlen.out]; exact ⟨g8, cp8, rfl, hcp8, HR9.out, hg8, HM9.out, HB9.out⟩⟩
                  case measure => simp [intOf]; omega
                · go_simp
                  refine hK _ _ ?_
                  try simp only [Act.put, List.setIfInBounds_toArray, List.set_cons_zero, List.set_cons_succ]
                  clear hK K
                  refine wpAny_ready (rs := [14]) (by kernel_rfl) (by simp) ?_
                  refine AllReady.cons rfl (fun K hK => ?_) AllReady.nil
                  go_simp
                  refine hK _ _ ?_
                  try simp only [Act.put, List.setIfInBounds_toArray, List.set_cons_zero, List.set_cons_succ]
                  clear hK K
                  refine wpAny_ready (rs := [20]) (by kernel_rfl) (by simp) ?_
                  refine AllReady.cons rfl (fun K hK => ?_) AllReady.nil
                  go_simp
                  go_at_call 50
                  refine (HFar.out _ ((Below.refl _ _).drew)).mono ?_; rintro e w5 ⟨rfl, hb5⟩
                  refine hK _ _ ?_
                  try simp only [Act.put, List.setIfInBounds_toArray, List.set_cons_zero, List.set_cons_succ]
                  clear hK K
                  refine take_op (i := 21) (d := 52) (v := .bool (decide (f < 0))) rfl rfl (by kernel_rfl) (by kernel_rfl) (by kernel_rfl) hQ (Or.inl ⟨by rfl, fun _ => by first | rfl | (go_simp; done) | (go_simp; rfl)⟩) ?_
                  simp only [Act.put, List.setIfInBounds_toArray, List.set_cons_zero, List.set_cons_succ]
                  refine take_op (i := 22) (d := 53) (v := .bool (decide (f < 0))) rfl rfl (by kernel_rfl) (by kernel_rfl) (by kernel_rfl) hQ (Or.inl ⟨by rfl, fun _ => by first | rfl | (go_simp; done) | (go_simp; rfl)⟩) ?_
                  simp only [Act.put, List.setIfInBounds_toArray, List.set_cons_zero, List.set_cons_succ]
                  refine wpAny_done (by kernel_rfl) (hN _ _ ?_) _
                  have hb5' : Below wr.heap.size wr w5 := ((Below.refl _ _).drew).trans (hb5.mono (Nat.le_refl _))
                  have HB5 := Lib.hid (HB.out.trans (hb5'.mono HB.out.size))
                  have HR5 := Lib.hid (Hrow.out.below hb5')
                  have HM5 := Lib.hid (HMk.out.below hb5' HMk.out.2.2)
                  have hs5 := hb5'.size
                  rw [hfd]
                  clear hb5 hb5' HB Hrow HMk c1 c2 c3
                  obtain ⟨e1, e2, e3⟩ := Hcell.out w5 HB5.out
                  have hs50 := HB5.out.size
                  have hown5 := HR5.out
                  unfold RowRz at hown5
                  have hmlt := HM5.out.2.2
                  go_wp2_with (at_builtin; refine wpList_append_lies _ rfl _ _ 37 rfl w.heap.size 49 ir _ 3 24 Try.underlying37 hir hr0 hr1 hr2 rfl (by decide) _ _ (encRz (pickR l S)) rfl (World.ownsRow.alloc hown5 _) ⟨w5.heap.size, 0, none⟩ 1 1 [.int .i64 ra, .int .i64 rb, .int .i64 rm] rfl rfl (World.news_of_block (cs := #[.int .i64 ra, .int .i64 rb, .int .i64 rm]) (t := 49) (fr := (0, 0)) (heap_alloc_new w5 _)) (by simp [Value.oneCell']) (by decide) (by simp only [maxLen]; omega) (by omega) (by simp; omega) (w5.heap.size + 1) (by simp) ?_; intro g8 cp8 w8 hown8 hgrow hat8 hlt8; have hm8 := (HM5.out.below (B := w5.heap.size) ((Below.refl _ _).alloc (Nat.le_refl _) (.cells #[.int .i64 ra, .int .i64 rb, .int .i64 rm] 49)) hmlt).blk (hgrow.block (w1.heap.size + 1) (by simp; omega) (fun e => by injection e with e; exact hgm (Eq.symm e))) hgrow.size; have cm := hm8.1 i hil; have hfz := hm8.2.1 i)
                  have HB8 := Lib.hid ((HB5.out.alloc hs50 (.cells #[.int .i64 ra, .int .i64 rb, .int .i64 rm] 49)).grown hgrow (by simp; omega) (fun j hj => (hown5.lt j hj).1))
                  have hg8 : g8 ≠ w1.heap.size + 1 := hat8.elim (fun h => by injection h with h; exact fun e => hgm (Eq.trans h e)) (fun h => by omega)
                  have hR8 : RowRz w8 w.heap.size (.slice (some ⟨g8, 0, none⟩) ((pickR l S).length + 1) cp8) (pickR l S ++ [⟨ra, rb, rm⟩]) := RowRz.snoc hown8
                  have hcp8 : (pickR l S).length + 1 ≤ cp8 := by
                    obtain ⟨_, h2⟩ := hown8
                    rcases h2 with ⟨h0, _⟩ | ⟨_, _, _, hv', _, _, h3, _⟩
                    · cases h0
                    · cases hv'; exact h3
                  have HR9 := Lib.hid (RowRz.setFar (p := ⟨w1.heap.size + 1, i, none⟩) hR8 hg8 (.bool true))
                  have HM9 := Lib.hid (show MkAt (w8.setCell ⟨w1.heap.size + 1, i, none⟩ (.bool true)) (w1.heap.size + 1) l.length (fun j => (S ++ [i]).contains j) by rw [contains_snocN]; exact hm8.put hil true)
                  have HB9 := Lib.hid (HB8.out.setCell (p := ⟨w1.heap.size + 1, i, none⟩) hmb (.bool true))
                  have Hlen := Lib.hid (show (pickR l S ++ [(⟨ra, rb, rm⟩ : Rd)]).length = (pickR l S).length + 1 by simp)
                  clear hown8 hgrow hown5 hat8 hm8 cm hfz hR8 HB8
                  go_roundw
                  case rel => exact ⟨i + 1, hil, by go_num, by unfold NmRel; rw [Hst.out, Hps.out, Hlen.out]; exact ⟨g8, cp8, rfl, hcp8, HR9.out, hg8, HM9.out, HB9.out⟩⟩
                  case measure => simp [intOf]; omega
            · have hq : (rm == T) = false := by simpa using hm
              have Hm := Lib.hid (Hmiss.out hm)
              clear Hhit Hmiss hm
              go_wp2
              go_quiet (fail)
              go_wp2
              exact ⟨⟨i + 1, hil, by go_num, by unfold NmRel; rw [Hm.out]; exact ⟨g, cp, by rw [HSo.out], by rw [HSo.out]; exact hcp, by rw [HSo.out]; exact Hrow.out.below ((Below.refl _ _).drewN _), hgm, by rw [HSo.out]; exact HMk.out.drewN _, HB.out.drewN _⟩⟩, by simp [intOf]; omega⟩
          · obtain rfl : i = l.length := by omega
            have HRel := Lib.hid hrel
            clear hrel
            rw [ordT_next] at HRel
            go_wp2
            exact ⟨⟨t + 1, by omega, by have := HT.out; congr 1; omega, HRel.out⟩, by simp [intOf]; omega⟩
      · obtain rfl : t = 99 := by omega
        have hT1 : ¬ T ≤ 99 := by omega
        rw [Hend.out] at hrel
        obtain ⟨g, cp, rfl, hcp, hrow, hgm, hmk', hb⟩ := hrel
        have hmk2 : MkAt wr (w1.heap.size + 1) l.length (fun j => (netS n l).contains j) := hmk'
        have hs0 := hb.size
        have hmlt := hmk2.2.2
        have Hr1 := Lib.hid (RowI.made wr w.heap.size hs0)
        have Hm2 := Lib.hid (hmk2.below ((Below.refl wr.heap.size wr).alloc (Nat.le_refl _) (.cells #[] 3)) hmk2.2.2)
        have Hb2 := Lib.hid (hb.alloc hs0 (.cells #[] 3))
        clear hmk' hmk2 hrow hcp hb hT ht htl
        go_wp2
        go_loopw [10, 11] (fun u i w3 => ∃ k : Nat, k ≤ l.length ∧ i = .int .i64 k ∧ RowI w3 w.heap.size u (netUp n l k) ∧ u.ownBlock ≠ some (w1.heap.size + 1) ∧ MkAt w3 (w1.heap.size + 1) l.length (fun i => (netS n l).contains i) ∧ Below w.heap.size w w3) (fun _ i _ => l.length - (intOf i).toNat)
        case atStart => exact ⟨0, Nat.zero_le _, rfl, Hr1.out, by simp [Value.ownBlock]; omega, Hm2.out, Hb2.out⟩
        case round =>
          clear Hr1 Hm2 Hb2 hmlt hs0
          obtain ⟨k, hk, rfl, hr, hne, hm, hb⟩ := hrel
          have HR := Lib.hid hr
          have HB := Lib.hid hb
          have HNE := Lib.hid hne
          by_cases hkl : k < l.length
          · have hk' : (k : Int) < (l.length : Int) := by omega
            have hk0 : (0 : Int) ≤ (k : Int) := Int.natCast_nonneg _
            have c : wr.cell? ⟨w1.heap.size + 1, k, none⟩ = some (.bool ((netS n l).contains k)) := hm.1 k hkl
            have hpl := netUp_len n l k
            have Hsn := Lib.hid (netUp_succ n l k)
            have HM := Lib.hid hm
            have hown := hr
            unfold RowI at hown
            have hszr := hb.size
            clear hr hm hb hne
            generalize hys : netUp n l k = ys at *
            generalize (netS n l).contains k = q at *
            cases q with
            | true =>
              simp only [↓reduceIte] at Hsn
              go_wp2_with (at_builtin; refine wpList_append_own_at _ rfl _ _ 26 rfl w.heap.size 3 i0 (.int .i64 0) 1 8 Try.underlying26 hinf hz0 hz1 hz2 rfl (by decide) _ _ _ rfl (hown.alloc _) ⟨wr.heap.size, 0, none⟩ 1 1 [.int .i64 k] rfl rfl (cell_one_new _ _ _) (by simp [Value.oneCell']) (by simp only [maxLen]; omega) (by omega) (by simp; omega) ?_; intro v' w8 hown8 hgrow _ hatb)
              have HB8 := Lib.hid ((HB.out.alloc hszr (.cells #[.int .i64 k] 3)).grown hgrow (by simp; omega) (fun j hj => (hown.lt j hj).1))
              have Hr8 := Lib.hid (show RowI w8 w.heap.size v' (netUp n l (k + 1)) by
                rw [Hsn.out]; exact RowI.snoc hown8)
              have hsm := HM.out.2.2
              have HM8 := Lib.hid ((HM.out.below (B := wr.heap.size) ((Below.refl _ _).alloc (Nat.le_refl _) (.cells #[.int .i64 k] 3)) hsm).blk (hgrow.block (w1.heap.size + 1) (by simp; omega) (fun e => HNE.out e.symm)) hgrow.size)
              have Hn8 := Lib.hid (show v'.ownBlock ≠ some (w1.heap.size + 1) from fun e => by
                rcases hatb with h | h
                · exact HNE.out (h.symm.trans e)
                · rw [h] at e; injection e with e; simp at e; omega)
              clear hown8 hgrow hown hatb
              go_wp2
              exact ⟨⟨k + 1, hkl, by go_num, Hr8.out, Hn8.out, HM8.out, HB8.out⟩, by simp [intOf]; omega⟩
            | false =>
              simp only [Bool.false_eq_true, ↓reduceIte, List.append_nil] at Hsn
              go_wp2
              exact ⟨⟨k + 1, hkl, by go_num, by rw [Hsn.out]; exact HR.out, HNE.out, HM.out, HB.out⟩, by simp [intOf]; omega⟩
          · obtain rfl : k = l.length := by omega
            clear hr hm hb hne
            have HI := Lib.hid (IntsOk.row (w := w) true HR.out (Nat.le_refl _) HB.out)
            clear HR
            go_wp2
            go_ret2
            exact HI.out

end Go.Proofs.Ytlkhgnglblgldaa
