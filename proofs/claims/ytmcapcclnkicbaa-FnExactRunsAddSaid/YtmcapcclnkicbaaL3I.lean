/- The law FnExactRunsAdd holds at every input. No condition. -/
import Derived.Test.YtmcapcclnkicbaaUKI
import Derived.Test.YtmcapcclnkicbaaUKS
import Derived.Test.YtmcapcclnkicbaaUB
import Derived.Test.YtmcapcclnkicbaaUC
import Derived.Test.YtmcapcclnkicbaaUD
import Derived.Test.YtmcapcclnkicbaaIC
import Derived.Deep.RegionHeld3
import Derived.Lib.SmallJoins
namespace Go.Proofs.Ytmcapcclnkicbaa.lawFnExactRunsAdd
open Go.ChangeShapes Go.WideShapes Go.ChangeAt Go.RowKit
set_option linter.unusedVariables false

set_option maxRecDepth 100000 in
set_option maxHeartbeats 2000000 in
theorem walk (v0 : Value) (l0 : List Rn) (a1a : Int) (a1b : Int) (w : World) (hv0 : RnIn w v0 l0) (hw0 : RnWf l0) (hm0 : l0.length ≤ maxLen) (wa1a : W64 a1a) (wa1b : W64 a1b) :
    Calls Try.prog 11 #[v0, .agg #[.int .i64 a1a, .int .i64 a1b]] w fun e w' => e = .returned (.bool true) ∧ Below w.heap.size w w' := by
  have W0 := Lib.hid hw0; clear hw0
  by_cases hl0 : l0.length ≤ 1048576
  · have Hlb : Hid ((addL l0 ⟨a1a, a1b⟩).length ≤ 1048576) := Lib.hid (by have h := addL_short l0 ⟨a1a, a1b⟩; omega)
    go_enter Try.func11, Try.ntmps11
    go_wp2_with fail
    have HBz := Lib.hid ((Below.refl w.heap.size w).alloc (Nat.le_refl _) (.cells #[.int .i64 a1a, .int .i64 a1b] 45))
    have hgz : w.heap.size < (w.alloc (.cells #[.int .i64 a1a, .int .i64 a1b] 45)).heap.size := by simp
    have q0 : (w.alloc (.cells #[.int .i64 a1a, .int .i64 a1b] 45)).cell? ⟨w.heap.size, 0, none⟩ = some (.int .i64 a1a) := by go_simp
    have q1 : (w.alloc (.cells #[.int .i64 a1a, .int .i64 a1b] 45)).cell? ⟨w.heap.size, 1, none⟩ = some (.int .i64 a1b) := by go_simp
    generalize w.alloc (.cells #[.int .i64 a1a, .int .i64 a1b] 45) = wz at *
    have hv0 := hv0.below HBz.out
    refine (szRunS_yes _ l0 _ hv0 hl0).mono ?_; rintro e w' ⟨rfl, rfl⟩
    go_wp2_with fail
    have hgk := hgz
    go_region_held3 (fun w' => w'.cell? ⟨w.heap.size, 0, none⟩ = some (.int .i64 a1a) ∧ w'.cell? ⟨w.heap.size, 1, none⟩ = some (.int .i64 a1b)) (first | exact ⟨((bel3.cell (p := (⟨w.heap.size, 0, none⟩ : Addr)) (Nat.lt_of_lt_of_le (Nat.lt_of_lt_of_le hgk bel1.size) bel2.size)).trans ((bel2.cell (p := (⟨w.heap.size, 0, none⟩ : Addr)) (Nat.lt_of_lt_of_le hgk bel1.size)).trans ((bel1.cell (p := (⟨w.heap.size, 0, none⟩ : Addr)) hgk).trans q0))), ((bel3.cell (p := (⟨w.heap.size, 1, none⟩ : Addr)) (Nat.lt_of_lt_of_le (Nat.lt_of_lt_of_le hgk bel1.size) bel2.size)).trans ((bel2.cell (p := (⟨w.heap.size, 1, none⟩ : Addr)) (Nat.lt_of_lt_of_le hgk bel1.size)).trans ((bel1.cell (p := (⟨w.heap.size, 1, none⟩ : Addr)) hgk).trans q1)))⟩ | exact ⟨((bel2.cell (p := (⟨w.heap.size, 0, none⟩ : Addr)) (Nat.lt_of_lt_of_le hgk bel1.size)).trans ((bel1.cell (p := (⟨w.heap.size, 0, none⟩ : Addr)) hgk).trans q0)), ((bel2.cell (p := (⟨w.heap.size, 1, none⟩ : Addr)) (Nat.lt_of_lt_of_le hgk bel1.size)).trans ((bel1.cell (p := (⟨w.heap.size, 1, none⟩ : Addr)) hgk).trans q1))⟩ | exact ⟨((bel1.cell (p := (⟨w.heap.size, 0, none⟩ : Addr)) hgk).trans q0), ((bel1.cell (p := (⟨w.heap.size, 1, none⟩ : Addr)) hgk).trans q1)⟩ | (go_keep; done) | exact ⟨q0, q1⟩)
      (first | (go_at_call 17; refine (toRunS_any _ l0 wz.drew (hv0.below ((Below.refl _ wz).drew)) hl0).mono ?_; rintro e w1 ⟨b1, rfl, hb1, hlt1, hr1, hm_1, bel1⟩) | (go_at_call 40; refine (toRun_any a1a a1b w1).mono ?_; rintro e w2 ⟨rfl, bel2⟩) | (go_at_call 39; refine (add1_any _ l0 ⟨a1a, a1b⟩ w2 ((RnIn.row (cap := l0.length) hlt1 (Nat.le_refl _) hr1).below bel2) hl0).mono ?_; rintro e w3 ⟨adw, capw, rfl, hcw, how_3, hblkw, bel3⟩))
    have bel1 : Below wz.heap.size wz w1 := ((Below.refl wz.heap.size wz).drew).trans bel1
    have z1 := bel1.size
    have s0_1 := RnIn.row (cap := l0.length) hlt1 (Nat.le_refl _) hr1
    clear hr1
    have B1 := bel1
    have q0_B1 := (B1.cell (p := ⟨w.heap.size, 0, none⟩) hgz).trans q0
    have q1_B1 := (B1.cell (p := ⟨w.heap.size, 1, none⟩) hgz).trans q1
    clear bel1
    have z2 := bel2.size
    have s0_2 := s0_1.below bel2
    clear s0_1
    have B2 := B1.trans (bel2.mono B1.size)
    have q0_B2 := (B2.cell (p := ⟨w.heap.size, 0, none⟩) hgz).trans q0
    have q1_B2 := (B2.cell (p := ⟨w.heap.size, 1, none⟩) hgz).trans q1
    clear q0_B1 q1_B1
    clear B1
    clear bel2
    clear s0_2
    have z3 := bel3.size
    have B3 := B2.trans (bel3.mono B2.size)
    have q0_B3 := (B3.cell (p := ⟨w.heap.size, 0, none⟩) hgz).trans q0
    have q1_B3 := (B3.cell (p := ⟨w.heap.size, 1, none⟩) hgz).trans q1
    clear q0_B2 q1_B2
    clear B2
    clear bel3
    generalize hxs : addL l0 ⟨a1a, a1b⟩ = xs at *
    generalize hok : addOk l0 ⟨a1a, a1b⟩ = ok at *
    have Hxs := Lib.hid hxs; clear hxs
    have Hok := Lib.hid hok; clear hok
    go_wp2_with fail
    refine (toRunS_any _ l0 _ (hv0.below B3) hl0).mono ?_; rintro e w4 ⟨b4, rfl, hb4, hlt4, hr4, hm_4, bel4⟩
    have z4 := bel4.size
    have how_4 := how_3.below bel4
    clear how_3
    have x0_4 := RnIn.row (cap := l0.length) hlt4 (Nat.le_refl _) hr4
    have hat4 := hr4
    clear hr4
    have B4 := B3.trans (bel4.mono B3.size)
    have q0_B4 := (B4.cell (p := ⟨w.heap.size, 0, none⟩) hgz).trans q0
    have q1_B4 := (B4.cell (p := ⟨w.heap.size, 1, none⟩) hgz).trans q1
    clear q0_B3 q1_B3
    clear B3
    clear bel4
    have ox0_4 : OwnRn w4 (some ⟨b4, 0, none⟩) l0 := fun _ => ⟨b4, rfl, hlt4, hat4, hm_4⟩
    go_wp2_with fail
    refine (toRun_any a1a a1b _).mono ?_; rintro e w5 ⟨rfl, bel5⟩
    have z5 := bel5.size
    have how_5 := how_4.below bel5
    clear how_4
    have x0_5 := x0_4.below bel5
    clear x0_4
    have ox0_5 := ox0_4.below bel5
    clear ox0_4
    have B5 := B4.trans (bel5.mono B4.size)
    have q0_B5 := (B5.cell (p := ⟨w.heap.size, 0, none⟩) hgz).trans q0
    have q1_B5 := (B5.cell (p := ⟨w.heap.size, 1, none⟩) hgz).trans q1
    clear q0_B4 q1_B4
    clear B4
    clear bel5
    go_wp2_with fail
    refine (add2_any _ l0 ⟨a1a, a1b⟩ _ x0_5 hl0).mono ?_; rintro e w6 ⟨adg, capg, he, hcg, hog_6, hblkg, bel6⟩
    rw [Hxs.out, Hok.out] at he
    rw [Hxs.out] at hcg hog_6
    subst he
    have z6 := bel6.size
    have how_6 := how_5.below bel6
    clear how_5
    have x0_6 := x0_5.below bel6
    clear x0_5
    have ox0_6 := ox0_5.below bel6
    clear ox0_5
    have B6 := B5.trans (bel6.mono B5.size)
    have q0_B6 := (B6.cell (p := ⟨w.heap.size, 0, none⟩) hgz).trans q0
    have q1_B6 := (B6.cell (p := ⟨w.heap.size, 1, none⟩) hgz).trans q1
    clear q0_B5 q1_B5
    clear B5
    clear bel6
    have dw0 := Lib.hid (show ∀ i, inBlk adw i → ¬ inBlk (some ⟨b4, 0, none⟩) i from fun i hi h => by obtain ⟨o, ho⟩ := h; cases ho; have := hblkw _ hi; omega)
    have dg0 := Lib.hid (show ∀ i, inBlk adg i → ¬ inBlk (some ⟨b4, 0, none⟩) i from fun i hi h => by obtain ⟨o, ho⟩ := h; cases ho; have := hblkg _ hi; omega)
    have lo0 := Lib.hid (show ∀ i, inBlk (some ⟨b4, 0, none⟩) i → wz.heap.size ≤ i from fun i h => by obtain ⟨o, ho⟩ := h; cases ho; omega)
    have dwg := Lib.hid (show ∀ i, inBlk adw i → ¬ inBlk adg i from fun i hi h => by have := hblkw _ hi; have := hblkg _ h; omega)
    have log := Lib.hid (show ∀ i, inBlk adg i → wz.heap.size ≤ i from fun i h => by have := hblkg _ h; omega)
    clear hblkw hblkg z1 z2 z3 z4 z5 z6 hb4 hlt4
    go_wp2_with fail
    refine (eqRunS_any _ _ xs xs _ (hog_6.ins hcg) (how_6.ins hcw) Hlb.out).mono ?_; rintro e w7 ⟨⟨x7, rfl, hx7⟩, bel7⟩
    obtain rfl : x7 = true := hx7.2 rfl
    clear hx7
    have how_7 := how_6.below bel7
    clear how_6
    have x0_7 := x0_6.below bel7
    clear x0_6
    have ox0_7 := ox0_6.below bel7
    clear ox0_6
    have hog_7 := hog_6.below bel7
    clear hog_6
    have B7 := B6.trans (bel7.mono B6.size)
    have q0_B7 := (B7.cell (p := ⟨w.heap.size, 0, none⟩) hgz).trans q0
    have q1_B7 := (B7.cell (p := ⟨w.heap.size, 1, none⟩) hgz).trans q1
    clear q0_B6 q1_B6
    clear B6
    clear bel7
    go_wp2_with fail
    refine (toRunS_any _ l0 _ (hv0.below B7) hl0).mono ?_; rintro e w8 ⟨b8, rfl, hb8, hlt8, hr8, hm_8, bel8⟩
    have z8 := bel8.size
    have how_8 := how_7.below bel8
    clear how_7
    have x0_8 := x0_7.below bel8
    clear x0_7
    have ox0_8 := ox0_7.below bel8
    clear ox0_7
    have hog_8 := hog_7.below bel8
    clear hog_7
    have y0_8 := RnIn.row (cap := l0.length) hlt8 (Nat.le_refl _) hr8
    clear hr8
    have B8 := B7.trans (bel8.mono B7.size)
    have q0_B8 := (B8.cell (p := ⟨w.heap.size, 0, none⟩) hgz).trans q0
    have q1_B8 := (B8.cell (p := ⟨w.heap.size, 1, none⟩) hgz).trans q1
    clear q0_B7 q1_B7
    clear B7
    clear bel8
    go_wp2_with fail
    refine (eqRunS_any _ _ l0 l0 _ x0_8 y0_8 hl0).mono ?_; rintro e w9 ⟨⟨x9, rfl, hx9⟩, bel9⟩
    obtain rfl : x9 = true := hx9.2 rfl
    clear hx9
    clear x0_8 y0_8
    have how_9 := how_8.below bel9
    clear how_8
    have ox0_9 := ox0_8.below bel9
    clear ox0_8
    have hog_9 := hog_8.below bel9
    clear hog_8
    have B9 := B8.trans (bel9.mono B8.size)
    have q0_B9 := (B9.cell (p := ⟨w.heap.size, 0, none⟩) hgz).trans q0
    have q1_B9 := (B9.cell (p := ⟨w.heap.size, 1, none⟩) hgz).trans q1
    clear q0_B8 q1_B8
    clear B8
    clear bel9
    go_wp2_with fail
    refine (markRunS_own _ _ l0 1 _ ox0_9 hl0 (by omega) (by omega)).mono ?_; rintro e w10 ⟨rfl, _, t10⟩
    clear ox0_9
    have B10 : Below wz.heap.size wz w10 := B9.trans (t10.below lo0.out B9.size)
    have q0_B10 := (B10.cell (p := ⟨w.heap.size, 0, none⟩) hgz).trans q0
    have q1_B10 := (B10.cell (p := ⟨w.heap.size, 1, none⟩) hgz).trans q1
    clear q0_B9 q1_B9
    clear B9
    have hog_10 := hog_9.touch t10 (fun i hi => dg0.out i hi)
    clear hog_9
    have how_10 := how_9.touch t10 (fun i hi => dw0.out i hi)
    clear how_9
    clear t10
    go_wp2_with fail
    refine (eqRunS_any _ _ xs xs _ (hog_10.ins hcg) (how_10.ins hcw) Hlb.out).mono ?_; rintro e w11 ⟨⟨x11, rfl, hx11⟩, bel11⟩
    obtain rfl : x11 = true := hx11.2 rfl
    clear hx11
    have how_11 := how_10.below bel11
    clear how_10
    have hog_11 := hog_10.below bel11
    clear hog_10
    have B11 := B10.trans (bel11.mono B10.size)
    have q0_B11 := (B11.cell (p := ⟨w.heap.size, 0, none⟩) hgz).trans q0
    have q1_B11 := (B11.cell (p := ⟨w.heap.size, 1, none⟩) hgz).trans q1
    clear q0_B10 q1_B10
    clear B10
    clear bel11
    go_wp2_with fail
    refine (markRunS_own adg capg xs 1 _ hog_11 Hlb.out (by omega) (by omega)).mono ?_; rintro e w12 ⟨rfl, hog_12, t12⟩
    clear hog_11
    have B12 : Below wz.heap.size wz w12 := B11.trans (t12.below log.out B11.size)
    have q0_B12 := (B12.cell (p := ⟨w.heap.size, 0, none⟩) hgz).trans q0
    have q1_B12 := (B12.cell (p := ⟨w.heap.size, 1, none⟩) hgz).trans q1
    clear q0_B11 q1_B11
    clear B11
    have how_12 := how_11.touch t12 (fun i hi => dwg.out i hi)
    clear how_11 t12
    go_wp2_with fail
    refine (heldRunS_any adg capg xs.length 1 _ hog_12 Hlb.out (by omega) (by omega)).mono ?_; rintro e w' ⟨rfl, rfl⟩
    go_wp2_with fail
    have hgk := Nat.lt_of_lt_of_le hgz B12.size
    go_region_held3 (fun w' => w'.cell? ⟨w.heap.size, 0, none⟩ = some (.int .i64 a1a) ∧ w'.cell? ⟨w.heap.size, 1, none⟩ = some (.int .i64 a1b)) (first | exact ⟨((bel15.cell (p := (⟨w.heap.size, 0, none⟩ : Addr)) (Nat.lt_of_lt_of_le (Nat.lt_of_lt_of_le hgk bel13.size) bel14.size)).trans ((bel14.cell (p := (⟨w.heap.size, 0, none⟩ : Addr)) (Nat.lt_of_lt_of_le hgk bel13.size)).trans ((bel13.cell (p := (⟨w.heap.size, 0, none⟩ : Addr)) hgk).trans q0_B12))), ((bel15.cell (p := (⟨w.heap.size, 1, none⟩ : Addr)) (Nat.lt_of_lt_of_le (Nat.lt_of_lt_of_le hgk bel13.size) bel14.size)).trans ((bel14.cell (p := (⟨w.heap.size, 1, none⟩ : Addr)) (Nat.lt_of_lt_of_le hgk bel13.size)).trans ((bel13.cell (p := (⟨w.heap.size, 1, none⟩ : Addr)) hgk).trans q1_B12)))⟩ | exact ⟨((bel14.cell (p := (⟨w.heap.size, 0, none⟩ : Addr)) (Nat.lt_of_lt_of_le hgk bel13.size)).trans ((bel13.cell (p := (⟨w.heap.size, 0, none⟩ : Addr)) hgk).trans q0_B12)), ((bel14.cell (p := (⟨w.heap.size, 1, none⟩ : Addr)) (Nat.lt_of_lt_of_le hgk bel13.size)).trans ((bel13.cell (p := (⟨w.heap.size, 1, none⟩ : Addr)) hgk).trans q1_B12))⟩ | exact ⟨((bel13.cell (p := (⟨w.heap.size, 0, none⟩ : Addr)) hgk).trans q0_B12), ((bel13.cell (p := (⟨w.heap.size, 1, none⟩ : Addr)) hgk).trans q1_B12)⟩ | (go_keep; done) | exact ⟨q0_B12, q1_B12⟩)
      (first | (go_at_call 17; refine (toRunS_any _ l0 w'.drew ((hv0.below B12).below ((Below.refl _ w').drew)) hl0).mono ?_; rintro e w13 ⟨b13, rfl, hb13, hlt13, hr13, hm_13, bel13⟩) | (go_at_call 40; refine (toRun_any a1a a1b w13).mono ?_; rintro e w14 ⟨rfl, bel14⟩) | (go_at_call 41; refine (add2_any _ l0 ⟨a1a, a1b⟩ w14 ((RnIn.row (cap := l0.length) hlt13 (Nat.le_refl _) hr13).below bel14) hl0).mono ?_; rintro e w15 ⟨adh, caph, he, hch, hoh, hblkh, bel15⟩); rw [Hxs.out, Hok.out] at he; rw [Hxs.out] at hch hoh; subst he)
    have bel13 : Below w'.heap.size w' w13 := ((Below.refl w'.heap.size w').drew).trans bel13
    have z13 := bel13.size
    have how_13 := how_12.below bel13
    clear how_12
    have hog_13 := hog_12.below bel13
    clear hog_12
    have u0_13 := RnIn.row (cap := l0.length) hlt13 (Nat.le_refl _) hr13
    clear hr13
    have B13 := B12.trans (bel13.mono B12.size)
    have q0_B13 := (B13.cell (p := ⟨w.heap.size, 0, none⟩) hgz).trans q0
    have q1_B13 := (B13.cell (p := ⟨w.heap.size, 1, none⟩) hgz).trans q1
    clear q0_B12 q1_B12
    clear B12
    clear bel13
    have z14 := bel14.size
    have how_14 := how_13.below bel14
    clear how_13
    have hog_14 := hog_13.below bel14
    clear hog_13
    have u0_14 := u0_13.below bel14
    clear u0_13
    have B14 := B13.trans (bel14.mono B13.size)
    have q0_B14 := (B14.cell (p := ⟨w.heap.size, 0, none⟩) hgz).trans q0
    have q1_B14 := (B14.cell (p := ⟨w.heap.size, 1, none⟩) hgz).trans q1
    clear q0_B13 q1_B13
    clear B13
    clear bel14
    clear u0_14
    have how_15 := how_14.below bel15
    clear how_14
    have hog_15 := hog_14.below bel15
    clear hog_14
    have B15 := B14.trans (bel15.mono B14.size)
    have q0_B15 := (B15.cell (p := ⟨w.heap.size, 0, none⟩) hgz).trans q0
    have q1_B15 := (B15.cell (p := ⟨w.heap.size, 1, none⟩) hgz).trans q1
    clear q0_B14 q1_B14
    clear B14
    clear bel15 hblkh
    go_wp2_with fail
    refine (eqRunS_any _ _ xs xs _ (hoh.ins hch) (how_15.ins hcw) Hlb.out).mono ?_; rintro e w16 ⟨⟨x16, rfl, hx16⟩, bel16⟩
    obtain rfl : x16 = true := hx16.2 rfl
    clear hx16
    clear hoh how_15
    have hog_16 := hog_15.below bel16
    clear hog_15
    have B16 := B15.trans (bel16.mono B15.size)
    have q0_B16 := (B16.cell (p := ⟨w.heap.size, 0, none⟩) hgz).trans q0
    have q1_B16 := (B16.cell (p := ⟨w.heap.size, 1, none⟩) hgz).trans q1
    clear q0_B15 q1_B15
    clear B15
    clear bel16
    go_wp2_with fail
    refine (heldRunS_any adg capg xs.length 1 _ hog_16 Hlb.out (by omega) (by omega)).mono ?_; rintro e w' ⟨rfl, rfl⟩
    go_wp2
    go_ret
    exact ⟨rfl, HBz.out.trans (B16.mono (Nat.le_of_lt hgz))⟩
  · go_enter Try.func11, Try.ntmps11
    go_wp2_with fail
    refine (szRunS_no _ l0 _ (hv0.below ((Below.refl _ _).alloc (Nat.le_refl _) _)) hm0 hl0).mono ?_; rintro e w' ⟨rfl, rfl⟩
    go_wp2
    go_ret
    exact ⟨rfl, (Below.refl _ _).alloc (Nat.le_refl _) _⟩

set_option maxRecDepth 100000 in
theorem lifted (os : Os) (started : os.Started) (H : Type) (enc : TypeId × Value → H) :
    ReturnsInHanded {} Try.checked os 11 .any (Rows.fnExactRunsAddSpec.pre6 enc Try.prog Try.f11 Rows.fnExactRunsAddRow.domain false) (Rows.fnExactRunsAddSpec.post enc Try.prog Try.f11 false true false false) := by
  refine returnsInHanded_of_change (C := Try.checked) own started (by kernel_rfl) Try.func11
    (ChangeSpec.witness6 (enc := enc) (C := Try.checked) false ⟨#[], #[.slice none 0 0, .agg #[.int .i64 0, .int .i64 0]], []⟩ 8 (by kernel_rfl) (by kernel_rfl) (by kernel_rfl) (by kernel_rfl)) ?_
  intro W base args ds gs before hval0 hW hcnd _
  have hval : ∀ (j : Nat) t v, Try.f11.params[j]? = some t → args[j]? = some v → Value.okWide Try.prog W .any base t v := hval0
  have hW' := hW
  obtain ⟨p, q, hA0, hV, rfl, hfz, hnd⟩ := hW
  have hA : DataW.TrodAll enc Try.prog W 0 (fun _ => true) true Try.f11.params.toList args.toList ds p := hA0
  rw [Try.params11] at hA hval
  obtain ⟨v0, vs0, d0, ds0, p0, q0, hargs, rfl, rfl, h0, r0⟩ := trodAll_cons hA
  obtain ⟨v1, vs1, d1, ds1, p1, q1, rfl, rfl, rfl, h1, r1⟩ := trodAll_cons r0
  obtain ⟨rfl, rfl, rfl⟩ := trodAll_nil r1
  obtain rfl : args = #[v0, v1] := by cases args; simp_all
  obtain ⟨rfl, rfl⟩ := trodVars_none hV
  obtain ⟨a0, len0, cap0, rfl⟩ := okWide_slice Try.underlying22 (hval 0 22 v0 rfl rfl)
  have k0 := h0
  have lt0 : ∀ x ∈ p0, x.block < W.heap.size := by obtain ⟨m, hm⟩ := k0; exact DataW.trod_lt m _ _ _ hm
  obtain ⟨z0, hv0, hw0, _, hm0⟩ := open_Rn h0
  obtain ⟨c1a, c1b, y1a, y1b, m1, rfl, rfl, rfl, hy1a, hy1b⟩ := Go.Joins.open_agg2 Try.underlying45 (by kernel_rfl) (by kernel_rfl) (hval 1 45 v1 rfl rfl) h1
  obtain ⟨x1a, e1a, rfl, w1a⟩ := DataW.trod_int Try.underlying3 hy1a
  simp at e1a; subst e1a
  obtain ⟨x1b, e1b, rfl, w1b⟩ := DataW.trod_int Try.underlying3 hy1b
  simp at e1b; subst e1b
  clear hA0 hval0
  refine (walk _ z0 x1a x1b W hv0 hw0 hm0 (wfI w1a) (wfI w1b)).mono fun e W' ⟨he, bel⟩ => ?_
  subst he
  exact ⟨_, rfl, _, _, _, [], _, [], hW', trodAll_mk1 (shut_bool Try.underlying4 _), (trodAll_cons_mk (Below.trod laidOut (by kernel_rfl) (of_decide_eq_true (by kernel_rfl)) k0 bel lt0) (trodAll_cons_mk (Go.Joins.shut_agg2 (y0 := (.lit (.int .i64 x1a), [])) (y1 := (.lit (.int .i64 x1b), [])) Try.underlying45 (by kernel_rfl) (by kernel_rfl) ⟨1, by simp [DataW.trod, (show Try.checked.prog.underlying 3 = some (.int .i64) from Try.underlying3), w1a]⟩ ⟨1, by simp [DataW.trod, (show Try.checked.prog.underlying 3 = some (.int .i64) from Try.underlying3), w1b]⟩) trodAll_mk0)), rfl, bel.frame _, fun h => by cases h⟩

theorem over : Rows.fnExactRunsAddRow.holds Try.pinned (OpenSpec.ofChange Rows.fnExactRunsAddSpec) :=
  OpenClaim.holds_of_wide 11 Try.f11 rfl rfl rfl rfl rfl rfl rfl ⟨rfl, rfl, rfl, rfl, rfl⟩ rfl rfl rfl rfl rfl (by kernel_rfl) Try.func11 (by kernel_rfl)
    (of_decide_eq_true (by kernel_rfl)) (by unfold Func.isWrapper; first | (rw [if_pos (by decide +kernel)]; kernel_rfl) | (rw [if_neg (by decide +kernel)]; exact ⟨rfl, rfl⟩))
    (fun os started H enc _ => lifted os started H enc)

theorem proved : Rows.FnExactRunsAddSaid := over
#print axioms proved
end Go.Proofs.Ytmcapcclnkicbaa.lawFnExactRunsAdd
