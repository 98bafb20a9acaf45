/- The law FnExactBillAdd holds at every input. No condition. -/
import Derived.Test.YtmdcpigobfhckaaOJ
import Derived.Test.YtmdcpigobfhckaaFBI
import Derived.Test.YtmdcpigobfhckaaFBS
import Derived.Test.YtmdcpigobfhckaaFB
import Derived.Test.YtmdcpigobfhckaaFC
import Derived.Test.YtmdcpigobfhckaaFD
import Derived.Lib.SmallJoins
import Derived.Deep.RegionHeld3
namespace Go.Proofs.Ytmdcpigobfhckaa.lawFnExactBillAdd
open Go.ChangeShapes Go.WideShapes Go.ChangeAt Go.RowKit
set_option linter.unusedVariables false

set_option maxRecDepth 100000 in
set_option maxHeartbeats 2000000 in
theorem walk (a0 : Int) (v1 : Value) (l1 : List Fr) (a2a : Int) (a2b : Int) (a2m : Int) (w : World) (wa0 : W64 a0) (hv1 : FrIn w v1 l1) (hw1 : FrWf l1) (hm1 : l1.length ≤ maxLen) (wa2a : W64 a2a) (wa2b : W64 a2b) (wa2m : W64 a2m) :
    Calls Try.prog 6 #[.int .i64 a0, v1, .agg #[.int .i64 a2a, .int .i64 a2b, .int .i64 a2m]] w fun e w' => e = .returned (.bool true) ∧ Below w.heap.size w w' := by
  have W1 := Lib.hid hw1; clear hw1
  by_cases hl1 : l1.length ≤ 1048576
  · have Hlb : Hid ((bookL a0 l1 ⟨a2a, a2b, a2m⟩).length ≤ 1048576) := Lib.hid (by have h := bookL_short a0 l1 ⟨a2a, a2b, a2m⟩; omega)
    go_enter Try.func6, Try.ntmps6
    go_wp2_with fail
    have HBz := Lib.hid ((Below.refl w.heap.size w).alloc (Nat.le_refl _) (.cells #[.int .i64 a2a, .int .i64 a2b, .int .i64 a2m] 38))
    have hgz : w.heap.size < (w.alloc (.cells #[.int .i64 a2a, .int .i64 a2b, .int .i64 a2m] 38)).heap.size := by simp
    have q0 : (w.alloc (.cells #[.int .i64 a2a, .int .i64 a2b, .int .i64 a2m] 38)).cell? ⟨w.heap.size, 0, none⟩ = some (.int .i64 a2a) := by go_simp
    have q1 : (w.alloc (.cells #[.int .i64 a2a, .int .i64 a2b, .int .i64 a2m] 38)).cell? ⟨w.heap.size, 1, none⟩ = some (.int .i64 a2b) := by go_simp
    have q2 : (w.alloc (.cells #[.int .i64 a2a, .int .i64 a2b, .int .i64 a2m] 38)).cell? ⟨w.heap.size, 2, none⟩ = some (.int .i64 a2m) := by go_simp
    generalize w.alloc (.cells #[.int .i64 a2a, .int .i64 a2b, .int .i64 a2m] 38) = wz at *
    have hv1 := hv1.below HBz.out
    refine (szParcelS_yes _ l1 _ hv1 hl1).mono ?_; rintro e w' ⟨rfl, rfl⟩
    go_wp2_with fail
    have hgk := hgz
    go_region_held3 (fun w' => w'.cell? ⟨w.heap.size, 0, none⟩ = some (.int .i64 a2a) ∧ w'.cell? ⟨w.heap.size, 1, none⟩ = some (.int .i64 a2b) ∧ w'.cell? ⟨w.heap.size, 2, none⟩ = some (.int .i64 a2m)) (first | exact ⟨((bel3.cell (p := (⟨w.heap.size, 0, none⟩ : Addr)) (Nat.lt_of_lt_of_le (Nat.lt_of_lt_of_le hgk bel1.size) bel2.size)).trans ((bel2.cell (p := (⟨w.heap.size, 0, none⟩ : Addr)) (Nat.lt_of_lt_of_le hgk bel1.size)).trans ((bel1.cell (p := (⟨w.heap.size, 0, none⟩ : Addr)) hgk).trans q0))), ((bel3.cell (p := (⟨w.heap.size, 1, none⟩ : Addr)) (Nat.lt_of_lt_of_le (Nat.lt_of_lt_of_le hgk bel1.size) bel2.size)).trans ((bel2.cell (p := (⟨w.heap.size, 1, none⟩ : Addr)) (Nat.lt_of_lt_of_le hgk bel1.size)).trans ((bel1.cell (p := (⟨w.heap.size, 1, none⟩ : Addr)) hgk).trans q1))), ((bel3.cell (p := (⟨w.heap.size, 2, none⟩ : Addr)) (Nat.lt_of_lt_of_le (Nat.lt_of_lt_of_le hgk bel1.size) bel2.size)).trans ((bel2.cell (p := (⟨w.heap.size, 2, none⟩ : Addr)) (Nat.lt_of_lt_of_le hgk bel1.size)).trans ((bel1.cell (p := (⟨w.heap.size, 2, none⟩ : Addr)) hgk).trans q2)))⟩ | exact ⟨((bel2.cell (p := (⟨w.heap.size, 0, none⟩ : Addr)) (Nat.lt_of_lt_of_le hgk bel1.size)).trans ((bel1.cell (p := (⟨w.heap.size, 0, none⟩ : Addr)) hgk).trans q0)), ((bel2.cell (p := (⟨w.heap.size, 1, none⟩ : Addr)) (Nat.lt_of_lt_of_le hgk bel1.size)).trans ((bel1.cell (p := (⟨w.heap.size, 1, none⟩ : Addr)) hgk).trans q1)), ((bel2.cell (p := (⟨w.heap.size, 2, none⟩ : Addr)) (Nat.lt_of_lt_of_le hgk bel1.size)).trans ((bel1.cell (p := (⟨w.heap.size, 2, none⟩ : Addr)) hgk).trans q2))⟩ | exact ⟨((bel1.cell (p := (⟨w.heap.size, 0, none⟩ : Addr)) hgk).trans q0), ((bel1.cell (p := (⟨w.heap.size, 1, none⟩ : Addr)) hgk).trans q1), ((bel1.cell (p := (⟨w.heap.size, 2, none⟩ : Addr)) hgk).trans q2)⟩ | (go_keep; done) | exact ⟨q0, q1, q2⟩)
      (first | (go_at_call 23; refine (toParcelS_any _ l1 wz.drew (hv1.below ((Below.refl _ wz).drew)) hl1).mono ?_; rintro e w1 ⟨b1, rfl, hb1, hlt1, hr1, hm_1, bel1⟩) | (go_at_call 35; refine (toParcel_any a2a a2b a2m w1).mono ?_; rintro e w2 ⟨rfl, bel2⟩) | (go_at_call 34; refine (book1_out _ wa0 _ _ l1 ⟨a2a, a2b, a2m⟩ w2 ((FrIn.row (cap := l1.length) hlt1 (Nat.le_refl _) hr1).below bel2) hl1).mono ?_; rintro e w3 ⟨adw, capw, rfl, hcw, how_3, hblkw, bel3⟩))
    have bel1 : Below wz.heap.size wz w1 := ((Below.refl wz.heap.size wz).drew).trans bel1
    have z1 := bel1.size
    have s1_1 := FrIn.row (cap := l1.length) hlt1 (Nat.le_refl _) hr1
    clear hr1
    have B1 := bel1
    have q0_B1 := (B1.cell (p := ⟨w.heap.size, 0, none⟩) hgz).trans q0
    have q1_B1 := (B1.cell (p := ⟨w.heap.size, 1, none⟩) hgz).trans q1
    have q2_B1 := (B1.cell (p := ⟨w.heap.size, 2, none⟩) hgz).trans q2
    clear bel1
    have z2 := bel2.size
    have s1_2 := s1_1.below bel2
    clear s1_1
    have B2 := B1.trans (bel2.mono B1.size)
    have q0_B2 := (B2.cell (p := ⟨w.heap.size, 0, none⟩) hgz).trans q0
    have q1_B2 := (B2.cell (p := ⟨w.heap.size, 1, none⟩) hgz).trans q1
    have q2_B2 := (B2.cell (p := ⟨w.heap.size, 2, none⟩) hgz).trans q2
    clear q0_B1 q1_B1 q2_B1
    clear B1
    clear bel2
    clear s1_2
    have z3 := bel3.size
    have B3 := B2.trans (bel3.mono B2.size)
    have q0_B3 := (B3.cell (p := ⟨w.heap.size, 0, none⟩) hgz).trans q0
    have q1_B3 := (B3.cell (p := ⟨w.heap.size, 1, none⟩) hgz).trans q1
    have q2_B3 := (B3.cell (p := ⟨w.heap.size, 2, none⟩) hgz).trans q2
    clear q0_B2 q1_B2 q2_B2
    clear B2
    clear bel3
    generalize hxs : bookL a0 l1 ⟨a2a, a2b, a2m⟩ = xs at *
    generalize hok : validF a0 (l1 ++ [⟨a2a, a2b, a2m⟩]) = ok at *
    have Hxs := Lib.hid hxs; clear hxs
    have Hok := Lib.hid hok; clear hok
    go_wp2_with fail
    refine (toParcelS_any _ l1 _ (hv1.below B3) hl1).mono ?_; rintro e w4 ⟨b4, rfl, hb4, hlt4, hr4, hm_4, bel4⟩
    have z4 := bel4.size
    have how_4 := how_3.below bel4
    clear how_3
    have x1_4 := FrIn.row (cap := l1.length) hlt4 (Nat.le_refl _) hr4
    have hat4 := hr4
    clear hr4
    have B4 := B3.trans (bel4.mono B3.size)
    have q0_B4 := (B4.cell (p := ⟨w.heap.size, 0, none⟩) hgz).trans q0
    have q1_B4 := (B4.cell (p := ⟨w.heap.size, 1, none⟩) hgz).trans q1
    have q2_B4 := (B4.cell (p := ⟨w.heap.size, 2, none⟩) hgz).trans q2
    clear q0_B3 q1_B3 q2_B3
    clear B3
    clear bel4
    have ox1_4 : OwnFr w4 (some ⟨b4, 0, none⟩) l1 := fun _ => ⟨b4, rfl, hlt4, hat4, hm_4⟩
    go_wp2_with fail
    refine (toParcel_any a2a a2b a2m _).mono ?_; rintro e w5 ⟨rfl, bel5⟩
    have z5 := bel5.size
    have how_5 := how_4.below bel5
    clear how_4
    have x1_5 := x1_4.below bel5
    clear x1_4
    have ox1_5 := ox1_4.below bel5
    clear ox1_4
    have B5 := B4.trans (bel5.mono B4.size)
    have q0_B5 := (B5.cell (p := ⟨w.heap.size, 0, none⟩) hgz).trans q0
    have q1_B5 := (B5.cell (p := ⟨w.heap.size, 1, none⟩) hgz).trans q1
    have q2_B5 := (B5.cell (p := ⟨w.heap.size, 2, none⟩) hgz).trans q2
    clear q0_B4 q1_B4 q2_B4
    clear B4
    clear bel5
    go_wp2_with fail
    refine (book2_out _ _ _ l1 ⟨a2a, a2b, a2m⟩ _ x1_5 hl1).mono ?_; rintro e w6 ⟨adg, capg, he, hcg, hog_6, hblkg, bel6⟩
    rw [Hxs.out, Hok.out] at he
    rw [Hxs.out] at hcg hog_6
    subst he
    have z6 := bel6.size
    have how_6 := how_5.below bel6
    clear how_5
    have x1_6 := x1_5.below bel6
    clear x1_5
    have ox1_6 := ox1_5.below bel6
    clear ox1_5
    have B6 := B5.trans (bel6.mono B5.size)
    have q0_B6 := (B6.cell (p := ⟨w.heap.size, 0, none⟩) hgz).trans q0
    have q1_B6 := (B6.cell (p := ⟨w.heap.size, 1, none⟩) hgz).trans q1
    have q2_B6 := (B6.cell (p := ⟨w.heap.size, 2, none⟩) hgz).trans q2
    clear q0_B5 q1_B5 q2_B5
    clear B5
    clear bel6
    have dw1 := Lib.hid (show ∀ i, inBlk adw i → ¬ inBlk (some ⟨b4, 0, none⟩) i from fun i hi h => by obtain ⟨o, ho⟩ := h; cases ho; have := hblkw _ hi; omega)
    have dg1 := Lib.hid (show ∀ i, inBlk adg i → ¬ inBlk (some ⟨b4, 0, none⟩) i from fun i hi h => by obtain ⟨o, ho⟩ := h; cases ho; have := hblkg _ hi; omega)
    have lo1 := Lib.hid (show ∀ i, inBlk (some ⟨b4, 0, none⟩) i → wz.heap.size ≤ i from fun i h => by obtain ⟨o, ho⟩ := h; cases ho; omega)
    have dwg := Lib.hid (show ∀ i, inBlk adw i → ¬ inBlk adg i from fun i hi h => by have := hblkw _ hi; have := hblkg _ h; omega)
    have log := Lib.hid (show ∀ i, inBlk adg i → wz.heap.size ≤ i from fun i h => by have := hblkg _ h; omega)
    clear hblkw hblkg z1 z2 z3 z4 z5 z6 hb4 hlt4
    go_wp2_with fail
    refine (eqParcelS_any _ _ xs xs _ (hog_6.ins hcg) (how_6.ins hcw) Hlb.out).mono ?_; rintro e w7 ⟨⟨x7, rfl, hx7⟩, bel7⟩
    obtain rfl : x7 = true := hx7.2 rfl
    clear hx7
    have how_7 := how_6.below bel7
    clear how_6
    have x1_7 := x1_6.below bel7
    clear x1_6
    have ox1_7 := ox1_6.below bel7
    clear ox1_6
    have hog_7 := hog_6.below bel7
    clear hog_6
    have B7 := B6.trans (bel7.mono B6.size)
    have q0_B7 := (B7.cell (p := ⟨w.heap.size, 0, none⟩) hgz).trans q0
    have q1_B7 := (B7.cell (p := ⟨w.heap.size, 1, none⟩) hgz).trans q1
    have q2_B7 := (B7.cell (p := ⟨w.heap.size, 2, none⟩) hgz).trans q2
    clear q0_B6 q1_B6 q2_B6
    clear B6
    clear bel7
    go_wp2_with fail
    refine (toParcelS_any _ l1 _ (hv1.below B7) hl1).mono ?_; rintro e w8 ⟨b8, rfl, hb8, hlt8, hr8, hm_8, bel8⟩
    have z8 := bel8.size
    have how_8 := how_7.below bel8
    clear how_7
    have x1_8 := x1_7.below bel8
    clear x1_7
    have ox1_8 := ox1_7.below bel8
    clear ox1_7
    have hog_8 := hog_7.below bel8
    clear hog_7
    have y1_8 := FrIn.row (cap := l1.length) hlt8 (Nat.le_refl _) hr8
    clear hr8
    have B8 := B7.trans (bel8.mono B7.size)
    have q0_B8 := (B8.cell (p := ⟨w.heap.size, 0, none⟩) hgz).trans q0
    have q1_B8 := (B8.cell (p := ⟨w.heap.size, 1, none⟩) hgz).trans q1
    have q2_B8 := (B8.cell (p := ⟨w.heap.size, 2, none⟩) hgz).trans q2
    clear q0_B7 q1_B7 q2_B7
    clear B7
    clear bel8
    go_wp2_with fail
    refine (eqParcelS_any _ _ l1 l1 _ x1_8 y1_8 hl1).mono ?_; rintro e w9 ⟨⟨x9, rfl, hx9⟩, bel9⟩
    obtain rfl : x9 = true := hx9.2 rfl
    clear hx9
    clear x1_8 y1_8
    have how_9 := how_8.below bel9
    clear how_8
    have ox1_9 := ox1_8.below bel9
    clear ox1_8
    have hog_9 := hog_8.below bel9
    clear hog_8
    have B9 := B8.trans (bel9.mono B8.size)
    have q0_B9 := (B9.cell (p := ⟨w.heap.size, 0, none⟩) hgz).trans q0
    have q1_B9 := (B9.cell (p := ⟨w.heap.size, 1, none⟩) hgz).trans q1
    have q2_B9 := (B9.cell (p := ⟨w.heap.size, 2, none⟩) hgz).trans q2
    clear q0_B8 q1_B8 q2_B8
    clear B8
    clear bel9
    go_wp2_with fail
    refine (markParcelS_own _ _ l1 1 _ ox1_9 hl1 (by omega) (by omega)).mono ?_; rintro e w10 ⟨rfl, _, t10⟩
    clear ox1_9
    have B10 : Below wz.heap.size wz w10 := B9.trans (t10.below lo1.out B9.size)
    have q0_B10 := (B10.cell (p := ⟨w.heap.size, 0, none⟩) hgz).trans q0
    have q1_B10 := (B10.cell (p := ⟨w.heap.size, 1, none⟩) hgz).trans q1
    have q2_B10 := (B10.cell (p := ⟨w.heap.size, 2, none⟩) hgz).trans q2
    clear q0_B9 q1_B9 q2_B9
    clear B9
    have hog_10 := hog_9.touch t10 (fun i hi => dg1.out i hi)
    clear hog_9
    have how_10 := how_9.touch t10 (fun i hi => dw1.out i hi)
    clear how_9
    clear t10
    go_wp2_with fail
    refine (eqParcelS_any _ _ xs xs _ (hog_10.ins hcg) (how_10.ins hcw) Hlb.out).mono ?_; rintro e w11 ⟨⟨x11, rfl, hx11⟩, bel11⟩
    obtain rfl : x11 = true := hx11.2 rfl
    clear hx11
    have how_11 := how_10.below bel11
    clear how_10
    have hog_11 := hog_10.below bel11
    clear hog_10
    have B11 := B10.trans (bel11.mono B10.size)
    have q0_B11 := (B11.cell (p := ⟨w.heap.size, 0, none⟩) hgz).trans q0
    have q1_B11 := (B11.cell (p := ⟨w.heap.size, 1, none⟩) hgz).trans q1
    have q2_B11 := (B11.cell (p := ⟨w.heap.size, 2, none⟩) hgz).trans q2
    clear q0_B10 q1_B10 q2_B10
    clear B10
    clear bel11
    go_wp2_with fail
    refine (markParcelS_own adg capg xs 1 _ hog_11 Hlb.out (by omega) (by omega)).mono ?_; rintro e w12 ⟨rfl, hog_12, t12⟩
    clear hog_11
    have B12 : Below wz.heap.size wz w12 := B11.trans (t12.below log.out B11.size)
    have q0_B12 := (B12.cell (p := ⟨w.heap.size, 0, none⟩) hgz).trans q0
    have q1_B12 := (B12.cell (p := ⟨w.heap.size, 1, none⟩) hgz).trans q1
    have q2_B12 := (B12.cell (p := ⟨w.heap.size, 2, none⟩) hgz).trans q2
    clear q0_B11 q1_B11 q2_B11
    clear B11
    have how_12 := how_11.touch t12 (fun i hi => dwg.out i hi)
    clear how_11 t12
    go_wp2_with fail
    refine (heldParcelS_any adg capg xs.length 1 _ hog_12 Hlb.out (by omega) (by omega)).mono ?_; rintro e w' ⟨rfl, rfl⟩
    go_wp2_with fail
    have hgk := Nat.lt_of_lt_of_le hgz B12.size
    go_region_held3 (fun w' => w'.cell? ⟨w.heap.size, 0, none⟩ = some (.int .i64 a2a) ∧ w'.cell? ⟨w.heap.size, 1, none⟩ = some (.int .i64 a2b) ∧ w'.cell? ⟨w.heap.size, 2, none⟩ = some (.int .i64 a2m)) (first | exact ⟨((bel15.cell (p := (⟨w.heap.size, 0, none⟩ : Addr)) (Nat.lt_of_lt_of_le (Nat.lt_of_lt_of_le hgk bel13.size) bel14.size)).trans ((bel14.cell (p := (⟨w.heap.size, 0, none⟩ : Addr)) (Nat.lt_of_lt_of_le hgk bel13.size)).trans ((bel13.cell (p := (⟨w.heap.size, 0, none⟩ : Addr)) hgk).trans q0_B12))), ((bel15.cell (p := (⟨w.heap.size, 1, none⟩ : Addr)) (Nat.lt_of_lt_of_le (Nat.lt_of_lt_of_le hgk bel13.size) bel14.size)).trans ((bel14.cell (p := (⟨w.heap.size, 1, none⟩ : Addr)) (Nat.lt_of_lt_of_le hgk bel13.size)).trans ((bel13.cell (p := (⟨w.heap.size, 1, none⟩ : Addr)) hgk).trans q1_B12))), ((bel15.cell (p := (⟨w.heap.size, 2, none⟩ : Addr)) (Nat.lt_of_lt_of_le (Nat.lt_of_lt_of_le hgk bel13.size) bel14.size)).trans ((bel14.cell (p := (⟨w.heap.size, 2, none⟩ : Addr)) (Nat.lt_of_lt_of_le hgk bel13.size)).trans ((bel13.cell (p := (⟨w.heap.size, 2, none⟩ : Addr)) hgk).trans q2_B12)))⟩ | exact ⟨((bel14.cell (p := (⟨w.heap.size, 0, none⟩ : Addr)) (Nat.lt_of_lt_of_le hgk bel13.size)).trans ((bel13.cell (p := (⟨w.heap.size, 0, none⟩ : Addr)) hgk).trans q0_B12)), ((bel14.cell (p := (⟨w.heap.size, 1, none⟩ : Addr)) (Nat.lt_of_lt_of_le hgk bel13.size)).trans ((bel13.cell (p := (⟨w.heap.size, 1, none⟩ : Addr)) hgk).trans q1_B12)), ((bel14.cell (p := (⟨w.heap.size, 2, none⟩ : Addr)) (Nat.lt_of_lt_of_le hgk bel13.size)).trans ((bel13.cell (p := (⟨w.heap.size, 2, none⟩ : Addr)) hgk).trans q2_B12))⟩ | exact ⟨((bel13.cell (p := (⟨w.heap.size, 0, none⟩ : Addr)) hgk).trans q0_B12), ((bel13.cell (p := (⟨w.heap.size, 1, none⟩ : Addr)) hgk).trans q1_B12), ((bel13.cell (p := (⟨w.heap.size, 2, none⟩ : Addr)) hgk).trans q2_B12)⟩ | (go_keep; done) | exact ⟨q0_B12, q1_B12, q2_B12⟩)
      (first | (go_at_call 23; refine (toParcelS_any _ l1 w'.drew ((hv1.below B12).below ((Below.refl _ w').drew)) hl1).mono ?_; rintro e w13 ⟨b13, rfl, hb13, hlt13, hr13, hm_13, bel13⟩) | (go_at_call 35; refine (toParcel_any a2a a2b a2m w13).mono ?_; rintro e w14 ⟨rfl, bel14⟩) | (go_at_call 36; refine (book2_out _ _ _ l1 ⟨a2a, a2b, a2m⟩ w14 ((FrIn.row (cap := l1.length) hlt13 (Nat.le_refl _) hr13).below bel14) hl1).mono ?_; rintro e w15 ⟨adh, caph, he, hch, hoh, hblkh, bel15⟩; rw [Hxs.out, Hok.out] at he; rw [Hxs.out] at hch hoh; subst he))
    have bel13 : Below w'.heap.size w' w13 := ((Below.refl w'.heap.size w').drew).trans bel13
    have z13 := bel13.size
    have how_13 := how_12.below bel13
    clear how_12
    have hog_13 := hog_12.below bel13
    clear hog_12
    have u1_13 := FrIn.row (cap := l1.length) hlt13 (Nat.le_refl _) hr13
    clear hr13
    have B13 := B12.trans (bel13.mono B12.size)
    have q0_B13 := (B13.cell (p := ⟨w.heap.size, 0, none⟩) hgz).trans q0
    have q1_B13 := (B13.cell (p := ⟨w.heap.size, 1, none⟩) hgz).trans q1
    have q2_B13 := (B13.cell (p := ⟨w.heap.size, 2, none⟩) hgz).trans q2
    clear q0_B12 q1_B12 q2_B12
    clear B12
    clear bel13
    have z14 := bel14.size
    have how_14 := how_13.below bel14
    clear how_13
    have hog_14 := hog_13.below bel14
    clear hog_13
    have u1_14 := u1_13.below bel14
    clear u1_13
    have B14 := B13.trans (bel14.mono B13.size)
    have q0_B14 := (B14.cell (p := ⟨w.heap.size, 0, none⟩) hgz).trans q0
    have q1_B14 := (B14.cell (p := ⟨w.heap.size, 1, none⟩) hgz).trans q1
    have q2_B14 := (B14.cell (p := ⟨w.heap.size, 2, none⟩) hgz).trans q2
    clear q0_B13 q1_B13 q2_B13
    clear B13
    clear bel14
    clear u1_14
    have how_15 := how_14.below bel15
    clear how_14
    have hog_15 := hog_14.below bel15
    clear hog_14
    have B15 := B14.trans (bel15.mono B14.size)
    have q0_B15 := (B15.cell (p := ⟨w.heap.size, 0, none⟩) hgz).trans q0
    have q1_B15 := (B15.cell (p := ⟨w.heap.size, 1, none⟩) hgz).trans q1
    have q2_B15 := (B15.cell (p := ⟨w.heap.size, 2, none⟩) hgz).trans q2
    clear q0_B14 q1_B14 q2_B14
    clear B14
    clear bel15 hblkh
    go_wp2_with fail
    refine (eqParcelS_any _ _ xs xs _ (hoh.ins hch) (how_15.ins hcw) Hlb.out).mono ?_; rintro e w16 ⟨⟨x16, rfl, hx16⟩, bel16⟩
    obtain rfl : x16 = true := hx16.2 rfl
    clear hx16
    clear hoh how_15
    have hog_16 := hog_15.below bel16
    clear hog_15
    have B16 := B15.trans (bel16.mono B15.size)
    have q0_B16 := (B16.cell (p := ⟨w.heap.size, 0, none⟩) hgz).trans q0
    have q1_B16 := (B16.cell (p := ⟨w.heap.size, 1, none⟩) hgz).trans q1
    have q2_B16 := (B16.cell (p := ⟨w.heap.size, 2, none⟩) hgz).trans q2
    clear q0_B15 q1_B15 q2_B15
    clear B15
    clear bel16
    go_wp2_with fail
    refine (heldParcelS_any adg capg xs.length 1 _ hog_16 Hlb.out (by omega) (by omega)).mono ?_; rintro e w' ⟨rfl, rfl⟩
    go_wp2
    go_ret
    exact ⟨rfl, HBz.out.trans (B16.mono (Nat.le_of_lt hgz))⟩
  · go_enter Try.func6, Try.ntmps6
    go_wp2_with fail
    refine (szParcelS_no _ l1 _ (hv1.below ((Below.refl _ _).alloc (Nat.le_refl _) _)) hm1 hl1).mono ?_; rintro e w' ⟨rfl, rfl⟩
    go_wp2
    go_ret
    exact ⟨rfl, (Below.refl _ _).alloc (Nat.le_refl _) _⟩

set_option maxRecDepth 100000 in
theorem lifted (os : Os) (started : os.Started) (H : Type) (enc : TypeId × Value → H) :
    ReturnsInHanded {} Try.checked os 6 .any (Rows.fnExactBillAddSpec.pre6 enc Try.prog Try.f6 Rows.fnExactBillAddRow.domain false) (Rows.fnExactBillAddSpec.post enc Try.prog Try.f6 false true false false) := by
  refine returnsInHanded_of_change (C := Try.checked) own started (by kernel_rfl) Try.func6
    (ChangeSpec.witness6 (enc := enc) (C := Try.checked) false ⟨#[], #[.int .i64 0, .slice none 0 0, .agg #[.int .i64 0, .int .i64 0, .int .i64 0]], []⟩ 8 (by kernel_rfl) (by kernel_rfl) (by kernel_rfl) (by kernel_rfl)) ?_
  intro W base args ds gs before hval0 hW hcnd _
  have hval : ∀ (j : Nat) t v, Try.f6.params[j]? = some t → args[j]? = some v → Value.okWide Try.prog W .any base t v := hval0
  have hW' := hW
  obtain ⟨p, q, hA0, hV, rfl, hfz, hnd⟩ := hW
  have hA : DataW.TrodAll enc Try.prog W 0 (fun _ => true) true Try.f6.params.toList args.toList ds p := hA0
  rw [Try.params6] at hA hval
  obtain ⟨v0, vs0, d0, ds0, p0, q0, hargs, rfl, rfl, h0, r0⟩ := trodAll_cons hA
  obtain ⟨v1, vs1, d1, ds1, p1, q1, rfl, rfl, rfl, h1, r1⟩ := trodAll_cons r0
  obtain ⟨v2, vs2, d2, ds2, p2, q2, rfl, rfl, rfl, h2, r2⟩ := trodAll_cons r1
  obtain ⟨rfl, rfl, rfl⟩ := trodAll_nil r2
  obtain rfl : args = #[v0, v1, v2] := by cases args; simp_all
  obtain ⟨rfl, rfl⟩ := trodVars_none hV
  obtain ⟨x0, rfl, rfl, rfl, w0⟩ := open_int Try.underlying3 (hval 0 3 v0 rfl rfl) h0
  obtain ⟨a1, len1, cap1, rfl⟩ := okWide_slice Try.underlying22 (hval 1 22 v1 rfl rfl)
  have k1 := h1
  have lt1 : ∀ x ∈ p1, x.block < W.heap.size := by obtain ⟨m, hm⟩ := k1; exact DataW.trod_lt m _ _ _ hm
  obtain ⟨z1, hv1, hw1, _, hm1⟩ := open_Fr h1
  obtain ⟨c2a, c2b, c2m, y2a, y2b, y2m, m2, rfl, rfl, rfl, hy2a, hy2b, hy2m⟩ := Go.Joins.open_agg3 Try.underlying38 (by kernel_rfl) (by kernel_rfl) (hval 2 38 v2 rfl rfl) h2
  obtain ⟨x2a, e2a, rfl, w2a⟩ := DataW.trod_int Try.underlying3 hy2a
  simp at e2a; subst e2a
  obtain ⟨x2b, e2b, rfl, w2b⟩ := DataW.trod_int Try.underlying3 hy2b
  simp at e2b; subst e2b
  obtain ⟨x2m, e2m, rfl, w2m⟩ := DataW.trod_int Try.underlying3 hy2m
  simp at e2m; subst e2m
  clear hA0 hval0
  refine (walk x0 _ z1 x2a x2b x2m W (wfI w0) hv1 hw1 hm1 (wfI w2a) (wfI w2b) (wfI w2m)).mono fun e W' ⟨he, bel⟩ => ?_
  subst he
  exact ⟨_, rfl, _, _, _, [], _, [], hW', trodAll_mk1 (shut_bool Try.underlying4 _), (trodAll_cons_mk (shut_int Try.underlying3 w0) (trodAll_cons_mk (Below.trod laidOut (by kernel_rfl) (of_decide_eq_true (by kernel_rfl)) k1 bel lt1) (trodAll_cons_mk (Go.Joins.shut_agg3 (y0 := (.lit (.int .i64 x2a), [])) (y1 := (.lit (.int .i64 x2b), [])) (y2 := (.lit (.int .i64 x2m), [])) Try.underlying38 (by kernel_rfl) (by kernel_rfl) ⟨1, by simp [DataW.trod, (show Try.checked.prog.underlying 3 = some (.int .i64) from Try.underlying3), w2a]⟩ ⟨1, by simp [DataW.trod, (show Try.checked.prog.underlying 3 = some (.int .i64) from Try.underlying3), w2b]⟩ ⟨1, by simp [DataW.trod, (show Try.checked.prog.underlying 3 = some (.int .i64) from Try.underlying3), w2m]⟩) trodAll_mk0))), rfl, bel.frame _, fun h => by cases h⟩

theorem closed : joinedFacts Try.prog 6 Try.f6 Rows.fnExactBillAddSpec Rows.fnExactBillAddRow = true := by
  delta joinedFacts
  refine and_t (and_t (and_t (and_t (and_t (and_t (and_t ?_ mayE) (liftE rfl)) (makeE rfl)) ?_) ?_) ?_) ?_
  all_goals kernel_rfl
theorem over : Rows.fnExactBillAddRow.holds Try.pinned (OpenSpec.ofChange Rows.fnExactBillAddSpec) :=
  OpenClaim.holds_of_wide 6 Try.f6 rfl rfl rfl rfl rfl rfl rfl ⟨rfl, rfl, rfl, rfl, rfl⟩ rfl rfl rfl rfl rfl (by kernel_rfl) Try.func6 closed
    (of_decide_eq_true (by kernel_rfl)) (by unfold Func.isWrapper; first | (rw [if_pos (by decide +kernel)]; kernel_rfl) | (rw [if_neg (by decide +kernel)]; exact ⟨rfl, rfl⟩))
    (fun os started H enc _ => lifted os started H enc)

theorem proved : Rows.FnExactBillAddSaid := over
#print axioms proved
end Go.Proofs.Ytmdcpigobfhckaa.lawFnExactBillAdd
