/- RoadsMiddle, of the model and of the program. -/
import Derived.Test.YtnlhnibhgpelfaaWG
namespace Go.Proofs.Ytnlhnibhgpelfaa
open Go.RowKit Go.Maps

/-- What holds while the greatest is looked for. -/
def GrRel (f : Int → Option Int) (F r c : Nat) (D : DataW Unit) (w : World) (gi : Nat) (u : Value) (wr : World) : Prop :=
  ∃ (left : Lit → Bool) (m : Int), wr.ranges Try.prog 3 intElem F r c D left gi ∧ u = .int .i64 m ∧ 0 ≤ m ∧ m ≤ 1000 ∧ (m = 0 ∨ ∃ x, f x = some m) ∧ (∀ x d, f x = some d → left (.int .i64 x) = false → d ≤ m) ∧ Below w.heap.size w wr

/-- The greatest of a map's numbers, 0 if there is none. -/
def GrOut (f : Int → Option Int) (w : World) (e : Ending) (w' : World) : Prop :=
  ∃ m : Int, e = .returned (.int .i64 m) ∧ 0 ≤ m ∧ (m = 0 ∨ ∃ x, f x = some m) ∧ (∀ x d, f x = some d → d ≤ m) ∧ Below w.heap.size w w'

set_option maxRecDepth 100000 in
set_option maxHeartbeats 600000 in
theorem greatest_any (f : Int → Option Int) (F c : Nat) (w : World) (h : MapIs w intElem F c (fun t => (f t).map dI)) (hf : ∀ x d, f x = some d → W64 x ∧ 0 ≤ d ∧ d ≤ 1000) :
    Calls Try.prog 79 #[.map (some F)] w (GrOut f w) := by
  obtain ⟨D, hD, hDf⟩ := h
  have Hf := Lib.hid hf; clear hf
  have HDf := Lib.hid hDf; clear hDf
  go_enter Try.func79, Try.ntmps79
  go_wp2_with (at_range; refine wpList_range_own _ rfl _ 82 rfl 3 3 keyInt Try.underlying82 intElem F c D rfl hD ?_; intro w3 hrg0 hg3 hs3)
  have hb3 : Below w.heap.size w w3 := (Below.refl _ _).grown hg3 (Nat.le_refl _) (fun j hj => by cases hj)
  go_loopg [3] (Maps.size D) (fun gi u wr => GrRel f F w.heap.size c D w gi u wr)
  case atStart =>
    refine ⟨_, 0, hrg0, rfl, by omega, by omega, .inl rfl, fun x d hx hl => ?_, hb3⟩
    rw [(HDf.out x (Hf.out x d hx).1).1, hx] at hl; cases hl
  case round =>
    obtain ⟨left, m, hrg, rfl, hm0, hm1, hmx, hmy, hbel⟩ := hrel
    have Hmx := Lib.hid hmx; clear hmx
    have Hmy := Lib.hid hmy; clear hmy
    go_wp2_with (at_next; refine wpList_next_ranges_ii _ rfl _ rfl 3 3 .i64 .i64 keyInt Try.underlying3 Try.underlying3 F w.heap.size c _ _ _ rfl hrg ?_ ?_)
    · intro hc0 hl0
      go_wp2
      go_ret
      exact ⟨m, rfl, hm0, Hmx.out, fun x d hx => Hmy.out x d hx (hl0 _), hbel⟩
    · intro y d w4 cnt4 hwy hwc hly hat hrg4 hlt4 hg4 hs4 hen
      have wy := of_wf hwy
      have hgy : f y = some d := entry_some (HDf.out y wy).2 hat
      have hd := Hf.out y d hgy
      have Hgy := Lib.hid hgy; clear hgy hat hly
      obtain ⟨_, hd0, hd1⟩ := hd
      have hb4 : Below w.heap.size w w4 := hbel.grown hg4 hbel.size (fun j hj => by injection hj with hj; omega)
      go_wp2
      all_goals
        go_roundg cnt4
        case measure => exact hlt4
        case rel =>
          refine ⟨_, _, hrg4, rfl, by omega, by omega, by first | exact Hmx.out | exact .inr ⟨y, Hgy.out⟩, fun x d' hx hl => ?_, hb4⟩
          by_cases e : x = y
          · subst e
            have := hx.symm.trans Hgy.out
            injection this with this; omega
          · have := Hmy.out x d' hx (by simpa [sameKeyI, e] using hl)
            omega

/-- The first of the least. -/
def bestTo (g : Nat → Int) : Nat → Nat
  | 0 => 0
  | k + 1 => if g k < g (bestTo g k) then k else bestTo g k

theorem bestTo_le (g : Nat → Int) : ∀ k, bestTo g k ≤ k
  | 0 => Nat.le_refl _
  | k + 1 => by have := bestTo_le g k; unfold bestTo; split <;> omega

theorem bestTo_lt (g : Nat → Int) : ∀ {k}, 0 < k → bestTo g k < k
  | k + 1, _ => by have := bestTo_le g k; unfold bestTo; split <;> omega

theorem bestTo_one (g : Nat → Int) : bestTo g 1 = 0 := by unfold bestTo; split <;> simp [bestTo] at *

noncomputable def mostN (n : Int) (l : List Rd) (i : Nat) : Int := mostOf n l (i : Int)

/-- What RoadsMiddle gives. -/
noncomputable def midVal (n : Int) (l : List Rd) : Value :=
  if wholeOf n l = true then .tuple #[.int .i64 ((bestTo (mostN n l) n.toNat : Nat) : Int), .int .i64 (mostN n l (bestTo (mostN n l) n.toNat)), .bool true] else .tuple #[.int .i64 0, .int .i64 0, .bool false]


theorem whole_valid {n : Int} {l : List Rd} (h : wholeOf n l = true) : validR n l = true := by
  unfold wholeOf at h; rw [Bool.and_eq_true] at h; exact h.1

def MidRel (n : Int) (l : List Rd) (w : World) (u i : Value) (wr : World) : Prop := ∃ k : Nat, (k : Int) ≤ n ∧ i = .int .i64 k ∧ u = .int .i64 (bestTo (mostN n l) k : Nat) ∧ Below w.heap.size w wr

set_option maxRecDepth 100000 in
set_option maxHeartbeats 600000 in
theorem specMiddle_any (n : Int) (v : Value) (l : List Rd) (w : World) (hv : RoadsIn w v l) (hl : l.length ≤ 1048576) :
    Calls Try.prog 47 #[.int .i64 n, v] w (Gives (midVal n l) w) := by
  have h2 := specWhole_any n v l w hv hl
  have H2 := Lib.hid h2; clear h2
  have Hv := Lib.hid hv; clear hv
  cases hwh : wholeOf n l with
  | false =>
    have hd : midVal n l = .tuple #[.int .i64 0, .int .i64 0, .bool false] := by unfold midVal; rw [hwh]; rfl
    have Hd := Lib.hid hd; clear hd
    rw [hwh] at H2
    clear hwh
    go_enter Try.func47, Try.ntmps47
    go_wp2_with fail
    refine (H2.out).mono ?_
    rintro e w' ⟨rfl, hb⟩
    go_wp2
    go_ret3
    exact ⟨ret_val Hd.out.symm, hb⟩
  | true =>
    have hz := whole_valid hwh
    have hd : midVal n l = .tuple #[.int .i64 ((bestTo (mostN n l) n.toNat : Nat) : Int), .int .i64 (mostN n l (bestTo (mostN n l) n.toNat)), .bool true] := by unfold midVal; rw [hwh]; rfl
    have Hd := Lib.hid hd; clear hd
    rw [hwh] at H2
    obtain ⟨hn1, hn8, _, _⟩ := valid_bounds hz
    have Hz := Lib.hid hz; clear hz hwh
    go_enter Try.func47, Try.ntmps47
    go_wp2_with fail
    refine (H2.out).mono ?_
    rintro e w1 ⟨rfl, hb⟩
    go_wp2
    go_loopw [7, 8] (fun u i wr => MidRel n l w u i wr) (fun _ i _ => (n - intOf i).toNat)
    case atStart => exact ⟨0, by omega, rfl, rfl, hb⟩
    case round =>
      obtain ⟨k, hk, rfl, rfl, hbel⟩ := hrel
      have hbk := bestTo_le (mostN n l) k
      by_cases hlt : (k : Int) < n
      · have hst : bestTo (mostN n l) (k + 1) = if mostN n l k < mostN n l (bestTo (mostN n l) k) then k else bestTo (mostN n l) k := rfl
        have Hst := Lib.hid hst; clear hst
        have m1 : mostOf n l (k : Int) = mostN n l k := rfl
        have m2 : mostOf n l ((bestTo (mostN n l) k : Nat) : Int) = mostN n l (bestTo (mostN n l) k) := rfl
        have M1 := Lib.hid m1; clear m1
        have M2 := Lib.hid m2; clear m2
        generalize bestTo (mostN n l) k = bk at *
        go_wp2_with fail
        refine (l1Most_any n v l k _ (Hv.out.below hbel) Hz.out (by omega) (by omega)).mono ?_
        rintro e w2 ⟨rfl, hb2⟩
        rw [M1.out]
        have hbel2 := hbel.trans (hb2.mono hbel.size)
        go_wp2_with fail
        refine (l1Most_any n v l bk _ (Hv.out.below hbel2) Hz.out (by omega) (by omega)).mono ?_
        rintro e w3 ⟨rfl, hb3⟩
        rw [M2.out]
        have hbel3 := hbel2.trans (hb3.mono hbel2.size)
        generalize mostN n l k = x at *
        generalize mostN n l bk = y at *
        go_wp2
        · have hc : x < y := by assumption
          refine ⟨⟨k + 1, by omega, by go_num, by rw [Hst.out, if_pos hc], hbel3⟩, by simp [intOf]; omega⟩
        · have hc : ¬ x < y := by omega
          refine ⟨⟨k + 1, by omega, by go_num, by rw [Hst.out, if_neg hc], hbel3⟩, by simp [intOf]; omega⟩
      · have hkn : n.toNat = k := by omega
        have Hkn := Lib.hid hkn; clear hkn
        have hbl : bestTo (mostN n l) k < k := bestTo_lt _ (by omega)
        have m2 : mostOf n l ((bestTo (mostN n l) k : Nat) : Int) = mostN n l (bestTo (mostN n l) k) := rfl
        have M2 := Lib.hid m2; clear m2
        generalize hbk2 : bestTo (mostN n l) k = bk at *
        have Hbk2 := Lib.hid hbk2; clear hbk2
        go_wp2_with fail
        refine (l1Most_any n v l bk _ (Hv.out.below hbel) Hz.out (by omega) (by omega)).mono ?_
        rintro e w2 ⟨rfl, hb2⟩
        rw [M2.out]
        go_wp2
        go_ret3
        exact ⟨ret_val (by rw [Hd.out, Hkn.out, Hbk2.out]; rfl), hbel.trans (hb2.mono hbel.size)⟩

theorem whole_all {n : Int} {l : List Rd} (h : wholeOf n l = true) {s t : Int} (hs : 0 ≤ s ∧ s < n) (ht : 0 ≤ t ∧ t < n) : ∃ d, distO (edge l) s t = some d := by
  have hz := whole_valid h
  have hp := (edges_ok hz).pos
  have hsym : Sym (edge l) := fun x y => edge_symm l x y
  unfold wholeOf at h
  rw [hz, whole_iff hz] at h
  simp only [Bool.true_and, List.all_eq_true, List.mem_range] at h
  have g : ∀ x, 0 ≤ x ∧ x < n → ∃ d, Dist (edge l) 0 x d := fun x hx => by
    have := h x.toNat (by omega)
    rw [Int.toNat_of_nonneg hx.1] at this
    obtain ⟨d, hd⟩ := Option.isSome_iff_exists.1 this
    exact ⟨d, distO_some.1 hd⟩
  obtain ⟨d1, h1⟩ := g s hs
  obtain ⟨d2, h2⟩ := g t ht
  obtain ⟨d, hd⟩ := dist_exists hp ⟨_, (h1.1.rev hsym).trans h2.1⟩
  exact ⟨d, distO_some.2 hd⟩

theorem great_most {n : Int} {l : List Rd} (h : wholeOf n l = true) {s m : Int} (hs : 0 ≤ s ∧ s < n) (hm0 : 0 ≤ m) (h1 : m = 0 ∨ ∃ x, distN n (edge l) s x = some m) (h2 : ∀ x d, distN n (edge l) s x = some d → d ≤ m) : m = mostOf n l s := by
  have hz := whole_valid h
  have hN : ∀ x, distN n (edge l) s x = distO (edge l) s x := fun x => by unfold distN; rw [if_pos hs]
  refine Int.le_antisymm ?_ ?_
  · rcases h1 with rfl | ⟨x, hx⟩
    · exact mostTo_nonneg _ _
    · rw [hN] at hx
      have hx0 := (edges_ok hz).town (distO_some.1 hx) hs
      have := mostTo_ge (dst l s) (k := n.toNat) (i := x.toNat) (by omega)
      unfold mostOf
      have e : dst l s ((x.toNat : Nat) : Int) = m := by unfold dst; rw [Int.toNat_of_nonneg hx0.1, hx]; rfl
      omega
  · unfold mostOf
    refine mostTo_le _ hm0 (fun i hi => ?_)
    obtain ⟨d, hd⟩ := whole_all h hs (t := i) (by omega)
    have := h2 i d (by rw [hN]; exact hd)
    unfold dst; rw [hd]; exact this

theorem distN_bd {n : Int} {l : List Rd} (hz : validR n l = true) {s : Int} : ∀ x d, distN n (edge l) s x = some d → W64 x ∧ 0 ≤ d ∧ d ≤ 1000 := fun x d h => by
  unfold distN at h
  split at h
  · rename_i hs
    have hd := distO_some.1 h
    have h1 := (edges_ok hz).dist hd
    have h2 := (edges_ok hz).town hd hs
    have := (edges_ok hz).n8
    exact ⟨by unfold W64; omega, by omega, by omega⟩
  · cases h

def MidRel2 (n : Int) (l : List Rd) (nb : Nat) (bs : Int → Nat) (cnt : Nat) (w : World) (u y i : Value) (wr : World) : Prop :=
  ∃ k : Nat, 1 ≤ k ∧ (k : Int) ≤ n ∧ i = .int .i64 k ∧ u = .int .i64 (bestTo (mostN n l) k : Nat) ∧ y = .int .i64 (mostN n l (bestTo (mostN n l) k)) ∧ Below w.heap.size w wr ∧ NetAt wr nb n bs cnt (edge l)

set_option maxRecDepth 100000 in
set_option maxHeartbeats 600000 in
theorem middle2_any (n : Int) (v : Value) (l : List Rd) (w : World) (hv : RoadsIn w v l) (hl : l.length ≤ 1048576) (hw : RdWf l) :
    Calls Try.prog 46 #[.int .i64 n, v] w (Gives (midVal n l) w) := by
  have hc := networkOf_any n v l w hv hl hw
  have Hc := Lib.hid hc; clear hc hv
  cases hz : validR n l with
  | true =>
    obtain ⟨hn1, hn8, _, _⟩ := valid_bounds hz
    have Hz := Lib.hid hz; clear hz
    cases hwh : wholeOf n l with
    | false =>
      have hd : midVal n l = .tuple #[.int .i64 0, .int .i64 0, .bool false] := by unfold midVal; rw [hwh]; rfl
      have hwb : wholeB n (edge l) = false := by rw [← hwh]; unfold wholeOf; rw [Hz.out, whole_iff Hz.out]; rfl
      have Hd := Lib.hid hd; clear hd hwh
      go_enter Try.func46, Try.ntmps46
      go_wp2_with fail
      refine (Hc.out).mono ?_
      rintro e w1 ⟨h1, _⟩
      obtain ⟨nb, bs, cnt, rfl, hnet, hcn, _, _, hb⟩ := h1 Hz.out
      clear h1
      go_wp2_with fail
      refine (whole_any n _ nb bs cnt _ hnet (edges_ok Hz.out) hcn).mono ?_
      rintro e w2 ⟨rfl, hb2⟩
      rw [hwb]
      go_wp2
      go_ret3
      exact ⟨ret_val Hd.out.symm, hb.trans (hb2.mono hb.size)⟩
    | true =>
      have hd : midVal n l = .tuple #[.int .i64 ((bestTo (mostN n l) n.toNat : Nat) : Int), .int .i64 (mostN n l (bestTo (mostN n l) n.toNat)), .bool true] := by unfold midVal; rw [hwh]; rfl
      have hwb : wholeB n (edge l) = true := by rw [← hwh]; unfold wholeOf; rw [Hz.out, whole_iff Hz.out]; rfl
      have Hd := Lib.hid hd; clear hd
      have Hwh := Lib.hid hwh; clear hwh
      have hb1' := bestTo_one (mostN n l)
      have Hb1' := Lib.hid hb1'; clear hb1'
      go_enter Try.func46, Try.ntmps46
      go_wp2_with fail
      refine (Hc.out).mono ?_
      rintro e w1 ⟨h1, _⟩
      obtain ⟨nb, bs, cnt, rfl, hnet, hcn, _, _, hb⟩ := h1 Hz.out
      clear h1
      go_wp2_with fail
      refine (whole_any n _ nb bs cnt _ hnet (edges_ok Hz.out) hcn).mono ?_
      rintro e w2 ⟨rfl, hb2⟩
      rw [hwb]
      have hnet2 := hnet.below hb2
      have hbel2 := hb.trans (hb2.mono hb.size)
      go_wp2_with fail
      refine (distances_any n _ 0 nb bs cnt _ hnet2 (edges_ok Hz.out) (by unfold W64; omega) hcn).mono ?_
      rintro e w3 ⟨F, c, rfl, _, _, hF, hb3⟩
      have hbel3 := hbel2.trans (hb3.mono hbel2.size)
      have hnet3 := hnet2.below hb3
      go_wp2_with fail
      refine (greatest_any _ F c _ hF (distN_bd Hz.out)).mono ?_
      rintro e w4 ⟨m, rfl, hm0, hm1, hm2, hb4⟩
      have hm := great_most Hwh.out (by omega) hm0 hm1 hm2
      have Hm := Lib.hid hm; clear hm hm1 hm2
      have hbel4 := hbel3.trans (hb4.mono hbel3.size)
      have hnet4 := hnet3.below hb4
      go_wp2
      go_loopw [9, 10, 11] (fun u y i wr => MidRel2 n l nb bs cnt w u y i wr) (fun _ _ i _ => (n - intOf i).toNat)
      case atStart => exact ⟨1, Nat.le_refl _, by omega, rfl, by rw [Hb1'.out]; rfl, by rw [Hb1'.out, Hm.out]; rfl, hbel4, hnet4⟩
      case round =>
        obtain ⟨k, hk1, hk, rfl, rfl, rfl, hbel, hnetk⟩ := hrel
        by_cases hlt : (k : Int) < n
        · have hst : bestTo (mostN n l) (k + 1) = if mostN n l k < mostN n l (bestTo (mostN n l) k) then k else bestTo (mostN n l) k := rfl
          have Hst := Lib.hid hst; clear hst
          have m1 : mostOf n l (k : Int) = mostN n l k := rfl
          have M1 := Lib.hid m1; clear m1
          generalize bestTo (mostN n l) k = bk at *
          go_wp2_with fail
          refine (distances_any n _ k nb bs cnt _ hnetk (edges_ok Hz.out) (by unfold W64; omega) hcn).mono ?_
          rintro e w5 ⟨F2, c2, rfl, _, _, hF2, hb5⟩
          have hbel5 := hbel.trans (hb5.mono hbel.size)
          have hnet5 := hnetk.below hb5
          go_wp2_with fail
          refine (greatest_any _ F2 c2 _ hF2 (distN_bd Hz.out)).mono ?_
          rintro e w6 ⟨m6, rfl, hm60, hm61, hm62, hb6⟩
          have hm6 := great_most Hwh.out (by omega) hm60 hm61 hm62
          rw [M1.out] at hm6
          clear hm61 hm62 hm60
          subst hm6
          have hbel6 := hbel5.trans (hb6.mono hbel5.size)
          have hnet6 := hnet5.below hb6
          generalize hx : mostN n l k = x at *
          generalize hy : mostN n l bk = y at *
          have Hx := Lib.hid hx; clear hx
          have Hy := Lib.hid hy; clear hy
          go_wp2
          · have hcc : x < y := by assumption
            refine ⟨⟨k + 1, by omega, by omega, by go_num, by rw [Hst.out, if_pos hcc], by rw [Hst.out, if_pos hcc, Hx.out], hbel6, hnet6⟩, by simp [intOf]; omega⟩
          · have hcc : ¬ x < y := by omega
            refine ⟨⟨k + 1, by omega, by omega, by go_num, by rw [Hst.out, if_neg hcc], by rw [Hst.out, if_neg hcc, Hy.out], hbel6, hnet6⟩, by simp [intOf]; omega⟩
        · have hkn : n.toNat = k := by omega
          have Hkn := Lib.hid hkn; clear hkn
          go_wp2
          go_ret3
          exact ⟨ret_val (by rw [Hd.out, Hkn.out]; rfl), hbel⟩
  | false =>
    have hd : midVal n l = .tuple #[.int .i64 0, .int .i64 0, .bool false] := by unfold midVal wholeOf; rw [hz]; rfl
    have Hd := Lib.hid hd; clear hd
    have Hz := Lib.hid hz; clear hz
    go_enter Try.func46, Try.ntmps46
    go_wp2_with fail
    refine (Hc.out).mono ?_
    rintro e w1 ⟨_, h1⟩
    obtain ⟨rfl, hb⟩ := h1 Hz.out
    clear h1
    go_wp2
    go_ret3
    exact ⟨ret_val Hd.out.symm, hb⟩

end Go.Proofs.Ytnlhnibhgpelfaa
