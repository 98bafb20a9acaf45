/- The model's ShareMake, ShareDue, ShareRide. -/
import Derived.Test.YthdkjjfnockldaaQ6
namespace Go.Proofs.Ythdkjjfnockldaa
open Go.RowKit

theorem okAm_in (amt : Int) : okAm amt = inB amt 0 1000000 := by rw [Bool.eq_iff_iff, okAm_iff, inB_iff]

set_option maxHeartbeats 1000000 in
theorem make1_any (v : Value) (l : List Pt) (amt : Int) (w : World) (hv : PtIn w v l) (hm : l.length ≤ 1048576) :
    Calls Try.prog 40 #[v, .int .i64 amt] w (IntsOk (makeX l amt) (makeOk l amt) w) := by
  have Hval := Lib.hid (valid1_any v l w hv (by omega))
  cases hz : validP l with
  | false =>
    have ho : makeOk l amt = false := by unfold makeOk; rw [hz]; rfl
    have hx : makeX l amt = [] := by unfold makeX; rw [ho]; rfl
    have Hx := Lib.hid hx; clear hx
    have Ho := Lib.hid ho; clear ho
    rw [hz] at Hval
    obtain ⟨a, cap, rfl, _, _⟩ := hv
    go_enter Try.func40, Try.ntmps40
    go_wp2_with fail
    refine Hval.out.mono ?_; rintro e w1 ⟨rfl, rfl⟩
    go_wp2
    go_ret2
    rw [Hx.out, Ho.out]
    exact IntsOk.no (Nat.le_refl _) (by simp) ((Below.refl _ _).alloc (Nat.le_refl _) _)
  | true =>
    rw [hz] at Hval
    have Hml := Lib.hid (l5Miles1_any v l w hv hz)
    obtain ⟨a, cap, rfl, _, _⟩ := hv
    cases ha : okAm amt with
    | false =>
      have ho : makeOk l amt = false := by unfold makeOk; rw [hz, ha]; rfl
      have hx : makeX l amt = [] := by unfold makeX; rw [ho]; rfl
      have Hx := Lib.hid hx; clear hx
      have Ho := Lib.hid ho; clear ho
      have HA := Lib.hid ((okAm_in amt).symm.trans ha); clear ha hz
      go_enter Try.func40, Try.ntmps40
      go_wp2_with fail
      refine Hval.out.mono ?_; rintro e w1 ⟨rfl, rfl⟩
      go_wp2_with fail
      refine (l6In_any _ _ _ _).mono ?_; rintro e w1 ⟨rfl, rfl⟩; rw [HA.out]
      go_wp2
      go_ret2
      rw [Hx.out, Ho.out]
      exact IntsOk.no (Nat.le_refl _) (by simp) ((Below.refl _ _).alloc (Nat.le_refl _) _)
    | true =>
      have ho : makeOk l amt = true := by unfold makeOk; rw [hz, ha]; rfl
      have hx : makeX l amt = shareL (cnt6 (ownP l)) amt := by unfold makeX; rw [ho]; rfl
      have Hx := Lib.hid hx; clear hx
      have Ho := Lib.hid ho; clear ho
      have HA := Lib.hid ((okAm_in amt).symm.trans ha)
      have Ham := Lib.hid (okAm_iff.1 ha); clear ha
      have Hps := Lib.hid (cntP_pos hz)
      have Hle := Lib.hid (cnt6_le (ownP l) (ownP_len hz)); clear hz
      go_enter Try.func40, Try.ntmps40
      go_wp2_with fail
      refine Hval.out.mono ?_; rintro e w1 ⟨rfl, rfl⟩
      go_wp2_with fail
      refine (l6In_any _ _ _ _).mono ?_; rintro e w1 ⟨rfl, rfl⟩; rw [HA.out]
      go_wp2_with fail
      refine Hml.out.mono ?_; rintro e w2 ⟨ad, cp, rfl, hcp, hown, _, hb3⟩
      have Hsh := Lib.hid (share1_any _ (cnt6 (ownP l)) amt w2 (hown.ints hcp) (by rw [cnt6_len]; omega) Hle.out Ham.out Hps.out)
      have HB2 := Lib.hid hb3
      clear hown hb3 hcp
      generalize hn : (cnt6 (ownP l)).length = n at *
      go_wp2_with fail
      refine Hsh.out.mono ?_
      intro e w3 h3
      obtain ⟨ad3, cp3, rfl, hR⟩ := IntsOne.ok (ok := true) h3 HB2.out Hx.out
      have HR := Lib.hid hR; clear h3 hR
      generalize hm2 : (makeX l amt).length = m2 at *
      go_wp2
      go_ret2
      rw [Ho.out]
      exact HR.out

/-- The first k are multiplied. -/
def dueTo (ms : List Int) (amt : Int) : Nat → List Int
  | 0 => ms
  | k + 1 => (dueTo ms amt k).set k ((dueTo ms amt k).getD k 0 * amt)
theorem dueTo_len (ms : List Int) (amt : Int) : ∀ k, (dueTo ms amt k).length = ms.length
  | 0 => rfl
  | k + 1 => by unfold dueTo; rw [List.length_set, dueTo_len ms amt k]
theorem dueTo_at (ms : List Int) (amt : Int) : ∀ k i, i < ms.length → (dueTo ms amt k).getD i 0 = if i < k then ms.getD i 0 * amt else ms.getD i 0
  | 0, i, _ => by simp [dueTo]
  | k + 1, i, hi => by
    unfold dueTo
    by_cases e : k = i
    · subst e
      rw [show ((dueTo ms amt k).set k ((dueTo ms amt k).getD k 0 * amt)).getD k 0 = (dueTo ms amt k).getD k 0 * amt by simp [List.getD, dueTo_len, hi], dueTo_at ms amt k k hi, if_neg (by omega), if_pos (by omega)]
    · rw [show ((dueTo ms amt k).set k ((dueTo ms amt k).getD k 0 * amt)).getD i 0 = (dueTo ms amt k).getD i 0 by simp [List.getD, List.getElem?_set, e], dueTo_at ms amt k i hi]
      by_cases q : i < k
      · rw [if_pos q, if_pos (by omega)]
      · rw [if_neg q, if_neg (by omega)]
theorem dueTo_all (ms : List Int) (amt : Int) : dueTo ms amt ms.length = dueL ms amt := by
  apply List.ext_getElem (by rw [dueTo_len, dueL_len])
  intro i h1 h2
  have hi : i < ms.length := by rw [dueTo_len] at h1; exact h1
  have := dueTo_at ms amt ms.length i hi
  rw [if_pos hi] at this
  have h3 := dueL_at ms amt i
  simp only [List.getD_eq_getElem?_getD, List.getElem?_eq_getElem h1, List.getElem?_eq_getElem h2, Option.getD_some] at this h3
  rw [this, h3, Int.mul_comm]

def Du1Rel (ms : List Int) (amt : Int) (g : Nat) (w : World) (i : Value) (wr : World) : Prop := ∃ k : Nat, k ≤ ms.length ∧ i = .int .i64 k ∧ IntAt wr g 0 (dueTo ms amt k) ∧ Room wr g ms.length ∧ Below w.heap.size w wr

set_option maxRecDepth 100000 in
set_option maxHeartbeats 1000000 in
theorem dueS1_any (v : Value) (l : List Pt) (amt : Int) (w : World) (hv : PtIn w v l) (hm : l.length ≤ 1048576) :
    Calls Try.prog 43 #[v, .int .i64 amt] w (IntsOk (dueX l amt) (makeOk l amt) w) := by
  have Hval := Lib.hid (valid1_any v l w hv (by omega))
  cases hz : validP l with
  | false =>
    have ho : makeOk l amt = false := by unfold makeOk; rw [hz]; rfl
    have hx : dueX l amt = [] := by unfold dueX; rw [ho]; rfl
    have Hx := Lib.hid hx; clear hx
    have Ho := Lib.hid ho; clear ho
    rw [hz] at Hval
    obtain ⟨a, cap, rfl, _, _⟩ := hv
    go_enter Try.func43, Try.ntmps43
    go_wp2_with fail
    refine Hval.out.mono ?_; rintro e w1 ⟨rfl, rfl⟩
    go_wp2
    go_ret2
    rw [Hx.out, Ho.out]
    exact IntsOk.no (Nat.le_refl _) (by simp) ((Below.refl _ _).alloc (Nat.le_refl _) _)
  | true =>
    rw [hz] at Hval
    have Hml := Lib.hid (l5Miles1_any v l w hv hz)
    obtain ⟨a, cap, rfl, _, _⟩ := hv
    cases ha : okAm amt with
    | false =>
      have ho : makeOk l amt = false := by unfold makeOk; rw [hz, ha]; rfl
      have hx : dueX l amt = [] := by unfold dueX; rw [ho]; rfl
      have Hx := Lib.hid hx; clear hx
      have Ho := Lib.hid ho; clear ho
      have HA := Lib.hid ((okAm_in amt).symm.trans ha); clear ha hz
      go_enter Try.func43, Try.ntmps43
      go_wp2_with fail
      refine Hval.out.mono ?_; rintro e w1 ⟨rfl, rfl⟩
      go_wp2_with fail
      refine (l6In_any _ _ _ _).mono ?_; rintro e w1 ⟨rfl, rfl⟩; rw [HA.out]
      go_wp2
      go_ret2
      rw [Hx.out, Ho.out]
      exact IntsOk.no (Nat.le_refl _) (by simp) ((Below.refl _ _).alloc (Nat.le_refl _) _)
    | true =>
      have ho : makeOk l amt = true := by unfold makeOk; rw [hz, ha]; rfl
      have hx : dueX l amt = dueL (cnt6 (ownP l)) amt := by unfold dueX; rw [ho]; rfl
      have Hx := Lib.hid hx; clear hx
      have Ho := Lib.hid ho; clear ho
      have HA := Lib.hid ((okAm_in amt).symm.trans ha)
      obtain ⟨a0, a9⟩ := okAm_iff.1 ha; clear ha
      have Hle := Lib.hid (cnt6_le (ownP l) (ownP_len hz)); clear hz
      go_enter Try.func43, Try.ntmps43
      go_wp2_with fail
      refine Hval.out.mono ?_; rintro e w1 ⟨rfl, rfl⟩
      go_wp2_with fail
      refine (l6In_any _ _ _ _).mono ?_; rintro e w1 ⟨rfl, rfl⟩; rw [HA.out]
      go_wp2_with fail
      refine Hml.out.mono ?_; rintro e w2 ⟨ad, cp, rfl, hcp, hown, hblk, hb3⟩
      have h6 := cnt6_len (ownP l)
      obtain ⟨g, rfl, hgl, hgi, hgr⟩ := hown (by intro h; rw [h] at h6; simp at h6)
      have hgb := (hblk g ⟨0, rfl⟩).1
      have HG := Lib.hid hgi
      have HGR := Lib.hid hgr
      have HB := Lib.hid hb3
      have Hcp := Lib.hid hcp
      have H6 := Lib.hid h6
      clear hown hblk hb3 hgi hgr hcp h6
      generalize hms : cnt6 (ownP l) = ms at *
      have hms6 : ms.length ≤ 6 := by have := H6.out; omega
      go_wp2
      go_loopw [7] (fun i wr => Du1Rel ms amt g w1 i wr) (fun i _ => ms.length - (intOf i).toNat)
      case atStart => exact ⟨0, Nat.zero_le _, rfl, HG.out, HGR.out, HB.out⟩
      case round =>
        obtain ⟨k, hk, rfl, h1, h2, h3⟩ := hrel
        by_cases hlt : k < ms.length
        · have c0 := h1 k (by rw [dueTo_len]; exact hlt)
          rw [Nat.zero_add, dueTo_at ms amt k k hlt, if_neg (by omega)] at c0
          have hst : dueTo ms amt (k + 1) = (dueTo ms amt k).set k (ms.getD k 0 * amt) := by
            conv => lhs; unfold dueTo
            rw [dueTo_at ms amt k k hlt, if_neg (by omega)]
          obtain ⟨m0, m1⟩ := Hle.out k
          obtain ⟨p0, p1⟩ := mul_bd m0 m1 a0 a9
          have hfz := h2.2 k
          have hidx : k < (dueTo ms amt k).length := by rw [dueTo_len]; exact hlt
          have hset := h1.setQ (v := ms.getD k 0 * amt) hidx
          have H1 := Lib.hid hset
          have H2 := Lib.hid h2
          have H3 := Lib.hid h3
          have Hst := Lib.hid hst
          generalize ms.getD k 0 = m at *
          have hw : wrap64 (m * amt) = m * amt := by unfold wrap64; omega
          have hkt : (k : Int) < (ms.length : Int) := by omega
          clear h1 h2 h3 hst hset hidx
          go_wp2
          exact ⟨⟨k + 1, hlt, by go_num, by rw [Hst.out]; exact H1.out, H2.out.setCell _ _, H3.out.setCell (p := ⟨g, k, none⟩) hgb _⟩, by simp [intOf]; omega⟩
        · obtain rfl : k = ms.length := by omega
          rw [dueTo_all, ← Hx.out] at h1
          have hxl : (dueX l amt).length = ms.length := by rw [Hx.out, dueL_len]
          have Hxl := Lib.hid hxl
          have H1 := Lib.hid h1
          have H2 := Lib.hid h2
          have H3 := Lib.hid h3
          clear h1 h2 h3 hxl
          go_wp2
          go_ret2
          rw [Ho.out]
          have hgl5 := World.block_lt_of_cell? _ _ (H1.out 0 (by rw [Hxl.out, H6.out]; omega))
          refine ⟨some ⟨g, 0, none⟩, cp, by rw [Hxl.out]; rfl, by rw [Hxl.out]; exact Hcp.out, fun _ => ⟨g, rfl, hgl5, H1.out, by rw [Hxl.out]; exact H2.out⟩, fun j hj => ?_, H3.out⟩
          obtain ⟨o2, ho2⟩ := hj
          cases ho2
          exact ⟨hgb, hgl5⟩

/-- The owners of the miles from a to k. -/
theorem ride_up (l : List Pt) (a : Int) (k : Nat) (ha : 0 ≤ a) (hak : a ≤ k) (hk : k < (ownP l).length) : rideL l a ((k : Int) + 1) = rideL l a k ++ [ownAt l k] := by
  unfold rideL
  rw [← List.map_singleton, ← List.map_append]
  congr 1
  obtain ⟨d, hd⟩ : ∃ d, (ownP l).length = (k + 1) + d := ⟨(ownP l).length - (k + 1), by omega⟩
  rw [hd, List.range_add, List.filter_append, List.filter_append, List.range_succ, List.filter_append, List.filter_append]
  have e1 : (List.range k).filter (inS a ((k : Int) + 1)) = (List.range k).filter (inS a k) := List.filter_congr fun x hx => by
    rw [List.mem_range] at hx
    rw [Bool.eq_iff_iff, inS_iff, inS_iff]; omega
  have e2 : [k].filter (inS a ((k : Int) + 1)) = [k] := by rw [List.filter_cons, if_pos (inS_iff.2 (by omega))]; rfl
  have e3 : [k].filter (inS a k) = [] := by rw [List.filter_cons, if_neg (fun h => by have := inS_iff.1 h; omega)]; rfl
  have e4 : ∀ (b : Int), b ≤ (k : Int) + 1 → (List.map (fun x => k + 1 + x) (List.range d)).filter (inS a b) = [] := fun b hb => List.filter_eq_nil_iff.2 fun x hx h => by
    obtain ⟨y, _, rfl⟩ := List.mem_map.1 hx
    have := inS_iff.1 h
    omega
  rw [e1, e2, e3, e4 _ (by omega), e4 _ (by omega)]
  simp
theorem ride_none (l : List Pt) (a : Int) : rideL l a a = [] := by
  unfold rideL
  rw [List.filter_eq_nil_iff.2 (fun x _ h => by have := inS_iff.1 h; omega)]
  rfl

def Ri1Rel (l : List Pt) (a b : Int) (g h : Nat) (w : World) (i : Value) (wr : World) : Prop :=
  ∃ k : Nat, a ≤ k ∧ (k : Int) ≤ b ∧ i = .int .i64 k ∧ IntAt wr g 0 (cnt6 (rideL l a k)) ∧ Room wr g 6 ∧ IntAt wr h 0 (ownP l) ∧ Below w.heap.size w wr

set_option maxRecDepth 100000 in
set_option maxHeartbeats 2000000 in
theorem ride1_any (v : Value) (l : List Pt) (x y amt : Int) (w : World) (hv : PtIn w v l) (hm : l.length ≤ 1048576) (wx : W64 x) :
    Calls Try.prog 46 #[v, .int .i64 x, .int .i64 y, .int .i64 amt] w (IntsOk (riddX l x y amt) (rideOk l x y amt) w) := by
  obtain ⟨i0, hi, hz0, hz1, hz2⟩ := info_parts Try.info3
  have hmk : ∀ W, (Instr.makeSlice 25 (.int .i64 6) (.int .i64 6)).run Try.prog W = .ok (.slice (some ⟨W.heap.size, 0, none⟩) 6 6) (W.alloc (.cells (madeCells #[.int .i64 0] (6 * i0.size)) 3)) := fun W =>
    run_make_rowN (P := Try.prog) 25 3 i0 _ Try.underlying25 hi hz0 .i64 .i64 6 6 (Nat.le_refl _) (by rw [hz2]; omega) (by omega) W
  have Hstr := Lib.hid (stretch1_any v l x y w hv hm wx)
  cases hs : strOk l x y with
  | false =>
    have ho : rideOk l x y amt = false := by unfold rideOk; rw [hs]; rfl
    have hx : riddX l x y amt = [] := by unfold riddX; rw [ho]; rfl
    have Hx := Lib.hid hx; clear hx
    have Ho := Lib.hid ho; clear ho
    rw [hs] at Hstr
    obtain ⟨a, cap, rfl, _, _⟩ := hv
    go_enter Try.func46, Try.ntmps46
    go_wp2_with fail
    refine Hstr.out.mono ?_; rintro e w1 ⟨rfl, hb1⟩
    have HB := Lib.hid hb1; clear hb1
    go_wp2
    go_ret2
    rw [Hx.out, Ho.out]
    exact IntsOk.no HB.out.size (by simp) (HB.out.alloc HB.out.size _)
  | true =>
    obtain ⟨hz, x0, xy, yl⟩ := strOk_iff.1 hs
    rw [hs] at Hstr
    have How := Lib.hid (fun w' (h : Below w.heap.size w w') => owners1_any v l w' (hv.below h) hz)
    obtain ⟨a, cap, rfl, _, _⟩ := hv
    cases ha : okAm amt with
    | false =>
      have ho : rideOk l x y amt = false := by unfold rideOk; rw [hs, ha]; rfl
      have hx : riddX l x y amt = [] := by unfold riddX; rw [ho]; rfl
      have Hx := Lib.hid hx; clear hx
      have Ho := Lib.hid ho; clear ho
      have HA := Lib.hid ((okAm_in amt).symm.trans ha); clear ha hz hs
      go_enter Try.func46, Try.ntmps46
      go_wp2_with fail
      refine Hstr.out.mono ?_; rintro e w1 ⟨rfl, hb1⟩
      have HB := Lib.hid hb1; clear hb1
      go_wp2_with fail
      refine (l6In_any _ _ _ _).mono ?_; rintro e w1 ⟨rfl, rfl⟩; rw [HA.out]
      go_wp2
      go_ret2
      rw [Hx.out, Ho.out]
      exact IntsOk.no HB.out.size (by simp) (HB.out.alloc HB.out.size _)
    | true =>
      have ho : rideOk l x y amt = true := by unfold rideOk; rw [hs, ha]; rfl
      have hx : riddX l x y amt = shareL (cnt6 (rideL l x y)) amt := by unfold riddX; rw [ho]; rfl
      have Hx := Lib.hid hx; clear hx
      have Ho := Lib.hid ho; clear ho
      have HA := Lib.hid ((okAm_in amt).symm.trans ha)
      have Ham := Lib.hid (okAm_iff.1 ha); clear ha
      have Hps := Lib.hid (rideL_pos hs)
      have Hle := Lib.hid (cnt6_le (rideL l x y) (rideL_len hz))
      have Hln := Lib.hid (ownP_len hz)
      have Hpos := Lib.hid (ownP_pos hz)
      have Hyl := Lib.hid yl
      have Hz := Lib.hid hz
      obtain ⟨k0, rfl⟩ : ∃ k : Nat, x = k := ⟨x.toNat, by omega⟩
      have hy9 : y ≤ 1188 := by have := Hln.out; omega
      clear hz hs yl
      go_enter Try.func46, Try.ntmps46
      go_wp2_with fail
      refine Hstr.out.mono ?_; rintro e w1 ⟨rfl, hb1⟩
      have HB := Lib.hid hb1; clear hb1
      go_wp2_with fail
      refine (l6In_any _ _ _ _).mono ?_; rintro e w1 ⟨rfl, rfl⟩; rw [HA.out]
      go_wp2_with fail
      have hsz := HB.out.size
      have hb2 : Below w.heap.size w (w1.alloc (.cells (madeCells #[.int .i64 0] 6) 3)) := HB.out.alloc hsz _
      have hg0 := IntAt.zeros6 w1 3
      have hg1 := Room.made w1 #[.int .i64 0] 6 3 (by simp)
      have How2 := Lib.hid (How.out _ hb2)
      have hs2 : (w1.alloc (.cells (madeCells #[.int .i64 0] 6) 3)).heap.size = w1.heap.size + 1 := by simp
      have HB2 := Lib.hid hb2
      generalize w1.alloc (.cells (madeCells #[.int .i64 0] 6) 3) = w2 at *
      generalize w1.heap.size = g at *
      clear hb2
      refine How2.out.mono ?_
      rintro e w3 ⟨ad, cp, rfl, hcp, hown, hblk, hb3⟩
      obtain ⟨h, rfl, hhl, hhi, hhr⟩ := hown (by intro q; have := Hpos.out; simp [q] at this)
      have hhb := (hblk h ⟨0, rfl⟩).1
      have hsz2 := HB2.out.size
      have HB3 := Lib.hid (HB2.out.trans (hb3.mono hsz2))
      have Hgi := Lib.hid (hg0.below hb3 (by omega))
      have Hgr := Lib.hid (hg1.below hb3 (by omega))
      have Hhi := Lib.hid hhi
      clear hown hblk hb3 hhi hhr hcp hg0 hg1
      go_wp2
      go_loopw [12] (fun i wr => Ri1Rel l k0 y g h w i wr) (fun i _ => (y - intOf i).toNat)
      case atStart => exact ⟨k0, by omega, by omega, rfl, by rw [ride_none]; exact Hgi.out, Hgr.out, Hhi.out, HB3.out⟩
      case round =>
        obtain ⟨k, hka, hkb, rfl, h1, h2, h3, h4⟩ := hrel
        by_cases hlt : (k : Int) < y
        · have hkl : k < (ownP l).length := by have := Hyl.out; omega
          have hup := ride_up l k0 k (by omega) hka hkl
          have c0 := h3 k hkl
          rw [Nat.zero_add, show (ownP l).getD k 0 = ownAt l k from rfl] at c0
          obtain ⟨o0, o5⟩ := ownAt_ok Hz.out k
          have hst := cnt6_snoc (rideL l k0 k) (ownAt l k) o0 o5
          rw [← hup] at hst
          have hbd := cnt6_bd (rideL l k0 k) (ownAt l k).toNat
          have hrl := rideL_len Hz.out (a := k0) (b := k)
          have d0 := h1 (ownAt l k).toNat (by rw [cnt6_len]; omega)
          rw [Nat.zero_add] at d0
          have hidx : (ownAt l k).toNat < (cnt6 (rideL l k0 k)).length := by rw [cnt6_len]; omega
          have hset := h1.setQ (v := (cnt6 (rideL l k0 k)).getD (ownAt l k).toNat 0 + 1) hidx
          rw [← hst] at hset
          have hfz := h2.2 (ownAt l k).toNat
          generalize (cnt6 (rideL l k0 k)).getD (ownAt l k).toNat 0 = c at *
          have hc9 : 0 ≤ c ∧ c ≤ 1188 := by omega
          obtain ⟨hc0, hc1⟩ := hc9
          obtain ⟨m, hm1⟩ : ∃ m : Nat, ownAt l k = m := ⟨(ownAt l k).toNat, by omega⟩
          rw [hm1] at c0
          rw [hm1, Int.toNat_natCast] at d0 hfz hset
          have hm0 : (0 : Int) ≤ (m : Int) := Int.natCast_nonneg _
          have hm6 : (m : Int) < 6 := by omega
          have hm6n : m < 6 := by omega
          have hki : (k : Int) < ((ownP l).length : Int) := by omega
          have hk0 : (0 : Int) ≤ (k : Int) := Int.natCast_nonneg _
          have hws : IntKind.i64.wrap (c + 1) = c + 1 := IntWalk.i64_in _ (by omega)
          have hgh : h ≠ g := by omega
          have hgh2 : g ≠ h := by omega
          have H1 := Lib.hid hset
          have H2 := Lib.hid h2
          have H3 := Lib.hid h3
          have H4 := Lib.hid h4
          clear h1 h2 h3 h4 hset hup hidx hst hbd hrl hm1 o0 o5
          generalize hnn : (ownP l).length = nn at *
          go_wp2
          go_region
          all_goals
            go_wp2
            refine ⟨⟨k + 1, by omega, by omega, by go_num, by rw [Int.natCast_add]; exact H1.out, H2.out.setCell _ _, IntAt.far H3.out hgh2 _, (H4.out.setCell (p := ⟨g, m, none⟩) (by show w.heap.size ≤ g; omega) _).drew⟩, ?_⟩
            simp [intOf]; omega
        · have hky : (k : Int) = y := by omega
          subst hky
          have hown2 : OwnI wr (some ⟨g, 0, none⟩) (cnt6 (rideL l k0 k)) := fun _ => ⟨g, rfl, World.block_lt_of_cell? _ _ (h1 0 (by rw [cnt6_len]; omega)), h1, by rw [cnt6_len]; exact h2⟩
          have hints := hown2.ints (cap := 6) (by rw [cnt6_len]; omega)
          have Hsh := Lib.hid (share1_any _ (cnt6 (rideL l k0 k)) amt wr hints (by rw [cnt6_len]; omega) Hle.out Ham.out Hps.out)
          rw [cnt6_len] at Hsh
          have HB4 := Lib.hid h4
          clear h1 h2 h3 h4 hown2 hints
          go_wp2_with fail
          refine Hsh.out.mono ?_
          intro e w5 h5
          obtain ⟨ad3, cp3, rfl, hR⟩ := IntsOne.ok (ok := true) h5 HB4.out Hx.out
          have HR := Lib.hid hR; clear h5 hR
          generalize hm2 : (riddX l k0 k amt).length = m2 at *
          go_wp2
          go_ret2
          rw [Ho.out]
          exact HR.out

end Go.Proofs.Ythdkjjfnockldaa
