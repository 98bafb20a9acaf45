/- The model's BillLoads, BillRoom, BillPound. -/
import Derived.Test.YtmdcpigobfhckaaFX
import Derived.Test.YtmdcpigobfhckaaFM
import Derived.Test.YtmdcpigobfhckaaI
namespace Go.Proofs.Ytmdcpigobfhckaa
open Go.RowKit

theorem loadsL_snoc (l : List Fr) (n j : Nat) : loadsL l (n + 1) j = loadsL l n j ++ [load9 l n j] := by simp [loadsL, List.range_succ]

def Ld1Rel (l : List Fr) (N : Nat) (w : World) (u i : Value) (wr : World) : Prop :=
  ∃ j : Nat, j ≤ N ∧ i = .int .i64 j ∧ RowI wr w.heap.size u (loadsL l j l.length) ∧ Below w.heap.size w wr

set_option maxRecDepth 100000 in
set_option maxHeartbeats 2000000 in
theorem loads1_any (n : Int) (v : Value) (l : List Fr) (w : World) (wn : W64 n) (hv : FrIn w v l) (hl : l.length ≤ 1048576) :
    Calls Try.prog 26 #[.int .i64 n, v] w (IntsOk (loadsX n l) (validF n l) w) := by
  obtain ⟨i0, hi, hz0, hz1, hz2⟩ := info_parts Try.info3
  have HV := Lib.hid (fun w' (h : Below w.heap.size w w') => bill1_any n v l w' wn (hv.below h) (by omega))
  have HVl := Lib.hid (fun w' (h : Below w.heap.size w w') => hv.below h)
  clear hv
  cases hz : validF n l with
  | false =>
    rw [loadsX_no hz]
    rw [hz] at HV
    clear hz
    go_enter Try.func26, Try.ntmps26
    go_wp2
    go_loopw [6, 7] (fun u i wr => i = .int .i64 0 ∧ RowI wr w.heap.size u [] ∧ Below w.heap.size w wr) (fun _ _ _ => 0)
    case atStart => exact ⟨rfl, RowI.made w _ (Nat.le_refl _), (Below.refl _ _).alloc (Nat.le_refl _) _⟩
    case round =>
      obtain ⟨rfl, hrow, hbel⟩ := hrel
      have HB := Lib.hid hbel
      have HR := Lib.hid hrow
      clear hbel hrow
      by_cases hn : 0 < n
      · go_wp2_with fail
        refine (HV.out _ HB.out).mono ?_; rintro e w1 ⟨rfl, hb1⟩
        have HB1 := Lib.hid (HB.out.trans (hb1.mono HB.out.size))
        have HR1 := Lib.hid (HR.out.below hb1)
        clear hb1
        go_wp2_with fail
        refine (HV.out _ HB1.out).mono ?_; rintro e w2 ⟨rfl, hb2⟩
        have HB2 := Lib.hid (HB1.out.trans (hb2.mono HB1.out.size))
        have HR2 := Lib.hid (HR1.out.below hb2)
        clear hb2
        go_wp2
        go_ret2
        exact IntsOk.row false HR2.out (Nat.le_refl _) HB2.out
      · go_wp2_with fail
        refine (HV.out _ HB.out).mono ?_; rintro e w1 ⟨rfl, hb1⟩
        have HB1 := Lib.hid (HB.out.trans (hb1.mono HB.out.size))
        have HR1 := Lib.hid (HR.out.below hb1)
        clear hb1
        go_wp2
        go_ret2
        exact IntsOk.row false HR1.out (Nat.le_refl _) HB1.out
  | true =>
    have Hx := Lib.hid (loadsX_yes hz)
    obtain ⟨⟨hn1, hn7⟩, hl12⟩ := headF_iff.1 (valid_head hz)
    have Ho := Lib.hid (valid_ok hz)
    rw [hz] at HV
    obtain ⟨N, rfl⟩ : ∃ N : Nat, n = N := ⟨n.toNat, by omega⟩
    rw [Int.toNat_natCast] at Hx
    clear hz
    go_enter Try.func26, Try.ntmps26
    go_wp2
    go_loopw [6, 7] (fun u i wr => Ld1Rel l N w u i wr) (fun _ i _ => N - (intOf i).toNat)
    case atStart => exact ⟨0, Nat.zero_le _, rfl, RowI.made w _ (Nat.le_refl _), (Below.refl _ _).alloc (Nat.le_refl _) _⟩
    case round =>
      obtain ⟨j, hj, rfl, hrow, hbel⟩ := hrel
      have HB := Lib.hid hbel
      have HR := Lib.hid hrow
      clear hbel hrow
      by_cases hlt : j < N
      · have hjn : (j : Int) < (N : Int) := by omega
        have hup := loadsL_len l j l.length
        have hsn := Lib.hid (loadsL_snoc l j l.length)
        have hj0 : (0 : Int) ≤ (j : Int) := Int.natCast_nonneg _
        go_wp2_with fail
        refine (HV.out _ HB.out).mono ?_; rintro e w1 ⟨rfl, hb1⟩
        have HB1 := Lib.hid (HB.out.trans (hb1.mono HB.out.size))
        have HR1 := Lib.hid (HR.out.below hb1)
        have HL := Lib.hid (load1_any N v l (j : Int) w1 (HVl.out _ HB1.out) (by omega) Ho.out)
        have he : loadF l (j : Int) = load9 l j l.length := rfl
        rw [he] at HL
        generalize load9 l (j : Int) l.length = c at *
        clear hb1 he
        go_wp2_with fail
        refine HL.out.mono ?_; rintro e w2 ⟨rfl, m2, rfl⟩
        have hown := HR1.out
        unfold RowI at hown
        rw [hup] at hown
        have hsz := HB1.out.size
        go_wp2_with (at_builtin; refine wpList_append_own _ rfl _ _ 29 rfl w.heap.size 3 i0 (.int .i64 0) 1 8 Try.underlying29 hi hz0 hz1 hz2 rfl (by decide) _ _ _ rfl (hown.alloc _) ⟨w1.heap.size, 0, none⟩ 1 1 [.int .i64 c] rfl rfl (cell_one_new _ _ _) (by simp [Value.oneCell']) (by simp only [maxLen]; omega) (by omega) (by simp; omega) ?_; intro v' w8 hown8 hgrow _)
        have HB8 := Lib.hid (((HB1.out.drewN m2).alloc (by simpa using hsz) (.cells #[.int .i64 c] 3)).grown hgrow (by simp; omega) (fun j hj => (hown.lt j hj).1))
        have Hr8 := Lib.hid (show RowI w8 w.heap.size v' (loadsL l (j + 1) l.length) by
          rw [hsn.out]; exact RowI.snoc (by rw [hup]; exact hown8))
        clear hown8 hgrow hown
        go_wp2
        exact ⟨⟨j + 1, hlt, by go_num, Hr8.out, HB8.out⟩, by simp [intOf]; omega⟩
      · obtain rfl : j = N := by omega
        go_wp2_with fail
        refine (HV.out _ HB.out).mono ?_; rintro e w1 ⟨rfl, hb1⟩
        have HB1 := Lib.hid (HB.out.trans (hb1.mono HB.out.size))
        have HR1 := Lib.hid (HR.out.below hb1)
        clear hb1
        go_wp2
        go_ret2
        rw [Hx.out]
        exact IntsOk.row true HR1.out (Nat.le_refl _) HB1.out

def Rm1Rel (l : List Fr) (A k : Nat) (w : World) (xv i : Value) (wr : World) : Prop :=
  ∃ j : Nat, j ≤ k ∧ i = .int .i64 ((A + j : Nat) : Int) ∧ xv = .int .i64 (300 - mxF l l.length A j) ∧ Below w.heap.size w wr

set_option maxRecDepth 100000 in
set_option maxHeartbeats 2000000 in
theorem room1_any (n : Int) (v : Value) (l : List Fr) (a b : Int) (w : World) (wn : W64 n) (hv : FrIn w v l) (hl : l.length ≤ 1048576) :
    Calls Try.prog 32 #[.int .i64 n, v, .int .i64 a, .int .i64 b] w (Gives (.int .i64 (roomX n l a b)) w) := by
  have HV := Lib.hid (bill1_any n v l w wn hv (by omega))
  have HVl := Lib.hid (fun w' (h : Below w.heap.size w w') => hv.below h)
  clear hv
  cases hz : validF n l with
  | false =>
    have Hx := Lib.hid (show roomX n l a b = -1 by unfold roomX; rw [hz]; rfl)
    rw [hz] at HV
    go_enter Try.func32, Try.ntmps32
    go_wp2_with fail
    refine HV.out.mono ?_; rintro e w1 ⟨rfl, hb1⟩
    have HB := Lib.hid hb1
    clear hb1
    go_wp2
    go_ret
    exact ⟨ret_int Hx.out.symm, HB.out⟩
  | true =>
    obtain ⟨⟨hn1, hn7⟩, hl12⟩ := headF_iff.1 (valid_head hz)
    have Ho := Lib.hid (valid_ok hz)
    have hno : fitF n a b = false → roomX n l a b = -1 := fun h => by unfold roomX; rw [hz, h]; rfl
    have hyes : fitF n a b = true → roomX n l a b = roomF l l.length a b := fun h => by unfold roomX; rw [hz, h]; rfl
    have Hno := Lib.hid hno
    have Hyes := Lib.hid hyes
    rw [hz] at HV
    have hn3 : IntKind.i64.wrap (n - 1) = n - 1 := IntWalk.i64_in _ (by omega)
    clear hz hno hyes
    go_enter Try.func32, Try.ntmps32
    go_wp2_with fail
    refine HV.out.mono ?_; rintro e w1 ⟨rfl, hb1⟩
    have HB := Lib.hid hb1
    clear hb1
    go_wp2_with fail
    refine (l6In_any _ _ _ _).mono ?_; rintro e w' ⟨rfl, rfl⟩
    cases p2 : inB a 0 (n - 1) with
    | false =>
      have Hx := Lib.hid (Hno.out (by rw [Bool.eq_false_iff]; intro h; have := fitF_iff.1 h; have : inB a 0 (n - 1) = true := (inB_iff _ _ _).2 (by omega); rw [this] at p2; cases p2))
      go_wp2
      go_ret
      exact ⟨ret_int Hx.out.symm, HB.out⟩
    | true =>
      obtain ⟨q1a, q1b⟩ := (inB_iff _ _ _).1 p2
      have hs : IntKind.i64.wrap (a + 1) = a + 1 := IntWalk.i64_in _ (by omega)
      go_wp2_with fail
      refine (l6In_any _ _ _ _).mono ?_; rintro e w' ⟨rfl, rfl⟩
      cases p3 : inB b (a + 1) n with
      | false =>
        have Hx := Lib.hid (Hno.out (by rw [Bool.eq_false_iff]; intro h; have := fitF_iff.1 h; have : inB b (a + 1) n = true := (inB_iff _ _ _).2 (by omega); rw [this] at p3; cases p3))
        go_wp2
        go_ret
        exact ⟨ret_int Hx.out.symm, HB.out⟩
      | true =>
        obtain ⟨q2a, q2b⟩ := (inB_iff _ _ _).1 p3
        have hx := Hyes.out (fitF_iff.2 (by omega))
        obtain ⟨A, rfl⟩ : ∃ A : Nat, a = A := ⟨a.toNat, by omega⟩
        obtain ⟨k, rfl⟩ : ∃ k : Nat, b = ((A + k : Nat) : Int) := ⟨(b - A).toNat, by omega⟩
        have Hx := Lib.hid (show roomX n l (A : Int) ((A + k : Nat) : Int) = 300 - mxF l l.length A k by
          rw [hx]; unfold roomF; rw [show (((A + k : Nat) : Int) - (A : Int)).toNat = k by omega])
        clear hx
        go_wp2
        go_loopw [9, 10] (fun xv i wr => Rm1Rel l A k w xv i wr) (fun _ i _ => A + k - (intOf i).toNat)
        case atStart => exact ⟨0, Nat.zero_le _, by go_num, by simp [mxF], HB.out⟩
        case round =>
          obtain ⟨j, hj, rfl, rfl, hbr⟩ := hrel
          have HBr := Lib.hid hbr
          clear hbr
          have m0 := mxF_nn (l := l) (j := l.length) (a := (A : Int)) (k := j)
          have m1 := mxF_bd (l := l) (j := l.length) (a := (A : Int)) (k := j) Ho.out
          have hs : mxF l l.length A (j + 1) = max (mxF l l.length A j) (load9 l ((A : Int) + j) l.length) := rfl
          by_cases hlt : j < k
          · have HL := Lib.hid (load1_any n v l ((A + j : Nat) : Int) wr (HVl.out _ HBr.out) (by omega) Ho.out)
            have he : loadF l ((A + j : Nat) : Int) = load9 l ((A : Int) + j) l.length := by unfold loadF; rw [show ((A + j : Nat) : Int) = (A : Int) + j by omega]
            obtain ⟨b0, b1⟩ := load9_nn (g := (A : Int) + j) Ho.out
            rw [he] at HL
            generalize load9 l ((A : Int) + j) l.length = c at *
            generalize hm : mxF l l.length A j = mx at *
            have Hs := Lib.hid hs
            have hjn : ((A + j : Nat) : Int) < ((A + k : Nat) : Int) := by omega
            clear hs he hm
            obtain ⟨E, hE⟩ : ∃ E : Nat, A + j = E := ⟨_, rfl⟩
            obtain ⟨T, hT⟩ : ∃ T : Nat, A + k = T := ⟨_, rfl⟩
            rw [hE, hT] at hjn
            rw [hE] at HL
            rw [hT] at Hx
            have HE := Lib.hid hE
            rw [hE, hT]
            clear hE
            by_cases q : c ≤ mx
            · have hq : ¬ (300 - c < 300 - mx) := by omega
              have Hf := Lib.hid (show max mx c = mx by omega)
              go_wp2_with fail
              refine HL.out.mono ?_; rintro e w2 ⟨rfl, m2, rfl⟩
              go_wp2
              exact ⟨⟨j + 1, hlt, by rw [show ((A + (j + 1) : Nat) : Int) = (E : Int) + 1 by have := HE.out; omega], by rw [Hs.out, Hf.out], HBr.out.drewN _⟩, by simp [intOf]; omega⟩
            · have hq : 300 - c < 300 - mx := by omega
              have Hf := Lib.hid (show max mx c = c by omega)
              go_wp2_with fail
              refine HL.out.mono ?_; rintro e w2 ⟨rfl, m2, rfl⟩
              go_wp2
              exact ⟨⟨j + 1, hlt, by rw [show ((A + (j + 1) : Nat) : Int) = (E : Int) + 1 by have := HE.out; omega], by rw [Hs.out, Hf.out], HBr.out.drewN _⟩, by simp [intOf]; omega⟩
          · obtain rfl : j = k := by omega
            have hnn : ¬ (((A + j : Nat) : Int) < ((A + j : Nat) : Int)) := by omega
            go_wp2
            go_ret
            exact ⟨ret_int Hx.out.symm, HBr.out⟩

def Po1Rel (l : List Fr) (N : Nat) (w : World) (xv i : Value) (wr : World) : Prop :=
  ∃ j : Nat, j ≤ N ∧ i = .int .i64 j ∧ xv = .int .i64 (legsTo9 l l.length j) ∧ Below w.heap.size w wr

set_option maxRecDepth 100000 in
set_option maxHeartbeats 2000000 in
theorem pound1_any (n : Int) (v : Value) (l : List Fr) (w : World) (wn : W64 n) (hv : FrIn w v l) (hl : l.length ≤ 1048576) :
    Calls Try.prog 48 #[.int .i64 n, v] w (Gives (.int .i64 (poundX n l)) w) := by
  have HV := Lib.hid (bill1_any n v l w wn hv (by omega))
  have HVl := Lib.hid (fun w' (h : Below w.heap.size w w') => hv.below h)
  clear hv
  cases hz : validF n l with
  | false =>
    have Hx := Lib.hid (show poundX n l = -1 by unfold poundX; rw [hz]; rfl)
    rw [hz] at HV
    go_enter Try.func48, Try.ntmps48
    go_wp2_with fail
    refine HV.out.mono ?_; rintro e w1 ⟨rfl, hb1⟩
    have HB := Lib.hid hb1
    clear hb1
    go_wp2
    go_ret
    exact ⟨ret_int Hx.out.symm, HB.out⟩
  | true =>
    obtain ⟨⟨hn1, hn7⟩, hl12⟩ := headF_iff.1 (valid_head hz)
    have ho := valid_ok hz
    have Ho := Lib.hid ho
    have Hx := Lib.hid (show poundX n l = legsTo9 l l.length n.toNat by unfold poundX; rw [hz, if_pos rfl, pound_eq ho])
    rw [hz] at HV
    clear hz ho
    obtain ⟨N, rfl⟩ : ∃ N : Nat, n = N := ⟨n.toNat, by omega⟩
    rw [Int.toNat_natCast] at Hx
    go_enter Try.func48, Try.ntmps48
    go_wp2_with fail
    refine HV.out.mono ?_; rintro e w1 ⟨rfl, hb1⟩
    have HB := Lib.hid hb1
    clear hb1
    go_wp2
    go_loopw [5, 6] (fun xv i wr => Po1Rel l N w xv i wr) (fun _ i _ => N - (intOf i).toNat)
    case atStart => exact ⟨0, Nat.zero_le _, rfl, rfl, HB.out⟩
    case round =>
      obtain ⟨j, hj, rfl, rfl, hbr⟩ := hrel
      have HBr := Lib.hid hbr
      clear hbr
      by_cases hlt : j < N
      · have hjn : (j : Int) < (N : Int) := by omega
        have HL := Lib.hid (load1_any N v l (j : Int) wr (HVl.out _ HBr.out) (by omega) Ho.out)
        have he : loadF l (j : Int) = load9 l j l.length := rfl
        obtain ⟨b0, b1⟩ := load9_nn (g := (j : Int)) Ho.out
        obtain ⟨s0, s1⟩ := legs_bd Ho.out j
        have s2 : 99 * (l.length : Int) * (j : Int) ≤ 99 * 12 * 7 := Int.mul_le_mul (by omega) (by omega) (by omega) (by omega)
        have hs : legsTo9 l l.length (j + 1) = legsTo9 l l.length j + load9 l j l.length := rfl
        rw [he] at HL
        generalize load9 l (j : Int) l.length = c at *
        generalize legsTo9 l l.length j = y at *
        have Hs := Lib.hid hs
        have hw : IntKind.i64.wrap (y + c) = y + c := IntWalk.i64_in _ (by omega)
        clear hs he
        go_wp2_with fail
        refine HL.out.mono ?_; rintro e w2 ⟨rfl, m2, rfl⟩
        go_wp2
        exact ⟨⟨j + 1, hlt, by go_num, by rw [Hs.out], HBr.out.drewN _⟩, by simp [intOf]; omega⟩
      · obtain rfl : j = N := by omega
        go_wp2
        go_ret
        exact ⟨ret_int Hx.out.symm, HBr.out⟩

end Go.Proofs.Ytmdcpigobfhckaa
