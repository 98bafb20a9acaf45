/- The program's functions over planOf: BookingsValid, ifBookings, SeatsTaken, SeatsRide, SeatsFull, SeatsFree, SeatingMake. -/
import Derived.Test.YtmadfbncoibapabEV
import Derived.Test.YtmadfbncoibapabER
import Derived.Test.YtmadfbncoibapabIO
namespace Go.Proofs.Ytmadfbncoibapab
open Go.RowKit

theorem plan_yes (n : Int) (v : Value) (l : List Bk) (hz : validB n l = true) : ∃ p q, planB l = some (p, q) ∧ ∀ w, BkIn w v l → Calls Try.prog 53 #[.int .i64 n, v] w (PlanOut l p q w) := by
  rw [validB_plan] at hz
  simp only [Bool.and_eq_true] at hz
  cases hp : planB l with
  | none => rw [hp] at hz; cases hz.2
  | some pq =>
    obtain ⟨p, q⟩ := pq
    refine ⟨p, q, rfl, fun w hv => (plan_any n v l w hv hz.1).mono fun e w' h => ?_⟩
    unfold PlanRes at h
    rwa [hp] at h
theorem plan_no_big (n : Int) (v : Value) (l : List Bk) (w : World) (hv : BkIn w v l) (hl : l.length ≤ 2097152) (hz : validB n l = false) : Calls Try.prog 53 #[.int .i64 n, v] w (PlanNo w) := by
  cases ho : okB n l with
  | false => exact plan_bad n v l w hv hl ho
  | true =>
    rw [validB_plan, ho, Bool.true_and] at hz
    refine (plan_any n v l w hv ho).mono fun e w' h => ?_
    unfold PlanRes at h
    cases hp : planB l with
    | none => rwa [hp] at h
    | some pq => rw [hp] at hz; cases hz

theorem plan_no (n : Int) (v : Value) (l : List Bk) (w : World) (hv : BkIn w v l) (hl : l.length ≤ 1048576) (hz : validB n l = false) : Calls Try.prog 53 #[.int .i64 n, v] w (PlanNo w) := plan_no_big n v l w hv (by omega) hz

set_option maxHeartbeats 400000 in
theorem books2_big (n : Int) (v : Value) (l : List Bk) (w : World) (hv : BkIn w v l) (hl : l.length ≤ 2097152) :
    Calls Try.prog 65 #[.int .i64 n, v] w (Gives (.bool (validB n l)) w) := by
  cases hz : validB n l with
  | true =>
    obtain ⟨p, q, _, hc⟩ := plan_yes n v l hz
    have HC := Lib.hid (hc w hv)
    clear hv hz hc
    go_enter Try.func65, Try.ntmps65
    go_wp2_with fail
    refine HC.out.mono ?_; rintro e w1 ⟨b, cap, rfl, _, _, _, _, _, _, hb1⟩
    have HB := Lib.hid hb1; clear hb1
    go_wp2
    go_ret
    exact ⟨rfl, HB.out⟩
  | false =>
    have HC := Lib.hid (plan_no_big n v l w hv hl hz)
    clear hv hz
    go_enter Try.func65, Try.ntmps65
    go_wp2_with fail
    refine HC.out.mono ?_; rintro e w1 ⟨rfl, hb1⟩
    have HB := Lib.hid hb1; clear hb1
    go_wp2
    go_ret
    exact ⟨rfl, HB.out⟩

theorem books2_any (n : Int) (v : Value) (l : List Bk) (w : World) (hv : BkIn w v l) (hl : l.length ≤ 1048576) :
    Calls Try.prog 65 #[.int .i64 n, v] w (Gives (.bool (validB n l)) w) := books2_big n v l w hv (by omega)


set_option maxRecDepth 100000 in
set_option maxHeartbeats 1000000 in
theorem seatsRide2_any (n : Int) (v : Value) (l : List Bk) (w : World) (hv : BkIn w v l) (hl : l.length ≤ 1048576) :
    Calls Try.prog 22 #[.int .i64 n, v] w (IntsOk (rideX n l) (validB n l) w) := by
  obtain ⟨i0, hi, hz0, hz1, hz2⟩ := info_parts Try.info3
  cases hz : validB n l with
  | false =>
    rw [rideX_no hz]
    have HC := Lib.hid (plan_no n v l w hv hl hz)
    clear hv hz
    go_enter Try.func22, Try.ntmps22
    go_wp2_with fail
    refine HC.out.mono ?_; rintro e w1 ⟨rfl, hb1⟩
    have HB := Lib.hid hb1; clear hb1
    go_wp2
    go_ret2
    exact IntsOk.no HB.out.size (by simp) (HB.out.alloc HB.out.size _)
  | true =>
    obtain ⟨p, q, hp, hc⟩ := plan_yes n v l hz
    have Hx := Lib.hid (rideX_yes hz)
    have HC := Lib.hid (hc w hv)
    obtain ⟨⟨hn1, hn7⟩, _, hfit, _⟩ := validB_iff.1 hz
    have Hcnt := Lib.hid (fun (k : Bool) (g : Nat) (hg : g < 8) => planB_cnt (fun i hi => fit7_of hn7 (hfit i hi)) hp k hg)
    have Hwf := Lib.hid (planAt_inv (fun i hi => fit7_of hn7 (hfit i hi)) (Nat.le_refl _) (by rw [planAt_end]; exact hp)).wf
    clear hv hz hc hfit hp
    go_enter Try.func22, Try.ntmps22
    go_wp2_with fail
    refine HC.out.mono ?_; rintro e w1 ⟨b, cap, rfl, _, hwb, hbl, hP, _, _, hb1⟩
    have HB := Lib.hid hb1
    have HP := Lib.hid hP
    have hs1 := hb1.size
    clear hb1 hP
    have hwS : w.heap.size ≤ w1.heap.size := by omega
    have HBw := HB
    have HP2 := HP
    go_wp2
    generalize w1 = wS at *
    go_loopw [9, 23] (fun u i wr => ∃ j : Nat, j ≤ n.toNat ∧ i = .int .i64 j ∧ RowI wr wS.heap.size u (rideUp l j) ∧ Below wS.heap.size wS wr) (fun _ i _ => n.toNat - (intOf i).toNat)
    case atStart => exact ⟨0, Nat.zero_le _, rfl, RowI.made wS _ (Nat.le_refl _), (Below.refl _ _).alloc (Nat.le_refl _) _⟩
    case round =>
      obtain ⟨j, hj, rfl, hrow, hbel⟩ := hrel
      by_cases hlt : j < n.toNat
      · have hjn : (j : Int) < n := by omega
        have hj8 : j < 8 := by omega
        have hszr := hbel.size
        have HBl := Lib.hid hbel; clear hbel
        have hup := rideUp_len l j
        have hown := hrow
        unfold RowI at hown
        rw [hup] at hown
        have Hrow := Lib.hid hrow; clear hrow
        have HK := Lib.hid (ride_any b j p wr (HP2.out.below HBl.out (by omega)) Hwf.out hj8)
        rw [Hcnt.out true j hj8, Hcnt.out false j hj8] at HK
        have hsn := Lib.hid (rideUp_succ l j)
        generalize takenB l j true + takenB l j false = c at *
        go_wp2_with fail
        refine HK.out.mono ?_; rintro e w4 ⟨rfl, m4, rfl⟩
        go_wp2_with (at_builtin; refine wpList_append_own _ rfl _ _ 35 rfl wS.heap.size 3 i0 (.int .i64 0) 1 8 Try.underlying35 hi hz0 hz1 hz2 rfl (by decide) _ _ _ rfl (hown.alloc _) ⟨wr.heap.size, 0, none⟩ 1 1 [.int .i64 c] rfl rfl (cell_one_new _ _ _) (by simp [Value.oneCell']) (by simp only [maxLen]; omega) (by omega) (by simp; omega) ?_; intro v' w8 hown8 hgrow _)
        have HB8 := Lib.hid (((HBl.out.drewN m4).alloc (by simpa using hszr) (.cells #[.int .i64 c] 3)).grown hgrow (by simp; omega) (fun j hj => (hown.lt j hj).1))
        have Hr8 := Lib.hid (show RowI w8 wS.heap.size v' (rideUp l (j + 1)) by
          rw [hsn.out]; exact RowI.snoc (by rw [hup]; exact hown8))
        clear hown8 hgrow hown
        go_wp2
        exact ⟨⟨j + 1, hlt, by go_num, Hr8.out, HB8.out⟩, by simp [intOf]; omega⟩
      · have hjn : n.toNat = j := by omega
        have HR := Lib.hid (IntsOk.row true hrow hwS (HBw.out.trans (hbel.mono hwS)))
        have Hjn := Lib.hid hjn
        have hnj : ¬ (j : Int) < n := by omega
        clear hrow hbel hjn hlt
        go_wp2
        go_ret2
        rw [Hx.out, Hjn.out]
        exact HR.out



def FeRel (l : List Bk) (k : Bool) (a b : Nat) (wS : World) (f i : Value) (wr : World) : Prop :=
  ∃ j : Nat, a + j ≤ b ∧ i = .int .i64 ((a + j : Nat) : Int) ∧ f = .int .i64 (freeUp l k a j) ∧ Drewn wS wr

set_option maxRecDepth 100000 in
set_option maxHeartbeats 1000000 in
theorem seatsFree2_any (n : Int) (v : Value) (l : List Bk) (a b : Int) (k : Bool) (w : World) (hv : BkIn w v l) (hl : l.length ≤ 1048576) :
    Calls Try.prog 12 #[.int .i64 n, v, .int .i64 a, .int .i64 b, .bool k] w (Gives (.int .i64 (freeV n l a b k)) w) := by
  cases hz : validB n l with
  | false =>
    rw [freeV_no hz]
    have HC := Lib.hid (plan_no n v l w hv hl hz)
    clear hv hz
    go_enter Try.func12, Try.ntmps12
    go_wp2_with fail
    refine HC.out.mono ?_; rintro e w1 ⟨rfl, hb1⟩
    have HB := Lib.hid (hb1.alloc hb1.size (.cells #[.int .i64 a, .int .i64 b, .bool k] 30)); clear hb1
    go_wp2
    go_ret
    exact ⟨rfl, HB.out⟩
  | true =>
    obtain ⟨p, q, hp, hc⟩ := plan_yes n v l hz
    have HC := Lib.hid (hc w hv)
    have HF := Lib.hid (fun w => bfits_any n ⟨a, b, k⟩ w)
    cases hq : fitsB n ⟨a, b, k⟩ with
    | false =>
      rw [freeV_nofit hq]
      rw [hq] at HF
      clear hv hz hc hp hq
      go_enter Try.func12, Try.ntmps12
      go_wp2_with fail
      refine HC.out.mono ?_; rintro e w1 ⟨bP, cap, rfl, _, hwb, hbl, hP, _, _, hb1⟩
      have HB := Lib.hid (hb1.alloc hb1.size (.cells #[.int .i64 a, .int .i64 b, .bool k] 30)); clear hb1 hP
      go_wp2_with fail
      refine (HF.out _).mono ?_; rintro e w2 ⟨rfl, hb2⟩
      have HB2 := Lib.hid (HB.out.trans (hb2.mono HB.out.size)); clear hb2
      go_wp2
      go_ret
      exact ⟨rfl, HB2.out⟩
    | true =>
      have Hx := Lib.hid (freeV_yes hz hq)
      rw [hq] at HF
      obtain ⟨⟨hn1, hn7⟩, hl16, hfit, _⟩ := validB_iff.1 hz
      have Hcnt := Lib.hid (fun (k : Bool) (g : Nat) (hg : g < 8) => planB_cnt (fun i hi => fit7_of hn7 (hfit i hi)) hp k hg)
      have Hwf := Lib.hid (planAt_inv (fun i hi => fit7_of hn7 (hfit i hi)) (Nat.le_refl _) (by rw [planAt_end]; exact hp)).wf
      obtain ⟨ha0, hab, hbn⟩ := fitsB_iff.1 hq
      simp only at ha0 hab hbn
      have Hbd := Lib.hid (fun j (h : a.toNat + j ≤ n.toNat) => freeUp_bd hz k a.toNat j h)
      have HPs := Lib.hid (fun w => pass_any ⟨a, b, k⟩ w ⟨ha0, hab, by show b ≤ 7; omega⟩)
      clear hv hz hc hp hq hfit
      go_enter Try.func12, Try.ntmps12
      go_wp2_with fail
      refine HC.out.mono ?_; rintro e w1 ⟨bP, cap, rfl, _, hwb, hbl, hP, _, _, hb1⟩
      have hB0 : Below w1.heap.size w1 (w1.alloc (.cells #[.int .i64 a, .int .i64 b, .bool k] 30)) := (Below.refl _ _).alloc (Nat.le_refl _) _
      have HB := Lib.hid (hb1.alloc hb1.size (.cells #[.int .i64 a, .int .i64 b, .bool k] 30))
      have HP := Lib.hid (hP.below hB0 (by omega))
      have c0 : (w1.alloc (.cells #[.int .i64 a, .int .i64 b, .bool k] 30)).cell? ⟨w1.heap.size, 0, none⟩ = some (.int .i64 a) := news1 w1 #[.int .i64 a, .int .i64 b, .bool k] _ 0 _ rfl
      have c1 : (w1.alloc (.cells #[.int .i64 a, .int .i64 b, .bool k] 30)).cell? ⟨w1.heap.size, 1, none⟩ = some (.int .i64 b) := news1 w1 #[.int .i64 a, .int .i64 b, .bool k] _ 1 _ rfl
      have c2 : (w1.alloc (.cells #[.int .i64 a, .int .i64 b, .bool k] 30)).cell? ⟨w1.heap.size, 2, none⟩ = some (.bool k) := news1 w1 #[.int .i64 a, .int .i64 b, .bool k] _ 2 _ rfl
      have C0 := Lib.hid c0; have C1 := Lib.hid c1; have C2 := Lib.hid c2
      clear hb1 hP hB0 c0 c1 c2
      go_wp2_with fail
      refine (HF.out _).mono ?_; rintro e w2 ⟨rfl, hb2⟩
      have HB2 := Lib.hid (HB.out.trans (hb2.mono HB.out.size))
      have HP2 := Lib.hid (HP.out.below hb2 (by simp; omega))
      have d0 := keepCell hb2 C0.out
      have d1 := keepCell hb2 C1.out
      have d2 := keepCell hb2 C2.out
      have hs2 := hb2.size
      simp at hs2
      clear hb2 HB HP C0 C1 C2
      go_wp2_with fail
      refine (HPs.out _).mono ?_; rintro e w3 ⟨rfl, hb3⟩
      have HB3 := Lib.hid (HB2.out.trans (hb3.mono HB2.out.size))
      have HP3 := Lib.hid (HP2.out.below hb3 (by omega))
      clear hb3 HB2 HP2 d0 d1 d2
      go_wp2_with fail
      refine (seatsFor_any bP k _ w3).mono ?_; rintro e w4 ⟨rfl, rfl⟩
      obtain ⟨a', rfl⟩ : ∃ a' : Nat, a = a' := ⟨a.toNat, by omega⟩
      obtain ⟨b', rfl⟩ : ∃ b' : Nat, b = b' := ⟨b.toNat, by omega⟩
      have hs6 := seatsB_le k
      go_wp2
      go_loopw [16, 17] (fun f i wr => FeRel l k a' b' w3 f i wr) (fun _ i _ => b' - (intOf i).toNat)
      case atStart => exact ⟨0, by omega, rfl, rfl, Drewn.refl _⟩
      case round =>
        obtain ⟨j, hj, rfl, rfl, hw⟩ := hrel
        have HW := Lib.hid hw; clear hw
        by_cases hlt : a' + j < b'
        · have hlt' : ((a' + j : Nat) : Int) < (b' : Int) := by omega
          have HK := Lib.hid (takenOn_row bP (a' + j) k p wr (by obtain ⟨m, rfl⟩ := HW.out; exact Whole.drewN HP3.out m) Hwf.out (by omega))
          rw [Hcnt.out k (a' + j) (by omega)] at HK
          have hbd := Hbd.out j (by simp; omega)
          simp only [Int.toNat_natCast] at hbd
          have hsn : freeUp l k a' (j + 1) = min (freeUp l k a' j) ((seatsB k : Nat) - (takenB l ((a' + j : Nat) : Int) k : Nat)) := rfl
          obtain ⟨x, hx⟩ : ∃ x : Nat, a' + j = x := ⟨_, rfl⟩
          rw [hx] at HK hsn hlt' ⊢
          have htk := takenB_le l (x : Int) k
          generalize takenB l (x : Int) k = c at *
          generalize freeUp l k a' j = f at *
          generalize seatsB k = s at *
          generalize offB k = o at *
          have Hx2 := Lib.hid hx; clear hx
          have Hsn := Lib.hid hsn; clear hsn
          have hw1 : IntKind.i64.wrap ((s : Int) - (c : Int)) = (s : Int) - c := IntWalk.i64_in _ (by omega)
          go_wp2_with fail
          refine HK.out.mono ?_; rintro e w4 ⟨rfl, m4, rfl⟩
          go_wp2
          have hx := Hx2.out
          refine ⟨⟨j + 1, by omega, ?_, by rw [Hsn.out], HW.out.drewN _⟩, by simp [intOf]; omega⟩
          congr 1; omega
        · have hjb : a' + j = b' := by omega
          rw [show (b' : Int) = ((a' + j : Nat) : Int) by omega] at *
          have Hx3 := Lib.hid (show freeV n l a' ((a' + j : Nat) : Int) k = freeUp l k a' j by
            rw [Hx.out]; congr 1; omega)
          have hnn : ¬ (((a' + j : Nat) : Int) < ((a' + j : Nat) : Int)) := by omega
          generalize freeUp l k a' j = f at *
          generalize ((a' + j : Nat) : Int) = x at *
          go_wp2
          go_ret
          exact ⟨ret_int Hx3.out.symm, HB3.out.trans (HW.out.below.mono HB3.out.size)⟩

end Go.Proofs.Ytmadfbncoibapab
