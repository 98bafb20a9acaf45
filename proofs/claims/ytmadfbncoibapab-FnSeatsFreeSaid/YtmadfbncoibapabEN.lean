/- The model's SeatsFree, SeatsTaken, SeatsFull. -/
import Derived.Test.YtmadfbncoibapabEV
import Derived.Test.YtmadfbncoibapabEM
import Derived.Test.YtmadfbncoibapabIO
namespace Go.Proofs.Ytmadfbncoibapab
open Go.RowKit

set_option maxRecDepth 100000 in
set_option maxHeartbeats 2000000 in
theorem seatsTaken1_any (n : Int) (v : Value) (l : List Bk) (k : Bool) (w : World) (wn : W64 n) (hv : BkIn w v l) (hl : l.length ≤ 1048576) :
    Calls Try.prog 71 #[.int .i64 n, v, .bool k] w (IntsOk (takX n l k) (validB n l) w) := by
  obtain ⟨i0, hi, hz0, hz1, hz2⟩ := info_parts Try.info3
  have HV := Lib.hid (fun w' (h : Below w.heap.size w w') => books1_any n v l w' wn (hv.below h) hl)
  have HT := Lib.hid (fun w' (h : Below w.heap.size w w') (g : Int) => taken1_any v l g k w' (hv.below h) hl)
  clear hv
  cases hz : validB n l with
  | false =>
    rw [takX_no hz]
    rw [hz] at HV
    clear hz
    go_enter Try.func71, Try.ntmps71
    go_wp2
    go_loopw [8, 9] (fun u i wr => i = .int .i64 0 ∧ RowI wr w.heap.size u [] ∧ Below w.heap.size w wr) (fun _ _ _ => 0)
    case atStart => exact ⟨rfl, RowI.made w _ (Nat.le_refl _), (Below.refl _ _).alloc (Nat.le_refl _) _⟩
    case round =>
      obtain ⟨rfl, hrow, hbel⟩ := hrel
      have HB := Lib.hid hbel
      have HR := Lib.hid hrow
      clear hbel hrow
      by_cases hn : 0 < n
      · go_wp2_with fail
        refine (HV.out _ HB.out).mono ?_; rintro e w1 ⟨rfl, m1, rfl⟩
        go_wp2_with fail
        refine (HV.out _ (HB.out.drewN m1)).mono ?_; rintro e w2 ⟨rfl, m2, rfl⟩
        go_wp2
        go_ret2
        exact IntsOk.row false (HR.out.below ((Below.refl _ _).drewN _)) (Nat.le_refl _) (HB.out.drewN _)
      · go_wp2_with fail
        refine (HV.out _ HB.out).mono ?_; rintro e w1 ⟨rfl, m1, rfl⟩
        go_wp2
        go_ret2
        exact IntsOk.row false (HR.out.below ((Below.refl _ _).drewN _)) (Nat.le_refl _) (HB.out.drewN _)
  | true =>
    have Hx := Lib.hid (takX_yes (k := k) hz)
    obtain ⟨⟨hn1, hn7⟩, hl16, _, _⟩ := validB_iff.1 hz
    rw [hz] at HV
    clear hz
    go_enter Try.func71, Try.ntmps71
    go_wp2
    go_loopw [8, 9] (fun u i wr => ∃ j : Nat, j ≤ n.toNat ∧ i = .int .i64 j ∧ RowI wr w.heap.size u (takUp l k j) ∧ Below w.heap.size w wr) (fun _ i _ => n.toNat - (intOf i).toNat)
    case atStart => exact ⟨0, Nat.zero_le _, rfl, RowI.made w _ (Nat.le_refl _), (Below.refl _ _).alloc (Nat.le_refl _) _⟩
    case round =>
      obtain ⟨j, hj, rfl, hrow, hbel⟩ := hrel
      have HB := Lib.hid hbel
      have hszr := hbel.size
      by_cases hlt : j < n.toNat
      · have hjn : (j : Int) < n := by omega
        have hup := takUp_len l k j
        have hown := hrow
        unfold RowI at hown
        rw [hup] at hown
        have hsn := Lib.hid (takUp_succ l k j)
        have htk := takenB_le l (j : Int) k
        have HTj := Lib.hid (fun w' h => HT.out w' h (j : Int))
        generalize takenB l (j : Int) k = c at *
        clear hbel hrow
        go_wp2_with fail
        refine (HV.out _ HB.out).mono ?_; rintro e w1 ⟨rfl, m1, rfl⟩
        go_wp2_with fail
        refine (HTj.out _ (HB.out.drewN m1)).mono ?_; rintro e w2 ⟨rfl, m2, rfl⟩
        go_wp2_with (at_builtin; refine wpList_append_own _ rfl _ _ 35 rfl w.heap.size 3 i0 (.int .i64 0) 1 8 Try.underlying35 hi hz0 hz1 hz2 rfl (by decide) _ _ _ rfl (hown.alloc _) ⟨wr.heap.size, 0, none⟩ 1 1 [.int .i64 c] rfl rfl (cell_one_new _ _ _) (by simp [Value.oneCell']) (by simp only [maxLen]; omega) (by omega) (by simp; omega) ?_; intro v' w8 hown8 hgrow _)
        have HB8 := Lib.hid (((HB.out.drewN (m1 + m2)).alloc (by simpa using hszr) (.cells #[.int .i64 c] 3)).grown hgrow (by simp; omega) (fun j hj => (hown.lt j hj).1))
        have Hr8 := Lib.hid (show RowI w8 w.heap.size v' (takUp l k (j + 1)) by
          rw [hsn.out]; exact RowI.snoc (by rw [hup]; exact hown8))
        clear hown8 hgrow hown
        go_wp2
        exact ⟨⟨j + 1, hlt, by go_num, Hr8.out, HB8.out⟩, by simp [intOf]; omega⟩
      · have hjn : n.toNat = j := by omega
        have hnj : ¬ (j : Int) < n := by omega
        have HR := Lib.hid hrow
        have Hjn := Lib.hid hjn
        clear hbel hrow hlt hjn
        go_wp2_with fail
        refine (HV.out _ HB.out).mono ?_; rintro e w1 ⟨rfl, m1, rfl⟩
        go_wp2
        go_ret2
        rw [Hx.out, Hjn.out]
        exact IntsOk.row true (HR.out.below ((Below.refl _ _).drewN _)) (Nat.le_refl _) (HB.out.drewN _)


def Fe1Rel (l : List Bk) (k : Bool) (a b : Nat) (w : World) (f i : Value) (wr : World) : Prop :=
  ∃ j : Nat, a + j ≤ b ∧ i = .int .i64 ((a + j : Nat) : Int) ∧ f = .int .i64 (freeUp l k a j) ∧ Drewn w wr

set_option maxRecDepth 100000 in
set_option maxHeartbeats 2000000 in
theorem seatsFree1_any (n : Int) (v : Value) (l : List Bk) (a b : Int) (k : Bool) (w : World) (wn : W64 n) (wa : W64 a) (hv : BkIn w v l) (hl : l.length ≤ 1048576) :
    Calls Try.prog 13 #[.int .i64 n, v, .int .i64 a, .int .i64 b, .bool k] w (Quiet (.int .i64 (freeV n l a b k)) w) := by
  have HV := Lib.hid (books1_any n v l w wn hv hl)
  have HT := Lib.hid (fun w' (h : Drewn w w') (g : Int) => taken1_any v l g k w' (hv.below h.below) hl)
  clear hv
  cases hz : validB n l with
  | false =>
    rw [freeV_no hz]
    rw [hz] at HV
    clear hz
    go_enter Try.func13, Try.ntmps13
    go_wp2_with fail
    refine HV.out.mono ?_; rintro e w1 ⟨rfl, m1, rfl⟩
    go_wp2
    go_ret
    exact ⟨rfl, m1, rfl⟩
  | true =>
    obtain ⟨⟨hn1, hn7⟩, hl16, _, _⟩ := validB_iff.1 hz
    have hn3 : IntKind.i64.wrap (n - 1) = n - 1 := IntWalk.i64_in _ (by omega)
    rw [hz] at HV
    have hfit := fitsB_iff (n := n) (r := ⟨a, b, k⟩)
    simp only at hfit
    by_cases q1 : 0 ≤ a ∧ a ≤ n - 1
    · have p1 : inB a 0 (n - 1) = true := (inB_iff _ _ _).2 q1
      have ha1 : IntKind.i64.wrap (a + 1) = a + 1 := IntWalk.i64_in _ (by omega)
      by_cases q2 : a + 1 ≤ b ∧ b ≤ n
      · have p2 : inB b (a + 1) n = true := (inB_iff _ _ _).2 q2
        have hfy := hfit.2 (by omega)
        have Hx := Lib.hid (freeV_yes hz hfy)
        have Hbd := Lib.hid (fun j (h : a.toNat + j ≤ n.toNat) => freeUp_bd hz k a.toNat j h)
        have hs6 := seatsB_le k
        clear hz hfit hfy
        obtain ⟨a', rfl⟩ : ∃ a' : Nat, a = a' := ⟨a.toNat, by omega⟩
        obtain ⟨b', rfl⟩ : ∃ b' : Nat, b = b' := ⟨b.toNat, by omega⟩
        have HS := Lib.hid (fun w => seats1_any k w)
        have P1 := Lib.hid p1
        have P2 := Lib.hid p2
        clear p1 p2
        go_enter Try.func13, Try.ntmps13
        go_wp2_with fail
        refine HV.out.mono ?_; rintro e w1 ⟨rfl, m1, rfl⟩
        go_wp2_with fail
        refine (l6In_any _ _ _ _).mono ?_; rintro e w2 ⟨rfl, rfl⟩
        rw [P1.out]
        go_wp2_with fail
        refine (l6In_any _ _ _ _).mono ?_; rintro e w2 ⟨rfl, rfl⟩
        rw [P2.out]
        go_wp2_with fail
        refine (HS.out _).mono ?_; rintro e w2 ⟨rfl, rfl⟩
        go_wp2
        go_loopw [11, 12] (fun f i wr => Fe1Rel l k a' b' w f i wr) (fun _ i _ => b' - (intOf i).toNat)
        case atStart => exact ⟨0, by omega, rfl, rfl, m1, rfl⟩
        case round =>
          obtain ⟨j, hj, rfl, rfl, hw⟩ := hrel
          have HW := Lib.hid hw; clear hw
          by_cases hlt : a' + j < b'
          · have hlt' : ((a' + j : Nat) : Int) < (b' : Int) := by omega
            have HK := Lib.hid (HT.out _ HW.out ((a' + j : Nat) : Int))
            have hbd := Hbd.out j (by simp; omega)
            simp only [Int.toNat_natCast] at hbd
            have hsn : freeUp l k a' (j + 1) = min (freeUp l k a' j) ((seatsB k : Nat) - (takenB l ((a' + j : Nat) : Int) k : Nat)) := rfl
            obtain ⟨x, hx⟩ : ∃ x : Nat, a' + j = x := ⟨_, rfl⟩
            rw [hx] at HK hsn hlt' ⊢
            have htk := takenB_le l (x : Int) k
            generalize takenB l (x : Int) k = c at *
            generalize freeUp l k a' j = f at *
            have HSw := Lib.hid (HS.out wr)
            generalize seatsB k = s at *
            have Hx2 := Lib.hid hx; clear hx
            have Hsn := Lib.hid hsn; clear hsn
            have hw1 : IntKind.i64.wrap ((s : Int) - (c : Int)) = (s : Int) - c := IntWalk.i64_in _ (by omega)
            go_wp2_with fail
            refine HSw.out.mono ?_; rintro e w3 ⟨rfl, rfl⟩
            go_wp2_with fail
            refine HK.out.mono ?_; rintro e w4 ⟨rfl, m4, rfl⟩
            go_wp2
            have hx := Hx2.out
            refine ⟨⟨j + 1, by omega, ?_, by rw [Hsn.out]; congr 1; split <;> omega, HW.out.drewN _⟩, by simp [intOf]; omega⟩
            congr 1; omega
          · have hjb : a' + j = b' := by omega
            have Hx3 := Lib.hid (show freeV n l a' (b' : Int) k = freeUp l k a' j by
              rw [Hx.out]; congr 1; omega)
            rw [hjb]
            have hnn : ¬ ((b' : Int) < (b' : Int)) := by omega
            generalize freeUp l k a' j = f at *
            go_wp2
            go_ret
            exact ⟨ret_int Hx3.out.symm, HW.out⟩
      · have p2 : inB b (a + 1) n = false := by rw [Bool.eq_false_iff]; intro h; exact q2 ((inB_iff _ _ _).1 h)
        have hfn : fitsB n ⟨a, b, k⟩ = false := by rw [Bool.eq_false_iff]; intro h; have := hfit.1 h; omega
        rw [freeV_nofit hfn]
        have P1 := Lib.hid p1
        have P2 := Lib.hid p2
        clear p1 p2 hz hfit hfn
        go_enter Try.func13, Try.ntmps13
        go_wp2_with fail
        refine HV.out.mono ?_; rintro e w1 ⟨rfl, m1, rfl⟩
        go_wp2_with fail
        refine (l6In_any _ _ _ _).mono ?_; rintro e w2 ⟨rfl, rfl⟩
        rw [P1.out]
        go_wp2_with fail
        refine (l6In_any _ _ _ _).mono ?_; rintro e w2 ⟨rfl, rfl⟩
        rw [P2.out]
        go_wp2
        go_ret
        exact ⟨rfl, m1, rfl⟩
    · have p1 : inB a 0 (n - 1) = false := by rw [Bool.eq_false_iff]; intro h; exact q1 ((inB_iff _ _ _).1 h)
      have hfn : fitsB n ⟨a, b, k⟩ = false := by rw [Bool.eq_false_iff]; intro h; have := hfit.1 h; omega
      rw [freeV_nofit hfn]
      have P1 := Lib.hid p1
      clear p1 hz hfit hfn
      go_enter Try.func13, Try.ntmps13
      go_wp2_with fail
      refine HV.out.mono ?_; rintro e w1 ⟨rfl, m1, rfl⟩
      go_wp2_with fail
      refine (l6In_any _ _ _ _).mono ?_; rintro e w2 ⟨rfl, rfl⟩
      rw [P1.out]
      go_wp2
      go_ret
      exact ⟨rfl, m1, rfl⟩

end Go.Proofs.Ytmadfbncoibapab
