/- SeatingValid of the model. -/
import Derived.Test.YtmadfbncoibapaaESM
namespace Go.Proofs.Ytmadfbncoibapaa
open Go.RowKit

def Sv1Rel (l : List Bk) (q : List Int) (w : World) (i : Value) (wr : World) : Prop := ∃ k : Nat, k ≤ l.length ∧ i = .int .i64 k ∧ seatTo l q k = true ∧ Below w.heap.size w wr
def Sv2Rel (l : List Bk) (q : List Int) (i : Nat) (w : World) (kv : Value) (wr : World) : Prop := ∃ k : Nat, k ≤ i ∧ kv = .int .i64 k ∧ pairTo l q i k = true ∧ Below w.heap.size w wr

set_option maxRecDepth 100000 in
set_option maxHeartbeats 4000000 in
theorem seatingValid1_any (n : Int) (v vq : Value) (l : List Bk) (q : List Int) (w : World) (wn : W64 n) (hv : BkIn w v l) (hq : IntsIn w vq q) (hl : l.length ≤ 1048576) (hlq : q.length ≤ 1048576) :
    Calls Try.prog 34 #[.int .i64 n, v, vq] w (Gives (.bool (seatingV n l q)) w) := by
  have HV := Lib.hid (books1_any n v l w wn hv hl)
  obtain ⟨a, cap, rfl, hcap, ha⟩ := hv
  obtain ⟨aq, capq, rfl, hcapq, haq⟩ := hq
  clear hcap hcapq
  have Ha := Lib.hid ha; clear ha
  have Haq := Lib.hid haq; clear haq
  cases hz : validB n l with
  | false =>
    have Hno := Lib.hid (seatingV_bad (q := q) (fun h => by rw [hz] at h; cases h.1))
    rw [hz] at HV; clear hz
    go_enter Try.func34, Try.ntmps34
    go_wp2_with fail
    refine HV.out.mono ?_; rintro e w1 ⟨rfl, m1, rfl⟩
    go_wp2
    go_ret
    exact ⟨ret_bool Hno.out.symm, (Below.refl _ _).drewN m1⟩
  | true =>
    rw [hz] at HV
    by_cases hlen : q.length = l.length
    · have hl16 := (validB_iff.1 hz).2.1
      have Hz := Lib.hid hz
      have Hqq := Lib.hid hlen
      have hle : ((q.length : Int) != (l.length : Int)) = false := by rw [hlen]; simp
      clear hz
      rw [hlen] at hlq hle ⊢
      go_enter Try.func34, Try.ntmps34
      go_wp2_with fail
      refine HV.out.mono ?_; rintro e w1 ⟨rfl, m1, rfl⟩
      go_wp2
      go_loopw [7] (fun i wr => Sv1Rel l q w i wr) (fun i _ => l.length - (intOf i).toNat)
      case atStart => exact ⟨0, Nat.zero_le _, rfl, seatTo_zero l q, (Below.refl _ _).drewN m1⟩
      case round =>
        obtain ⟨i, hi, rfl, hst, hbel⟩ := hrel
        have HB := Lib.hid hbel
        have Hst := Lib.hid hst
        clear hst
        by_cases hlt : i < l.length
        · have hi' : (i : Int) < (l.length : Int) := by omega
          have hi0 : (0 : Int) ≤ (i : Int) := Int.natCast_nonneg _
          obtain ⟨b, o, rfl, hb0, hrw⟩ := Ha.out (by intro h; simp [h] at hlt)
          obtain ⟨bq, oq, rfl, hbq0, hrq⟩ := Haq.out (by intro h; have := Hqq.out; rw [h] at this; simp at this; omega)
          have Hrw := Lib.hid hrw
          have Hrq := Lib.hid hrq
          obtain ⟨c0, c1, c2⟩ := (hrw.below hbel hb0) i hlt
          have cq := (hrq.below hbel hbq0) i (by rw [Hqq.out]; exact hlt)
          clear hrw hrq hbel
          have HnoS := Lib.hid (fun h => seatingV_no (n := n) (q := q) hlt h)
          have Hstn := Lib.hid (show seatTo l q (i + 1) = (inSeat l q i && pairTo l q i i) by rw [seatTo_succ, Hst.out]; rfl)
          have Hokd := Lib.hid (show okSeat l q i = (inSeat l q i && pairTo l q i i) from rfl)
          have hind : inSeat l q i = (decide (0 ≤ q.getD i 0) && decide (q.getD i 0 < (seatsB (l.getD i bk0).m : Nat))) := rfl
          have HS := Lib.hid (fun w => seats1_any (l.getD i bk0).m w)
          have hs6 := seatsB_le (l.getD i bk0).m
          have hws : IntKind.i64.wrap (((seatsB (l.getD i bk0).m : Nat) : Int) - 1) = ((seatsB (l.getD i bk0).m : Nat) : Int) - 1 := IntWalk.i64_in _ (by omega)
          have hws2 : wrap64 (((seatsB (l.getD i bk0).m : Nat) : Int) - 1) = ((seatsB (l.getD i bk0).m : Nat) : Int) - 1 := by unfold wrap64; omega
          obtain ⟨y, hy⟩ : ∃ y, q.getD i 0 = y := ⟨_, rfl⟩
          obtain ⟨r, hr⟩ : ∃ r, l.getD i bk0 = r := ⟨_, rfl⟩
          rw [hy] at cq hind
          rw [hr] at c0 c1 c2 hind HS hs6 hws hws2
          have Hy := Lib.hid hy
          have Hr := Lib.hid hr
          clear hy hr
          obtain ⟨ra, rb, rm⟩ := r
          simp only at c0 c1 c2 hind HS hs6 hws hws2
          generalize seatsB rm = sn at *
          have HL6 := Lib.hid (fun (x lo hi : Int) (w : World) (n : Nat) => l6In_q x lo hi (w.drewN n))
          cases hin : inSeat l q i with
          | false =>
            have p1 : inB y 0 ((sn : Int) - 1) = false := by
              rw [hin] at hind
              rw [Bool.eq_false_iff]; intro h
              have := (inB_iff _ _ _).1 h
              rw [decide_eq_true this.1, decide_eq_true (by omega : y < (sn : Int))] at hind
              cases hind
            have Hno := Lib.hid (HnoS.out (by rw [Hokd.out, hin]; rfl))
            clear hin hind
            go_wp2
            go_quiet (first | (go_at_call 53; exact Calls.hush (quiet_same (HS.out _))) | (go_at_call 49; exact Calls.hush (l6In_q _ _ _ _)))
            go_wp2
            go_ret
            exact ⟨ret_bool Hno.out.symm, HB.out.drewN _⟩
          | true =>
            have p1 : inB y 0 ((sn : Int) - 1) = true := by
              rw [hin] at hind
              simp only [Bool.true_eq, Bool.and_eq_true, decide_eq_true_eq] at hind
              exact (inB_iff _ _ _).2 ⟨hind.1, by omega⟩
            rw [hin] at Hokd Hstn
            clear hin hind
            go_wp2
            go_quiet (first | (go_at_call 53; exact Calls.hush (quiet_same (HS.out _))) | (go_at_call 49; exact Calls.hush (l6In_q _ _ _ _)))
            have HBq := Lib.hid (HB.out.drewN nq)
            clear HB c0 c1 c2 cq p1 HL6 HS hws hws2
            go_wp2
            go_loopw [8] (fun kv wr => Sv2Rel l q i w kv wr) (fun kv _ => i - (intOf kv).toNat)
            case atStart => exact ⟨0, Nat.zero_le _, rfl, pairTo_zero l q i, HBq.out⟩
            case round =>
              clear HBq
              obtain ⟨k, hk, rfl, hpt, hbel⟩ := hrel
              have HB := Lib.hid hbel
              have Hpt := Lib.hid hpt
              clear hpt
              by_cases hltk : k < i
              · have hk' : (k : Int) < (i : Int) := by omega
                have hkl : (k : Int) < (l.length : Int) := by omega
                have hk0 : (0 : Int) ≤ (k : Int) := Int.natCast_nonneg _
                obtain ⟨c0, c1, c2⟩ := (Hrw.out.below hbel hb0) i hlt
                obtain ⟨d0, d1, d2⟩ := (Hrw.out.below hbel hb0) k (by omega)
                have cq := (Hrq.out.below hbel hbq0) i (by rw [Hqq.out]; exact hlt)
                have dq := (Hrq.out.below hbel hbq0) k (by rw [Hqq.out]; omega)
                rw [Hr.out] at c0 c1 c2
                rw [Hy.out] at cq
                simp only at c0 c1 c2
                clear hbel
                have hno := fun h => pairTo_no (l := l) (q := q) (i := i) hltk h
                have hsc := pairTo_succ l q i k
                rw [Hpt.out, Hr.out, Hy.out, Bool.true_and] at hsc
                rw [Hr.out, Hy.out] at hno
                have HM := Lib.hid (fun w => meet1_any ⟨ra, rb, rm⟩ (l.getD k bk0) w)
                generalize q.getD k 0 = z at *
                obtain ⟨s, hs⟩ : ∃ s, l.getD k bk0 = s := ⟨_, rfl⟩
                rw [hs] at d0 d1 d2 hno hsc HM
                clear hs
                obtain ⟨sa, sb, sm⟩ := s
                simp only at d0 d1 d2
                cases hyz : (y == z) with
                | false =>
                  have Hsc := Lib.hid (show pairTo l q i (k + 1) = true by rw [hsc, hyz]; rfl)
                  clear hsc hno c0 c1 c2 d0 d1 d2 HM
                  go_wp2
                  go_quiet (fail)
                  go_wp2
                  exact ⟨⟨k + 1, hltk, by go_num, Hsc.out, HB.out.drewN _⟩, by simp [intOf]; omega⟩
                | true =>
                  cases hm : meetK ⟨ra, rb, rm⟩ ⟨sa, sb, sm⟩ with
                  | true =>
                    have Hno := Lib.hid (HnoS.out (by rw [Hokd.out, hno (by rw [hyz, hm]; rfl)]; rfl))
                    rw [hm] at HM
                    clear hsc hno hm
                    go_wp2
                    go_region_held3 (fun w' => w'.cell? ⟨b, o + i * 3, none⟩ = some (.int .i64 ra) ∧ w'.cell? ⟨b, o + i * 3 + 1, none⟩ = some (.int .i64 rb) ∧ w'.cell? ⟨b, o + i * 3 + 2, none⟩ = some (.bool rm) ∧ w'.cell? ⟨b, o + k * 3, none⟩ = some (.int .i64 sa) ∧ w'.cell? ⟨b, o + k * 3 + 1, none⟩ = some (.int .i64 sb) ∧ w'.cell? ⟨b, o + k * 3 + 2, none⟩ = some (.bool sm) ∧ w'.cell? ⟨bq, oq + i, none⟩ = some (.int .i64 y) ∧ w'.cell? ⟨bq, oq + k, none⟩ = some (.int .i64 z)) (first | (go_keep; done) | (go_split_ands; refine ⟨keepCell hb1 ?_, keepCell hb1 ?_, keepCell hb1 ?_, keepCell hb1 ?_, keepCell hb1 ?_, keepCell hb1 ?_, keepCell hb1 ?_, keepCell hb1 ?_⟩ <;> first | assumption | (go_simp; done)))
                      (first | (go_at_call 60; refine (HM.out _).mono ?_; rintro e w1 ⟨rfl, hb1⟩))
                    have HB1 := Lib.hid (HB.out.trans ((((Below.refl wr.heap.size wr).drew).trans (hb1.mono (Nat.le_refl _))).mono HB.out.size))
                    go_wp2
                    go_ret
                    exact ⟨ret_bool Hno.out.symm, HB1.out⟩
                  | false =>
                    have Hsc := Lib.hid (show pairTo l q i (k + 1) = true by rw [hsc, hm, Bool.and_false]; rfl)
                    rw [hm] at HM
                    clear hsc hno hm
                    go_wp2
                    go_region_held3 (fun w' => w'.cell? ⟨b, o + i * 3, none⟩ = some (.int .i64 ra) ∧ w'.cell? ⟨b, o + i * 3 + 1, none⟩ = some (.int .i64 rb) ∧ w'.cell? ⟨b, o + i * 3 + 2, none⟩ = some (.bool rm) ∧ w'.cell? ⟨b, o + k * 3, none⟩ = some (.int .i64 sa) ∧ w'.cell? ⟨b, o + k * 3 + 1, none⟩ = some (.int .i64 sb) ∧ w'.cell? ⟨b, o + k * 3 + 2, none⟩ = some (.bool sm) ∧ w'.cell? ⟨bq, oq + i, none⟩ = some (.int .i64 y) ∧ w'.cell? ⟨bq, oq + k, none⟩ = some (.int .i64 z)) (first | (go_keep; done) | (go_split_ands; refine ⟨keepCell hb1 ?_, keepCell hb1 ?_, keepCell hb1 ?_, keepCell hb1 ?_, keepCell hb1 ?_, keepCell hb1 ?_, keepCell hb1 ?_, keepCell hb1 ?_⟩ <;> first | assumption | (go_simp; done)))
                      (first | (go_at_call 60; refine (HM.out _).mono ?_; rintro e w1 ⟨rfl, hb1⟩))
                    have HB1 := Lib.hid (HB.out.trans ((((Below.refl wr.heap.size wr).drew).trans (hb1.mono (Nat.le_refl _))).mono HB.out.size))
                    go_wp2
                    exact ⟨⟨k + 1, hltk, by go_num, Hsc.out, HB1.out⟩, by simp [intOf]; omega⟩
              · obtain rfl : k = i := by omega
                have Hn := Lib.hid (show seatTo l q (k + 1) = true by rw [Hstn.out, Hpt.out]; rfl)
                clear hbel
                go_wp2
                exact ⟨⟨k + 1, hlt, by go_num, Hn.out, HB.out⟩, by simp [intOf]; omega⟩
        · obtain rfl : i = l.length := by omega
          have Hyes := Lib.hid (seatingV_yes Hz.out Hqq.out Hst.out)
          clear hbel
          go_wp2
          go_ret
          exact ⟨ret_bool Hyes.out.symm, HB.out⟩
    · have Hno := Lib.hid (seatingV_bad (n := n) (fun h => hlen h.2))
      have hle : ((q.length : Int) != (l.length : Int)) = true := by simp only [bne_iff_ne, ne_eq]; omega
      clear hz hlen
      go_enter Try.func34, Try.ntmps34
      go_wp2_with fail
      refine HV.out.mono ?_; rintro e w1 ⟨rfl, m1, rfl⟩
      go_wp2
      go_ret
      exact ⟨ret_bool Hno.out.symm, (Below.refl _ _).drewN m1⟩

end Go.Proofs.Ytmadfbncoibapaa
