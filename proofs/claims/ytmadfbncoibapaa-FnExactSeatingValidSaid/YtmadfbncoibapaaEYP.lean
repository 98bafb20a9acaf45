/- SeatingValid of the program. -/
import Derived.Test.YtmadfbncoibapaaEQ
import Derived.Test.YtmadfbncoibapaaEY
namespace Go.Proofs.Ytmadfbncoibapaa
open Go.RowKit

/-- take by what freeAt says. -/
theorem take_yes_any (b s : Nat) (r : Bk) (p : Pl) (w : World) (h : PlW w b p) (hp : PlWf p) (hr : fit7 r) (hs : s < seatsB r.m) (hf : freeAt p r s = true) :
    Calls Try.prog 61 #[.pointer (some ⟨b, 0, none⟩), psV r.m (maskB r), .int .i64 s] w fun e w' => e = .returned (.bool true) ∧ PlW w' b (takeAt p r s) ∧ Touch (fun j => j = b) w w' := by
  have hx := maskB_lt hr
  simp only [freeAt] at hf
  unfold takeAt
  cases hm : r.m with
  | true =>
    rw [hm] at hs hf
    exact takeT_yes b (maskB r) s p w h hp hx hs (by simpa using hf)
  | false =>
    rw [hm] at hs hf
    exact takeF_yes b (maskB r) s p w h hp hx hs (by simpa using hf)
theorem take_no_any (b : Nat) (s : Int) (r : Bk) (p : Pl) (w : World) (h : PlW w b p) (hp : PlWf p) (hr : fit7 r) (hno : s < 0 ∨ ((seatsB r.m : Nat) : Int) ≤ s ∨ freeAt p r s.toNat = false) :
    Calls Try.prog 61 #[.pointer (some ⟨b, 0, none⟩), psV r.m (maskB r), .int .i64 s] w (Quiet (.bool false) w) := by
  have hx := maskB_lt hr
  have hno' : s < 0 ∨ ((seatsB r.m : Nat) : Int) ≤ s ∨ ((p.row r.m).getD s.toNat 0 &&& maskB r != 0) = true := by
    rcases hno with h | h | h
    · exact .inl h
    · exact .inr (.inl h)
    · refine .inr (.inr ?_)
      simp only [freeAt, beq_eq_false_iff_ne, ne_eq] at h; simpa using h
  cases hm : r.m with
  | true =>
    rw [hm] at hno'
    exact takeT_no b (maskB r) s p w h hp hx hno'
  | false =>
    rw [hm] at hno'
    exact takeF_no b (maskB r) s p w h hp hx hno'

def SvRel (l : List Bk) (q : List Int) (bP : Nat) (w0 : World) (i : Value) (wr : World) : Prop :=
  ∃ (k : Nat) (p : Pl), k ≤ l.length ∧ i = .int .i64 k ∧ seatTo l q k = true ∧ PInv l (List.range k) p q ∧ PlW wr bP p ∧ Touch (fun j => j = bP) w0 wr

set_option maxRecDepth 100000 in
set_option maxHeartbeats 4000000 in
theorem seatingValid2_any (n : Int) (v vq : Value) (l : List Bk) (q : List Int) (w : World) (hv : BkIn w v l) (hq : IntsIn w vq q) (hl : l.length ≤ 1048576) (hlq : q.length ≤ 1048576) :
    Calls Try.prog 36 #[.int .i64 n, v, vq] w (Gives (.bool (seatingV n l q)) w) := by
  have HV := Lib.hid (books2_any n v l w hv hl)
  obtain ⟨a, cap, rfl, hcap, ha⟩ := hv
  obtain ⟨aq, capq, rfl, hcapq, haq⟩ := hq
  clear hcap hcapq
  have Ha := Lib.hid ha; clear ha
  have Haq := Lib.hid haq; clear haq
  cases hz : validB n l with
  | false =>
    have Hno := Lib.hid (seatingV_bad (q := q) (fun h => by rw [hz] at h; cases h.1))
    rw [hz] at HV; clear hz
    go_enter Try.func36, Try.ntmps36
    go_wp2_with fail
    refine HV.out.mono ?_; rintro e w1 ⟨rfl, hb1⟩
    have HB := Lib.hid hb1; clear hb1
    go_wp2
    go_ret
    exact ⟨ret_bool Hno.out.symm, HB.out⟩
  | true =>
    rw [hz] at HV
    by_cases hlen : q.length = l.length
    · obtain ⟨⟨_, hn7⟩, hl16, hfit, _⟩ := validB_iff.1 hz
      have Hf := Lib.hid (fun i (hi : i < l.length) => fit7_of hn7 (hfit i hi))
      have Hz := Lib.hid hz
      have Hqq := Lib.hid hlen
      have hle : ((q.length : Int) != (l.length : Int)) = false := by rw [hlen]; simp
      clear hz hfit
      rw [hlen] at hlq hle ⊢
      go_enter Try.func36, Try.ntmps36
      go_wp2_with fail
      refine HV.out.mono ?_; rintro e w1 ⟨rfl, hb1⟩
      have HB1 := Lib.hid hb1; clear hb1
      have e1 : PlW (w1.alloc (.cells (cellsP pl0) 74)) w1.heap.size pl0 := pl0_made w1
      have e2 : Below w.heap.size w (w1.alloc (.cells (cellsP pl0) 74)) := HB1.out.alloc HB1.out.size _
      rw [show cellsP pl0 = #[.int .u8 0, .int .u8 0, .int .u8 0, .int .u8 0, .int .u8 0, .int .u8 0, .int .u8 0, .int .u8 0, .int .u8 0, .int .u8 0] from rfl] at e1 e2
      have E1 := Lib.hid e1
      have E2 := Lib.hid e2
      have hs1 := HB1.out.size
      clear e1 e2
      go_wp2
      generalize w1.alloc (.cells #[.int .u8 0, .int .u8 0, .int .u8 0, .int .u8 0, .int .u8 0, .int .u8 0, .int .u8 0, .int .u8 0, .int .u8 0, .int .u8 0] 74) = w2 at *
      generalize hbP : w1.heap.size = bP at *
      go_loopw [25] (fun i wr => SvRel l q bP w2 i wr) (fun i _ => l.length - (intOf i).toNat)
      case atStart => exact ⟨0, pl0, Nat.zero_le _, rfl, seatTo_zero l q, PInv.start l q Hqq.out, E1.out, Touch.refl _ _⟩
      case round =>
        clear E1
        obtain ⟨k, p, hk, rfl, hst, hI, hP, ht⟩ := hrel
        have HB0 := Lib.hid (E2.out.trans (ht.below (fun j hj => by omega) E2.out.size))
        have Ht0 := Lib.hid ht
        have Hst0 := Lib.hid hst
        have HI := Lib.hid hI
        have HP := Lib.hid hP
        clear hst hI hP ht
        by_cases hlt : k < l.length
        · have hk' : (k : Int) < (l.length : Int) := by omega
          have hk0 : (0 : Int) ≤ (k : Int) := Int.natCast_nonneg _
          obtain ⟨b, o, rfl, hb0, hrw⟩ := Ha.out (by intro h; simp [h] at hlt)
          obtain ⟨bq, oq, rfl, hbq0, hrq⟩ := Haq.out (by intro h; have := Hqq.out; rw [h] at this; simp at this; omega)
          obtain ⟨c0, c1, c2⟩ := (hrw.below HB0.out hb0) k hlt
          have cq := (hrq.below HB0.out hbq0) k (by rw [Hqq.out]; exact hlt)
          clear hrw hrq
          have hfr := Hf.out k hlt
          have hnoS := Lib.hid (fun h => seatingV_no (n := n) (q := q) hlt h)
          have hokd : okSeat l q k = (inSeat l q k && pairTo l q k k) := rfl
          have hind : inSeat l q k = (decide (0 ≤ q.getD k 0) && decide (q.getD k 0 < (seatsB (l.getD k bk0).m : Nat))) := rfl
          have hfp := fun s (h1 : s < seatsB (l.getD k bk0).m) (h2 : q.getD k 0 = (s : Int)) => free_pair HI.out hfr h1 h2
          have hadd := fun s (h1 : s < seatsB (l.getD k bk0).m) (h2 : freeAt p (l.getD k bk0) s = true) (h3 : q.getD k 0 = (s : Int)) => (show PInv l (List.range (k + 1)) (takeAt p (l.getD k bk0) s) q by
            have := HI.out.add hlt (by simp) hfr h1 h2
            rwa [set_same h3 (by rw [Hqq.out]; exact hlt), range_next] at this)
          have hstn := seatTo_succ l q k
          rw [Hst0.out] at hstn
          have hqb := HB0.out.size
          have HBa := Lib.hid (show Below wr.heap.size wr (wr.alloc (.cells #[.int .i64 (l.getD k bk0).a, .int .i64 (l.getD k bk0).b, .bool (l.getD k bk0).m] 35)) from (Below.refl _ _).alloc (Nat.le_refl _) _)
          have HPa := Lib.hid (HP.out.below HBa.out HP.out.lt)
          obtain ⟨r, hr⟩ : ∃ r, l.getD k bk0 = r := ⟨_, rfl⟩
          rw [hr] at c0 c1 c2 hfr hind hfp hadd HBa HPa
          have HPs := Lib.hid (fun w => pass_any r w hfr)
          have Hfr := Lib.hid hfr
          have Hadd := Lib.hid hadd
          generalize q.getD k 0 = y at *
          by_cases hin : 0 ≤ y ∧ y < ((seatsB r.m : Nat) : Int) ∧ freeAt p r y.toNat = true
          · obtain ⟨h0, h1, h2⟩ := hin
            obtain ⟨s, rfl⟩ : ∃ s : Nat, y = s := ⟨y.toNat, by omega⟩
            rw [Int.toNat_natCast] at h2
            have hss : s < seatsB r.m := by omega
            have hok : okSeat l q k = true := by
              rw [hokd, hind, ← hfp s hss rfl, h2, decide_eq_true h0, decide_eq_true h1]; rfl
            have Hst := Lib.hid (show seatTo l q (k + 1) = true by rw [hstn, hok]; rfl)
            have HI2 := Lib.hid (Hadd.out s hss h2 rfl)
            have HT := Lib.hid (fun w' (h : Below (wr.alloc (.cells #[.int .i64 r.a, .int .i64 r.b, .bool r.m] 35)).heap.size (wr.alloc (.cells #[.int .i64 r.a, .int .i64 r.b, .bool r.m] 35)) w') => take_yes_any bP s r p w' (HPa.out.below h HPa.out.lt) HI.out.wf Hfr.out hss h2)
            clear hr hokd hind hfp hadd hstn hok h0 h1 h2 hnoS Hadd hfr
            obtain ⟨xa, xb, xm⟩ := r
            simp only at c0 c1 c2
            have HL := Lib.hid (fun w' (h : Below (wr.alloc (.cells #[.int .i64 xa, .int .i64 xb, .bool xm] 35)).heap.size (wr.alloc (.cells #[.int .i64 xa, .int .i64 xb, .bool xm] 35)) w') => (show w'.cell? ⟨wr.heap.size, 0, none⟩ = some (.int .i64 xa) ∧ w'.cell? ⟨wr.heap.size, 1, none⟩ = some (.int .i64 xb) ∧ w'.cell? ⟨wr.heap.size, 2, none⟩ = some (.bool xm) from
              ⟨keepCell h (news1 wr #[.int .i64 xa, .int .i64 xb, .bool xm] _ 0 _ rfl), keepCell h (news1 wr #[.int .i64 xa, .int .i64 xb, .bool xm] _ 1 _ rfl), keepCell h (news1 wr #[.int .i64 xa, .int .i64 xb, .bool xm] _ 2 _ rfl)⟩))
            have HQ := Lib.hid (fun w' (h : Below (wr.alloc (.cells #[.int .i64 xa, .int .i64 xb, .bool xm] 35)).heap.size (wr.alloc (.cells #[.int .i64 xa, .int .i64 xb, .bool xm] 35)) w') => keepCell h (keepCell HBa.out cq))
            have HK0 := Lib.hid (show Below (wr.alloc (.cells #[.int .i64 xa, .int .i64 xb, .bool xm] 35)).heap.size (wr.alloc (.cells #[.int .i64 xa, .int .i64 xb, .bool xm] 35)) (World.drew (wr.alloc (.cells #[.int .i64 xa, .int .i64 xb, .bool xm] 35))) from (Below.refl _ _).drew)
            obtain ⟨mk, hmk⟩ : ∃ mk, maskB ⟨xa, xb, xm⟩ = mk := ⟨_, rfl⟩
            rw [hmk] at HPs HT
            clear hmk
            go_wp2_with fail
            refine wp_region_any (by kernel_rfl) ?_
            change wpAny _ _ _ _ 9 #[false, false, false, false, false, false, false, false, false] _ (World.drew _)
            refine with_Q (fun _ _ _ _ _ h => h) (fun Q hQ hN => ?_)
            generalize World.drew (wr.alloc (.cells #[.int .i64 xa, .int .i64 xb, .bool xm] 35)) = w0 at *
            refine take_op (i := 0) (d := 30) (v := .pointer (some ⟨bP, 0, none⟩)) rfl rfl (by kernel_rfl) (by kernel_rfl) (by kernel_rfl) hQ (Or.inl ⟨by rfl, fun _ => by first | rfl | (go_simp; done) | (go_simp; rfl)⟩) ?_
            simp only [Act.put, List.setIfInBounds_toArray, List.set_cons_zero, List.set_cons_succ]
            refine take_op (i := 3) (d := 33) (v := .slice (some ⟨bq, oq, none⟩) l.length capq) rfl rfl (by kernel_rfl) (by kernel_rfl) (by kernel_rfl) hQ (Or.inl ⟨by rfl, fun _ => by first | rfl | (go_simp; done) | (go_simp; rfl)⟩) ?_
            simp only [Act.put, List.setIfInBounds_toArray, List.set_cons_zero, List.set_cons_succ]
            refine take_op (i := 4) (d := 34) (v := .int .i64 k) rfl rfl (by kernel_rfl) (by kernel_rfl) (by kernel_rfl) hQ (Or.inl ⟨by rfl, fun _ => by first | rfl | (go_simp; done) | (go_simp; rfl)⟩) ?_
            simp only [Act.put, List.setIfInBounds_toArray, List.set_cons_zero, List.set_cons_succ]
            refine take_op (i := 5) (d := 35) (v := .pointer (some ⟨bq, oq + k, none⟩)) rfl rfl (by kernel_rfl) (by kernel_rfl) (by kernel_rfl) hQ (Or.inl ⟨by rfl, fun _ => by first | rfl | (go_simp; done) | (go_simp; rfl)⟩) ?_
            simp only [Act.put, List.setIfInBounds_toArray, List.set_cons_zero, List.set_cons_succ]
            refine wpAny_ready (rs := [1, 6]) (by kernel_rfl) (by simp) ?_
            refine AllReady.cons rfl (fun K hK => ?_) (AllReady.cons rfl (fun K hK => ?_) AllReady.nil)
            · have hl1 := HL.out _ HK0.out
              obtain ⟨k0_1, k1_1, k2_1⟩ := hl1
              go_simp
              refine hK _ _ ?_
              try simp only [Act.put, List.setIfInBounds_toArray, List.set_cons_zero, List.set_cons_succ]
              clear hK K k0_1 k1_1 k2_1
              refine wpAny_ready (rs := [2, 6]) (by kernel_rfl) (by simp) ?_
              refine AllReady.cons rfl (fun K hK => ?_) (AllReady.cons rfl (fun K hK => ?_) AllReady.nil)
              · go_simp
                go_at_call 56
                refine (HPs.out _).mono ?_; rintro e wz2 ⟨rfl, hb2⟩
                have hk2 := Lib.hid (HK0.out.trans (hb2.mono HK0.out.size))
                clear hb2
                refine hK _ _ ?_
                try simp only [Act.put, List.setIfInBounds_toArray, List.set_cons_zero, List.set_cons_succ]
                clear hK K
                refine wpAny_ready (rs := [6]) (by kernel_rfl) (by simp) ?_
                refine AllReady.cons rfl (fun K hK => ?_) AllReady.nil
                have hl3 := HQ.out _ hk2.out
                obtain kq_3 := hl3
                go_simp
                refine hK _ _ ?_
                try simp only [Act.put, List.setIfInBounds_toArray, List.set_cons_zero, List.set_cons_succ]
                clear hK K 
                refine wpAny_ready (rs := [7]) (by kernel_rfl) (by simp) ?_
                refine AllReady.cons rfl (fun K hK => ?_) AllReady.nil
                go_simp
                go_at_call 61
                refine (HT.out _ hk2.out).mono ?_; rintro e wz4 ⟨rfl, hp4, ht4⟩
                have hk4 := Lib.hid (And.intro hp4 ((Touch.of_below (S := fun j => j = bP) hk2.out).trans ht4))
                clear hp4 ht4
                refine hK _ _ ?_
                try simp only [Act.put, List.setIfInBounds_toArray, List.set_cons_zero, List.set_cons_succ]
                clear hK K
                refine take_op (i := 8) (d := 38) (v := .bool false) rfl rfl (by kernel_rfl) (by kernel_rfl) (by kernel_rfl) hQ (Or.inl ⟨by rfl, fun _ => by first | rfl | (go_simp; done) | (go_simp; rfl)⟩) ?_
                simp only [Act.put, List.setIfInBounds_toArray, List.set_cons_zero, List.set_cons_succ]
                refine wpAny_done (by kernel_rfl) (hN _ _ ?_) _
                have HX := Lib.hid hk4.out
                clear HL HQ
                go_wp2
                exact ⟨⟨k + 1, takeAt p ⟨xa, xb, xm⟩ s, hlt, by go_num, Hst.out, HI2.out, HX.out.1, Ht0.out.trans ((Touch.of_below (S := fun j => j = bP) HBa.out).trans HX.out.2)⟩, by simp [intOf]; omega⟩
              · have hl5 := HQ.out _ HK0.out
                obtain kq_5 := hl5
                go_simp
                refine hK _ _ ?_
                try simp only [Act.put, List.setIfInBounds_toArray, List.set_cons_zero, List.set_cons_succ]
                clear hK K 
                refine wpAny_ready (rs := [2]) (by kernel_rfl) (by simp) ?_
                refine AllReady.cons rfl (fun K hK => ?_) AllReady.nil
                go_simp
                go_at_call 56
                refine (HPs.out _).mono ?_; rintro e wz6 ⟨rfl, hb6⟩
                have hk6 := Lib.hid (HK0.out.trans (hb6.mono HK0.out.size))
                clear hb6
                refine hK _ _ ?_
                try simp only [Act.put, List.setIfInBounds_toArray, List.set_cons_zero, List.set_cons_succ]
                clear hK K
                refine wpAny_ready (rs := [7]) (by kernel_rfl) (by simp) ?_
                refine AllReady.cons rfl (fun K hK => ?_) AllReady.nil
                go_simp
                go_at_call 61
                refine (HT.out _ hk6.out).mono ?_; rintro e wz7 ⟨rfl, hp7, ht7⟩
                have hk7 := Lib.hid (And.intro hp7 ((Touch.of_below (S := fun j => j = bP) hk6.out).trans ht7))
                clear hp7 ht7
                refine hK _ _ ?_
                try simp only [Act.put, List.setIfInBounds_toArray, List.set_cons_zero, List.set_cons_succ]
                clear hK K
                refine take_op (i := 8) (d := 38) (v := .bool false) rfl rfl (by kernel_rfl) (by kernel_rfl) (by kernel_rfl) hQ (Or.inl ⟨by rfl, fun _ => by first | rfl | (go_simp; done) | (go_simp; rfl)⟩) ?_
                simp only [Act.put, List.setIfInBounds_toArray, List.set_cons_zero, List.set_cons_succ]
                refine wpAny_done (by kernel_rfl) (hN _ _ ?_) _
                have HX := Lib.hid hk7.out
                clear HL HQ
                go_wp2
                exact ⟨⟨k + 1, takeAt p ⟨xa, xb, xm⟩ s, hlt, by go_num, Hst.out, HI2.out, HX.out.1, Ht0.out.trans ((Touch.of_below (S := fun j => j = bP) HBa.out).trans HX.out.2)⟩, by simp [intOf]; omega⟩
            · have hl8 := HQ.out _ HK0.out
              obtain kq_8 := hl8
              go_simp
              refine hK _ _ ?_
              try simp only [Act.put, List.setIfInBounds_toArray, List.set_cons_zero, List.set_cons_succ]
              clear hK K 
              refine wpAny_ready (rs := [1]) (by kernel_rfl) (by simp) ?_
              refine AllReady.cons rfl (fun K hK => ?_) AllReady.nil
              have hl9 := HL.out _ HK0.out
              obtain ⟨k0_9, k1_9, k2_9⟩ := hl9
              go_simp
              refine hK _ _ ?_
              try simp only [Act.put, List.setIfInBounds_toArray, List.set_cons_zero, List.set_cons_succ]
              clear hK K k0_9 k1_9 k2_9
              refine wpAny_ready (rs := [2]) (by kernel_rfl) (by simp) ?_
              refine AllReady.cons rfl (fun K hK => ?_) AllReady.nil
              go_simp
              go_at_call 56
              refine (HPs.out _).mono ?_; rintro e wz10 ⟨rfl, hb10⟩
              have hk10 := Lib.hid (HK0.out.trans (hb10.mono HK0.out.size))
              clear hb10
              refine hK _ _ ?_
              try simp only [Act.put, List.setIfInBounds_toArray, List.set_cons_zero, List.set_cons_succ]
              clear hK K
              refine wpAny_ready (rs := [7]) (by kernel_rfl) (by simp) ?_
              refine AllReady.cons rfl (fun K hK => ?_) AllReady.nil
              go_simp
              go_at_call 61
              refine (HT.out _ hk10.out).mono ?_; rintro e wz11 ⟨rfl, hp11, ht11⟩
              have hk11 := Lib.hid (And.intro hp11 ((Touch.of_below (S := fun j => j = bP) hk10.out).trans ht11))
              clear hp11 ht11
              refine hK _ _ ?_
              try simp only [Act.put, List.setIfInBounds_toArray, List.set_cons_zero, List.set_cons_succ]
              clear hK K
              refine take_op (i := 8) (d := 38) (v := .bool false) rfl rfl (by kernel_rfl) (by kernel_rfl) (by kernel_rfl) hQ (Or.inl ⟨by rfl, fun _ => by first | rfl | (go_simp; done) | (go_simp; rfl)⟩) ?_
              simp only [Act.put, List.setIfInBounds_toArray, List.set_cons_zero, List.set_cons_succ]
              refine wpAny_done (by kernel_rfl) (hN _ _ ?_) _
              have HX := Lib.hid hk11.out
              clear HL HQ
              go_wp2
              exact ⟨⟨k + 1, takeAt p ⟨xa, xb, xm⟩ s, hlt, by go_num, Hst.out, HI2.out, HX.out.1, Ht0.out.trans ((Touch.of_below (S := fun j => j = bP) HBa.out).trans HX.out.2)⟩, by simp [intOf]; omega⟩
          · have hok : okSeat l q k = false := by
              rw [hokd, hind]
              by_cases h0 : 0 ≤ y
              · by_cases h1 : y < ((seatsB r.m : Nat) : Int)
                · obtain ⟨s, rfl⟩ : ∃ s : Nat, y = s := ⟨y.toNat, by omega⟩
                  rw [← hfp s (by omega) rfl]
                  have : freeAt p r s = false := by
                    rw [Bool.eq_false_iff]; intro h; exact hin ⟨h0, h1, by rw [Int.toNat_natCast]; exact h⟩
                  rw [this, Bool.and_false]
                · rw [decide_eq_false h1, Bool.and_false]; rfl
              · rw [decide_eq_false h0]; rfl
            have Hno := Lib.hid (hnoS.out hok)
            have hno3 : y < 0 ∨ ((seatsB r.m : Nat) : Int) ≤ y ∨ freeAt p r y.toNat = false := by
              by_cases h0 : y < 0
              · exact .inl h0
              · by_cases h1 : ((seatsB r.m : Nat) : Int) ≤ y
                · exact .inr (.inl h1)
                · refine .inr (.inr ?_)
                  rw [Bool.eq_false_iff]; intro h; exact hin ⟨by omega, by omega, h⟩
            have HT := Lib.hid (fun w' (h : Below (wr.alloc (.cells #[.int .i64 r.a, .int .i64 r.b, .bool r.m] 35)).heap.size (wr.alloc (.cells #[.int .i64 r.a, .int .i64 r.b, .bool r.m] 35)) w') => take_no_any bP y r p w' (HPa.out.below h HPa.out.lt) HI.out.wf Hfr.out hno3)
            clear hr hokd hind hfp hadd hstn hok hno3 hnoS Hadd hfr hin
            obtain ⟨xa, xb, xm⟩ := r
            simp only at c0 c1 c2
            have HL := Lib.hid (fun w' (h : Below (wr.alloc (.cells #[.int .i64 xa, .int .i64 xb, .bool xm] 35)).heap.size (wr.alloc (.cells #[.int .i64 xa, .int .i64 xb, .bool xm] 35)) w') => (show w'.cell? ⟨wr.heap.size, 0, none⟩ = some (.int .i64 xa) ∧ w'.cell? ⟨wr.heap.size, 1, none⟩ = some (.int .i64 xb) ∧ w'.cell? ⟨wr.heap.size, 2, none⟩ = some (.bool xm) from
              ⟨keepCell h (news1 wr #[.int .i64 xa, .int .i64 xb, .bool xm] _ 0 _ rfl), keepCell h (news1 wr #[.int .i64 xa, .int .i64 xb, .bool xm] _ 1 _ rfl), keepCell h (news1 wr #[.int .i64 xa, .int .i64 xb, .bool xm] _ 2 _ rfl)⟩))
            have HQ := Lib.hid (fun w' (h : Below (wr.alloc (.cells #[.int .i64 xa, .int .i64 xb, .bool xm] 35)).heap.size (wr.alloc (.cells #[.int .i64 xa, .int .i64 xb, .bool xm] 35)) w') => keepCell h (keepCell HBa.out cq))
            have HK0 := Lib.hid (show Below (wr.alloc (.cells #[.int .i64 xa, .int .i64 xb, .bool xm] 35)).heap.size (wr.alloc (.cells #[.int .i64 xa, .int .i64 xb, .bool xm] 35)) (World.drew (wr.alloc (.cells #[.int .i64 xa, .int .i64 xb, .bool xm] 35))) from (Below.refl _ _).drew)
            obtain ⟨mk, hmk⟩ : ∃ mk, maskB ⟨xa, xb, xm⟩ = mk := ⟨_, rfl⟩
            rw [hmk] at HPs HT
            clear hmk
            go_wp2_with fail
            refine wp_region_any (by kernel_rfl) ?_
            change wpAny _ _ _ _ 9 #[false, false, false, false, false, false, false, false, false] _ (World.drew _)
            refine with_Q (fun _ _ _ _ _ h => h) (fun Q hQ hN => ?_)
            generalize World.drew (wr.alloc (.cells #[.int .i64 xa, .int .i64 xb, .bool xm] 35)) = w0 at *
            refine take_op (i := 0) (d := 30) (v := .pointer (some ⟨bP, 0, none⟩)) rfl rfl (by kernel_rfl) (by kernel_rfl) (by kernel_rfl) hQ (Or.inl ⟨by rfl, fun _ => by first | rfl | (go_simp; done) | (go_simp; rfl)⟩) ?_
            simp only [Act.put, List.setIfInBounds_toArray, List.set_cons_zero, List.set_cons_succ]
            refine take_op (i := 3) (d := 33) (v := .slice (some ⟨bq, oq, none⟩) l.length capq) rfl rfl (by kernel_rfl) (by kernel_rfl) (by kernel_rfl) hQ (Or.inl ⟨by rfl, fun _ => by first | rfl | (go_simp; done) | (go_simp; rfl)⟩) ?_
            simp only [Act.put, List.setIfInBounds_toArray, List.set_cons_zero, List.set_cons_succ]
            refine take_op (i := 4) (d := 34) (v := .int .i64 k) rfl rfl (by kernel_rfl) (by kernel_rfl) (by kernel_rfl) hQ (Or.inl ⟨by rfl, fun _ => by first | rfl | (go_simp; done) | (go_simp; rfl)⟩) ?_
            simp only [Act.put, List.setIfInBounds_toArray, List.set_cons_zero, List.set_cons_succ]
            refine take_op (i := 5) (d := 35) (v := .pointer (some ⟨bq, oq + k, none⟩)) rfl rfl (by kernel_rfl) (by kernel_rfl) (by kernel_rfl) hQ (Or.inl ⟨by rfl, fun _ => by first | rfl | (go_simp; done) | (go_simp; rfl)⟩) ?_
            simp only [Act.put, List.setIfInBounds_toArray, List.set_cons_zero, List.set_cons_succ]
            refine wpAny_ready (rs := [1, 6]) (by kernel_rfl) (by simp) ?_
            refine AllReady.cons rfl (fun K hK => ?_) (AllReady.cons rfl (fun K hK => ?_) AllReady.nil)
            · have hl1 := HL.out _ HK0.out
              obtain ⟨k0_1, k1_1, k2_1⟩ := hl1
              go_simp
              refine hK _ _ ?_
              try simp only [Act.put, List.setIfInBounds_toArray, List.set_cons_zero, List.set_cons_succ]
              clear hK K k0_1 k1_1 k2_1
              refine wpAny_ready (rs := [2, 6]) (by kernel_rfl) (by simp) ?_
              refine AllReady.cons rfl (fun K hK => ?_) (AllReady.cons rfl (fun K hK => ?_) AllReady.nil)
              · go_simp
                go_at_call 56
                refine (HPs.out _).mono ?_; rintro e wz2 ⟨rfl, hb2⟩
                have hk2 := Lib.hid (HK0.out.trans (hb2.mono HK0.out.size))
                clear hb2
                refine hK _ _ ?_
                try simp only [Act.put, List.setIfInBounds_toArray, List.set_cons_zero, List.set_cons_succ]
                clear hK K
                refine wpAny_ready (rs := [6]) (by kernel_rfl) (by simp) ?_
                refine AllReady.cons rfl (fun K hK => ?_) AllReady.nil
                have hl3 := HQ.out _ hk2.out
                obtain kq_3 := hl3
                go_simp
                refine hK _ _ ?_
                try simp only [Act.put, List.setIfInBounds_toArray, List.set_cons_zero, List.set_cons_succ]
                clear hK K 
                refine wpAny_ready (rs := [7]) (by kernel_rfl) (by simp) ?_
                refine AllReady.cons rfl (fun K hK => ?_) AllReady.nil
                go_simp
                go_at_call 61
                refine (HT.out _ hk2.out).mono ?_; rintro e wz4 ⟨rfl, m4, hm4⟩
                have hk4 := Lib.hid (show Below _ _ wz4 from hm4 ▸ hk2.out.drewN m4)
                clear hm4
                refine hK _ _ ?_
                try simp only [Act.put, List.setIfInBounds_toArray, List.set_cons_zero, List.set_cons_succ]
                clear hK K
                refine take_op (i := 8) (d := 38) (v := .bool true) rfl rfl (by kernel_rfl) (by kernel_rfl) (by kernel_rfl) hQ (Or.inl ⟨by rfl, fun _ => by first | rfl | (go_simp; done) | (go_simp; rfl)⟩) ?_
                simp only [Act.put, List.setIfInBounds_toArray, List.set_cons_zero, List.set_cons_succ]
                refine wpAny_done (by kernel_rfl) (hN _ _ ?_) _
                have HX := Lib.hid hk4.out
                clear HL HQ
                go_wp2
                go_ret
                exact ⟨ret_bool Hno.out.symm, HB0.out.trans (Below.mono (HBa.out.trans (HX.out.mono HBa.out.size)) HB0.out.size)⟩
              · have hl5 := HQ.out _ HK0.out
                obtain kq_5 := hl5
                go_simp
                refine hK _ _ ?_
                try simp only [Act.put, List.setIfInBounds_toArray, List.set_cons_zero, List.set_cons_succ]
                clear hK K 
                refine wpAny_ready (rs := [2]) (by kernel_rfl) (by simp) ?_
                refine AllReady.cons rfl (fun K hK => ?_) AllReady.nil
                go_simp
                go_at_call 56
                refine (HPs.out _).mono ?_; rintro e wz6 ⟨rfl, hb6⟩
                have hk6 := Lib.hid (HK0.out.trans (hb6.mono HK0.out.size))
                clear hb6
                refine hK _ _ ?_
                try simp only [Act.put, List.setIfInBounds_toArray, List.set_cons_zero, List.set_cons_succ]
                clear hK K
                refine wpAny_ready (rs := [7]) (by kernel_rfl) (by simp) ?_
                refine AllReady.cons rfl (fun K hK => ?_) AllReady.nil
                go_simp
                go_at_call 61
                refine (HT.out _ hk6.out).mono ?_; rintro e wz7 ⟨rfl, m7, hm7⟩
                have hk7 := Lib.hid (show Below _ _ wz7 from hm7 ▸ hk6.out.drewN m7)
                clear hm7
                refine hK _ _ ?_
                try simp only [Act.put, List.setIfInBounds_toArray, List.set_cons_zero, List.set_cons_succ]
                clear hK K
                refine take_op (i := 8) (d := 38) (v := .bool true) rfl rfl (by kernel_rfl) (by kernel_rfl) (by kernel_rfl) hQ (Or.inl ⟨by rfl, fun _ => by first | rfl | (go_simp; done) | (go_simp; rfl)⟩) ?_
                simp only [Act.put, List.setIfInBounds_toArray, List.set_cons_zero, List.set_cons_succ]
                refine wpAny_done (by kernel_rfl) (hN _ _ ?_) _
                have HX := Lib.hid hk7.out
                clear HL HQ
                go_wp2
                go_ret
                exact ⟨ret_bool Hno.out.symm, HB0.out.trans (Below.mono (HBa.out.trans (HX.out.mono HBa.out.size)) HB0.out.size)⟩
            · have hl8 := HQ.out _ HK0.out
              obtain kq_8 := hl8
              go_simp
              refine hK _ _ ?_
              try simp only [Act.put, List.setIfInBounds_toArray, List.set_cons_zero, List.set_cons_succ]
              clear hK K 
              refine wpAny_ready (rs := [1]) (by kernel_rfl) (by simp) ?_
              refine AllReady.cons rfl (fun K hK => ?_) AllReady.nil
              have hl9 := HL.out _ HK0.out
              obtain ⟨k0_9, k1_9, k2_9⟩ := hl9
              go_simp
              refine hK _ _ ?_
              try simp only [Act.put, List.setIfInBounds_toArray, List.set_cons_zero, List.set_cons_succ]
              clear hK K k0_9 k1_9 k2_9
              refine wpAny_ready (rs := [2]) (by kernel_rfl) (by simp) ?_
              refine AllReady.cons rfl (fun K hK => ?_) AllReady.nil
              go_simp
              go_at_call 56
              refine (HPs.out _).mono ?_; rintro e wz10 ⟨rfl, hb10⟩
              have hk10 := Lib.hid (HK0.out.trans (hb10.mono HK0.out.size))
              clear hb10
              refine hK _ _ ?_
              try simp only [Act.put, List.setIfInBounds_toArray, List.set_cons_zero, List.set_cons_succ]
              clear hK K
              refine wpAny_ready (rs := [7]) (by kernel_rfl) (by simp) ?_
              refine AllReady.cons rfl (fun K hK => ?_) AllReady.nil
              go_simp
              go_at_call 61
              refine (HT.out _ hk10.out).mono ?_; rintro e wz11 ⟨rfl, m11, hm11⟩
              have hk11 := Lib.hid (show Below _ _ wz11 from hm11 ▸ hk10.out.drewN m11)
              clear hm11
              refine hK _ _ ?_
              try simp only [Act.put, List.setIfInBounds_toArray, List.set_cons_zero, List.set_cons_succ]
              clear hK K
              refine take_op (i := 8) (d := 38) (v := .bool true) rfl rfl (by kernel_rfl) (by kernel_rfl) (by kernel_rfl) hQ (Or.inl ⟨by rfl, fun _ => by first | rfl | (go_simp; done) | (go_simp; rfl)⟩) ?_
              simp only [Act.put, List.setIfInBounds_toArray, List.set_cons_zero, List.set_cons_succ]
              refine wpAny_done (by kernel_rfl) (hN _ _ ?_) _
              have HX := Lib.hid hk11.out
              clear HL HQ
              go_wp2
              go_ret
              exact ⟨ret_bool Hno.out.symm, HB0.out.trans (Below.mono (HBa.out.trans (HX.out.mono HBa.out.size)) HB0.out.size)⟩
        · obtain rfl : k = l.length := by omega
          have Hyes := Lib.hid (seatingV_yes Hz.out Hqq.out Hst0.out)
          go_wp2
          go_ret
          exact ⟨ret_bool Hyes.out.symm, HB0.out⟩
    · have Hno := Lib.hid (seatingV_bad (n := n) (fun h => hlen h.2))
      have hle : ((q.length : Int) != (l.length : Int)) = true := by simp only [bne_iff_ne, ne_eq]; omega
      clear hz hlen
      go_enter Try.func36, Try.ntmps36
      go_wp2_with fail
      refine HV.out.mono ?_; rintro e w1 ⟨rfl, hb1⟩
      have HB := Lib.hid hb1; clear hb1
      go_wp2
      go_ret
      exact ⟨ret_bool Hno.out.symm, HB.out⟩

end Go.Proofs.Ytmadfbncoibapaa
