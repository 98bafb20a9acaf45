/- The program's seats: take, takeLeast, takenOn, ride. -/
import Derived.Test.YtmadfbncoibapabEI
import Derived.Deep.RegionHeld3
import Derived.Deep.RegionWith
namespace Go.Proofs.Ytmadfbncoibapab
open Go.RowKit

set_option maxHeartbeats 400000 in
theorem legsT_any (x : Nat) (w : World) : Calls Try.prog 170 #[.int .u8 x] w (Quiet (.int .u8 x) w) := by
  go_enter Try.func170, Try.ntmps170
  go_wp2
  go_ret
  exact ⟨rfl, 0, rfl⟩

set_option maxRecDepth 100000 in
set_option maxHeartbeats 1000000 in
theorem takeT_yes (b x s : Nat) (p : Pl) (w : World) (h : PlW w b p) (hp : PlWf p) (hx : x < 256) (hs : s < 4) (hz : (p.row true).getD s 0 &&& x = 0) :
    Calls Try.prog 124 #[.pointer (some ⟨b, 0, none⟩), (.iface 142 (.int .u8 x)), .int .i64 s] w fun e w' => e = .returned (.bool true) ∧ PlW w' b (p.put true s ((p.row true).getD s 0 ||| x)) ∧ Touch (fun j => j = b) w w' := by
  have hm : ∀ w, (method 318 142 (.int .u8 x) "loop.example/mailcoaches/impl.legs").run Try.prog w = .ok (170, .int .u8 x) w := fun _ => by kernel_rfl
  have hna : ∀ w, (nilAhead 318 142 (.int .u8 x) "loop.example/mailcoaches/impl.legs").run Try.prog w = .ok (some false) w := fun _ => by kernel_rfl
  have HS := Lib.hid (fun w => seatsFor_any b true x w)
  have HL := Lib.hid (fun w => legsT_any x w)
  have HM := Lib.hid (fun w => quiet_same (meets_any ((p.row true).getD s 0) x w (hp.lt _ _) hx))
  have Hor := Lib.hid (or_u8 (hp.lt true s) hx)
  have c := h.cell hp true (s := s) hs
  simp only [offB, Nat.zero_add] at c
  have fz := Whole.free h (s)
  have hfin := fun w1 (h : PlW w1 b p) => h.set hp true (s := s) hs
  simp only [offB, Nat.zero_add] at hfin
  have Hfin := Lib.hid hfin; clear hfin
  rw [show ((p.row true).getD s 0 &&& x != 0) = false by rw [hz]; rfl] at HM
  have H := Lib.hid h; clear h hz hp hx
  generalize (p.row true).getD s 0 = y at *
  have hs0 : (0 : Int) ≤ (s : Int) := Int.natCast_nonneg _
  have hs1 : (s : Int) < 4 := by omega
  have hs2 : ¬ (s : Int) < 0 := by omega
  have hs3 : ¬ (4 : Int) ≤ (s : Int) := by omega
  go_enter Try.func124, Try.ntmps124
  go_wp2_with (go_at_call 55; refine (HS.out _).mono ?_; rintro e w1 ⟨rfl, rfl⟩; simp only [offB, seatsB])
  go_quiet (first | (go_at_call 140; exact Calls.hush (HM.out _)) | (go_at_call 170; exact Calls.hush (HL.out _)))
  go_wp2_with fail
  go_region_with (first | (go_at_call 170; refine (HL.out _).mono ?_; rintro e w1 ⟨rfl, m1, rfl⟩))
  all_goals
    go_wp2
    go_ret
    refine ⟨rfl, ?_, Touch.setCell (S := fun j => j = b) (Touch.of_below ((Below.refl _ _).drewN _)) rfl _⟩
    rw [Hor.out]
    exact Hfin.out _ (Whole.drewN H.out _) _

set_option maxRecDepth 100000 in
set_option maxHeartbeats 1000000 in
theorem takeT_no (b x : Nat) (s : Int) (p : Pl) (w : World) (h : PlW w b p) (hp : PlWf p) (hx : x < 256) (hno : s < 0 ∨ 4 ≤ s ∨ ((p.row true).getD s.toNat 0 &&& x != 0) = true) :
    Calls Try.prog 124 #[.pointer (some ⟨b, 0, none⟩), (.iface 142 (.int .u8 x)), .int .i64 s] w (Quiet (.bool false) w) := by
  have hm : ∀ w, (method 318 142 (.int .u8 x) "loop.example/mailcoaches/impl.legs").run Try.prog w = .ok (170, .int .u8 x) w := fun _ => by kernel_rfl
  have hna : ∀ w, (nilAhead 318 142 (.int .u8 x) "loop.example/mailcoaches/impl.legs").run Try.prog w = .ok (some false) w := fun _ => by kernel_rfl
  have HS := Lib.hid (fun w => seatsFor_any b true x w)
  have HL := Lib.hid (fun w => legsT_any x w)
  by_cases hs0 : s < 0
  · have hs1 : s < 4 := by omega
    go_enter Try.func124, Try.ntmps124
    go_wp2_with (go_at_call 55; refine (HS.out _).mono ?_; rintro e w1 ⟨rfl, rfl⟩; simp only [offB, seatsB])
    go_quiet (fail)
    go_wp2
    go_ret
    exact ⟨rfl, _, rfl⟩
  · by_cases hs1 : 4 ≤ s
    · have hs2 : (0 : Int) ≤ s := by omega
      have hd1 : decide (s < 0) = false := decide_eq_false hs0
      have hd2 : decide (4 ≤ s) = true := decide_eq_true hs1
      go_enter Try.func124, Try.ntmps124
      go_wp2_with (go_at_call 55; refine (HS.out _).mono ?_; rintro e w1 ⟨rfl, rfl⟩; simp only [offB, seatsB])
      go_quiet (fail)
      go_wp2
      go_ret
      exact ⟨rfl, _, rfl⟩
    · obtain ⟨n, rfl⟩ : ∃ n : Nat, s = n := ⟨s.toNat, by omega⟩
      have hz : ((p.row true).getD n 0 &&& x != 0) = true := by
        rcases hno with h | h | h
        · omega
        · omega
        · simpa using h
      have hs : n < 4 := by omega
      have HM := Lib.hid (fun w => quiet_same (meets_any ((p.row true).getD n 0) x w (hp.lt _ _) hx))
      have c := h.cell hp true (s := n) hs
      simp only [offB, Nat.zero_add] at c
      rw [hz] at HM
      clear h hz hp hx hno hs
      generalize (p.row true).getD n 0 = y at *
      have hs3 : (0 : Int) ≤ (n : Int) := by omega
      have hs4 : (n : Int) < 4 := by omega
      go_enter Try.func124, Try.ntmps124
      go_wp2_with (go_at_call 55; refine (HS.out _).mono ?_; rintro e w1 ⟨rfl, rfl⟩; simp only [offB, seatsB])
      go_quiet (first | (go_at_call 140; exact Calls.hush (HM.out _)) | (go_at_call 170; exact Calls.hush (HL.out _)))
      go_wp2
      go_ret
      exact ⟨rfl, _, rfl⟩

set_option maxHeartbeats 400000 in
theorem legsF_any (x : Nat) (w : World) : Calls Try.prog 171 #[.int .u8 x] w (Quiet (.int .u8 x) w) := by
  go_enter Try.func171, Try.ntmps171
  go_wp2
  go_ret
  exact ⟨rfl, 0, rfl⟩

set_option maxRecDepth 100000 in
set_option maxHeartbeats 1000000 in
theorem takeF_yes (b x s : Nat) (p : Pl) (w : World) (h : PlW w b p) (hp : PlWf p) (hx : x < 256) (hs : s < 6) (hz : (p.row false).getD s 0 &&& x = 0) :
    Calls Try.prog 124 #[.pointer (some ⟨b, 0, none⟩), (.iface 144 (.int .u8 x)), .int .i64 s] w fun e w' => e = .returned (.bool true) ∧ PlW w' b (p.put false s ((p.row false).getD s 0 ||| x)) ∧ Touch (fun j => j = b) w w' := by
  have hm : ∀ w, (method 318 144 (.int .u8 x) "loop.example/mailcoaches/impl.legs").run Try.prog w = .ok (171, .int .u8 x) w := fun _ => by kernel_rfl
  have hna : ∀ w, (nilAhead 318 144 (.int .u8 x) "loop.example/mailcoaches/impl.legs").run Try.prog w = .ok (some false) w := fun _ => by kernel_rfl
  have HS := Lib.hid (fun w => seatsFor_any b false x w)
  have HL := Lib.hid (fun w => legsF_any x w)
  have HM := Lib.hid (fun w => quiet_same (meets_any ((p.row false).getD s 0) x w (hp.lt _ _) hx))
  have Hor := Lib.hid (or_u8 (hp.lt false s) hx)
  have c := h.cell hp false (s := s) hs
  simp only [offB, Nat.zero_add] at c
  have fz := Whole.free h (4 + s)
  have hfin := fun w1 (h : PlW w1 b p) => h.set hp false (s := s) hs
  simp only [offB, Nat.zero_add] at hfin
  have Hfin := Lib.hid hfin; clear hfin
  rw [show ((p.row false).getD s 0 &&& x != 0) = false by rw [hz]; rfl] at HM
  have H := Lib.hid h; clear h hz hp hx
  generalize (p.row false).getD s 0 = y at *
  have hs0 : (0 : Int) ≤ (s : Int) := Int.natCast_nonneg _
  have hs1 : (s : Int) < 6 := by omega
  have hs2 : ¬ (s : Int) < 0 := by omega
  have hs3 : ¬ (6 : Int) ≤ (s : Int) := by omega
  go_enter Try.func124, Try.ntmps124
  go_wp2_with (go_at_call 55; refine (HS.out _).mono ?_; rintro e w1 ⟨rfl, rfl⟩; simp only [offB, seatsB])
  go_quiet (first | (go_at_call 140; exact Calls.hush (HM.out _)) | (go_at_call 171; exact Calls.hush (HL.out _)))
  go_wp2_with fail
  go_region_with (first | (go_at_call 171; refine (HL.out _).mono ?_; rintro e w1 ⟨rfl, m1, rfl⟩))
  all_goals
    go_wp2
    go_ret
    refine ⟨rfl, ?_, Touch.setCell (S := fun j => j = b) (Touch.of_below ((Below.refl _ _).drewN _)) rfl _⟩
    rw [Hor.out]
    exact Hfin.out _ (Whole.drewN H.out _) _

set_option maxRecDepth 100000 in
set_option maxHeartbeats 1000000 in
theorem takeF_no (b x : Nat) (s : Int) (p : Pl) (w : World) (h : PlW w b p) (hp : PlWf p) (hx : x < 256) (hno : s < 0 ∨ 6 ≤ s ∨ ((p.row false).getD s.toNat 0 &&& x != 0) = true) :
    Calls Try.prog 124 #[.pointer (some ⟨b, 0, none⟩), (.iface 144 (.int .u8 x)), .int .i64 s] w (Quiet (.bool false) w) := by
  have hm : ∀ w, (method 318 144 (.int .u8 x) "loop.example/mailcoaches/impl.legs").run Try.prog w = .ok (171, .int .u8 x) w := fun _ => by kernel_rfl
  have hna : ∀ w, (nilAhead 318 144 (.int .u8 x) "loop.example/mailcoaches/impl.legs").run Try.prog w = .ok (some false) w := fun _ => by kernel_rfl
  have HS := Lib.hid (fun w => seatsFor_any b false x w)
  have HL := Lib.hid (fun w => legsF_any x w)
  by_cases hs0 : s < 0
  · have hs1 : s < 6 := by omega
    go_enter Try.func124, Try.ntmps124
    go_wp2_with (go_at_call 55; refine (HS.out _).mono ?_; rintro e w1 ⟨rfl, rfl⟩; simp only [offB, seatsB])
    go_quiet (fail)
    go_wp2
    go_ret
    exact ⟨rfl, _, rfl⟩
  · by_cases hs1 : 6 ≤ s
    · have hs2 : (0 : Int) ≤ s := by omega
      have hd1 : decide (s < 0) = false := decide_eq_false hs0
      have hd2 : decide (6 ≤ s) = true := decide_eq_true hs1
      go_enter Try.func124, Try.ntmps124
      go_wp2_with (go_at_call 55; refine (HS.out _).mono ?_; rintro e w1 ⟨rfl, rfl⟩; simp only [offB, seatsB])
      go_quiet (fail)
      go_wp2
      go_ret
      exact ⟨rfl, _, rfl⟩
    · obtain ⟨n, rfl⟩ : ∃ n : Nat, s = n := ⟨s.toNat, by omega⟩
      have hz : ((p.row false).getD n 0 &&& x != 0) = true := by
        rcases hno with h | h | h
        · omega
        · omega
        · simpa using h
      have hs : n < 6 := by omega
      have HM := Lib.hid (fun w => quiet_same (meets_any ((p.row false).getD n 0) x w (hp.lt _ _) hx))
      have c := h.cell hp false (s := n) hs
      simp only [offB, Nat.zero_add] at c
      rw [hz] at HM
      clear h hz hp hx hno hs
      generalize (p.row false).getD n 0 = y at *
      have hs3 : (0 : Int) ≤ (n : Int) := by omega
      have hs4 : (n : Int) < 6 := by omega
      go_enter Try.func124, Try.ntmps124
      go_wp2_with (go_at_call 55; refine (HS.out _).mono ?_; rintro e w1 ⟨rfl, rfl⟩; simp only [offB, seatsB])
      go_quiet (first | (go_at_call 140; exact Calls.hush (HM.out _)) | (go_at_call 171; exact Calls.hush (HL.out _)))
      go_wp2
      go_ret
      exact ⟨rfl, _, rfl⟩

set_option maxRecDepth 100000 in
set_option maxHeartbeats 1000000 in
theorem leastT_some (b x s : Nat) (p : Pl) (w : World) (h : PlW w b p) (hp : PlWf p) (hx : x < 256) (hs : s < 4) (hz : (p.row true).getD s 0 &&& x = 0) (hlow : ∀ t, t < s → ((p.row true).getD t 0 &&& x == 0) = false) :
    Calls Try.prog 98 #[.pointer (some ⟨b, 0, none⟩), (.iface 142 (.int .u8 x))] w fun e w' => e = .returned (.tuple #[.int .i64 s, .bool true]) ∧ PlW w' b (p.put true s ((p.row true).getD s 0 ||| x)) ∧ Touch (fun j => j = b) w w' := by
  have HS := Lib.hid (fun w => seatsFor_any b true x w)
  have HY := Lib.hid (fun w' (h' : Drewn w w') => takeT_yes b x s p w' (by obtain ⟨m, rfl⟩ := h'; exact Whole.drewN h m) hp hx hs hz)
  have HN := Lib.hid (fun w' (h' : Drewn w w') (t : Nat) (ht : t < s) => takeT_no b x t p w' (by obtain ⟨m, rfl⟩ := h'; exact Whole.drewN h m) hp hx (.inr (.inr (by have := hlow t ht; simp only [Int.toNat_natCast]; simpa using this))))
  clear h hp hx hz hlow
  go_enter Try.func98, Try.ntmps98
  go_wp2_with (go_at_call 55; refine (HS.out _).mono ?_; rintro e w1 ⟨rfl, rfl⟩; simp only [offB, seatsB])
  go_loopw [11] (fun i wr => ∃ k : Nat, k ≤ s ∧ i = .int .i64 k ∧ Drewn w wr) (fun i _ => s + 1 - (intOf i).toNat)
  case atStart => exact ⟨0, Nat.zero_le _, rfl, Drewn.refl w⟩
  case round =>
    obtain ⟨k, hk, rfl, hw⟩ := hrel
    have HW := Lib.hid hw; clear hw
    have hk4 : (k : Int) < 4 := by omega
    by_cases hlt : k < s
    · go_wp2_with fail
      refine (HN.out _ HW.out k hlt).mono ?_; rintro e w1 ⟨rfl, m1, rfl⟩
      go_wp2
      exact ⟨⟨k + 1, hlt, by go_num, HW.out.drewN _⟩, by simp [intOf]; omega⟩
    · obtain rfl : k = s := by omega
      go_wp2_with fail
      refine (HY.out _ HW.out).mono ?_; rintro e w1 ⟨rfl, hpl, ht⟩
      have Hpl := Lib.hid hpl
      have Ht := Lib.hid ht
      clear hpl ht
      go_wp2
      go_ret2
      exact ⟨rfl, Hpl.out, (Touch.of_below HW.out.below).trans Ht.out⟩

set_option maxRecDepth 100000 in
set_option maxHeartbeats 1000000 in
theorem leastT_none (b x : Nat) (p : Pl) (w : World) (h : PlW w b p) (hp : PlWf p) (hx : x < 256) (hlow : ∀ t, t < 4 → ((p.row true).getD t 0 &&& x == 0) = false) :
    Calls Try.prog 98 #[.pointer (some ⟨b, 0, none⟩), (.iface 142 (.int .u8 x))] w (Quiet (.tuple #[.int .i64 0, .bool false]) w) := by
  have HS := Lib.hid (fun w => seatsFor_any b true x w)
  have HN := Lib.hid (fun w' (h' : Drewn w w') (t : Nat) (ht : t < 4) => takeT_no b x t p w' (by obtain ⟨m, rfl⟩ := h'; exact Whole.drewN h m) hp hx (.inr (.inr (by have := hlow t ht; simp only [Int.toNat_natCast]; simpa using this))))
  clear h hp hx hlow
  go_enter Try.func98, Try.ntmps98
  go_wp2_with (go_at_call 55; refine (HS.out _).mono ?_; rintro e w1 ⟨rfl, rfl⟩; simp only [offB, seatsB])
  go_loopw [11] (fun i wr => ∃ k : Nat, k ≤ 4 ∧ i = .int .i64 k ∧ Drewn w wr) (fun i _ => 4 + 1 - (intOf i).toNat)
  case atStart => exact ⟨0, Nat.zero_le _, rfl, Drewn.refl w⟩
  case round =>
    obtain ⟨k, hk, rfl, hw⟩ := hrel
    have HW := Lib.hid hw; clear hw
    by_cases hlt : k < 4
    · have hk4 : (k : Int) < 4 := by omega
      go_wp2_with fail
      refine (HN.out _ HW.out k hlt).mono ?_; rintro e w1 ⟨rfl, m1, rfl⟩
      go_wp2
      exact ⟨⟨k + 1, hlt, by go_num, HW.out.drewN _⟩, by simp [intOf]; omega⟩
    · obtain rfl : k = 4 := by omega
      go_wp2
      go_ret2
      exact ⟨rfl, HW.out⟩

set_option maxRecDepth 100000 in
set_option maxHeartbeats 1000000 in
theorem leastF_some (b x s : Nat) (p : Pl) (w : World) (h : PlW w b p) (hp : PlWf p) (hx : x < 256) (hs : s < 6) (hz : (p.row false).getD s 0 &&& x = 0) (hlow : ∀ t, t < s → ((p.row false).getD t 0 &&& x == 0) = false) :
    Calls Try.prog 98 #[.pointer (some ⟨b, 0, none⟩), (.iface 144 (.int .u8 x))] w fun e w' => e = .returned (.tuple #[.int .i64 s, .bool true]) ∧ PlW w' b (p.put false s ((p.row false).getD s 0 ||| x)) ∧ Touch (fun j => j = b) w w' := by
  have HS := Lib.hid (fun w => seatsFor_any b false x w)
  have HY := Lib.hid (fun w' (h' : Drewn w w') => takeF_yes b x s p w' (by obtain ⟨m, rfl⟩ := h'; exact Whole.drewN h m) hp hx hs hz)
  have HN := Lib.hid (fun w' (h' : Drewn w w') (t : Nat) (ht : t < s) => takeF_no b x t p w' (by obtain ⟨m, rfl⟩ := h'; exact Whole.drewN h m) hp hx (.inr (.inr (by have := hlow t ht; simp only [Int.toNat_natCast]; simpa using this))))
  clear h hp hx hz hlow
  go_enter Try.func98, Try.ntmps98
  go_wp2_with (go_at_call 55; refine (HS.out _).mono ?_; rintro e w1 ⟨rfl, rfl⟩; simp only [offB, seatsB])
  go_loopw [11] (fun i wr => ∃ k : Nat, k ≤ s ∧ i = .int .i64 k ∧ Drewn w wr) (fun i _ => s + 1 - (intOf i).toNat)
  case atStart => exact ⟨0, Nat.zero_le _, rfl, Drewn.refl w⟩
  case round =>
    obtain ⟨k, hk, rfl, hw⟩ := hrel
    have HW := Lib.hid hw; clear hw
    have hk4 : (k : Int) < 6 := by omega
    by_cases hlt : k < s
    · go_wp2_with fail
      refine (HN.out _ HW.out k hlt).mono ?_; rintro e w1 ⟨rfl, m1, rfl⟩
      go_wp2
      exact ⟨⟨k + 1, hlt, by go_num, HW.out.drewN _⟩, by simp [intOf]; omega⟩
    · obtain rfl : k = s := by omega
      go_wp2_with fail
      refine (HY.out _ HW.out).mono ?_; rintro e w1 ⟨rfl, hpl, ht⟩
      have Hpl := Lib.hid hpl
      have Ht := Lib.hid ht
      clear hpl ht
      go_wp2
      go_ret2
      exact ⟨rfl, Hpl.out, (Touch.of_below HW.out.below).trans Ht.out⟩

set_option maxRecDepth 100000 in
set_option maxHeartbeats 1000000 in
theorem leastF_none (b x : Nat) (p : Pl) (w : World) (h : PlW w b p) (hp : PlWf p) (hx : x < 256) (hlow : ∀ t, t < 6 → ((p.row false).getD t 0 &&& x == 0) = false) :
    Calls Try.prog 98 #[.pointer (some ⟨b, 0, none⟩), (.iface 144 (.int .u8 x))] w (Quiet (.tuple #[.int .i64 0, .bool false]) w) := by
  have HS := Lib.hid (fun w => seatsFor_any b false x w)
  have HN := Lib.hid (fun w' (h' : Drewn w w') (t : Nat) (ht : t < 6) => takeF_no b x t p w' (by obtain ⟨m, rfl⟩ := h'; exact Whole.drewN h m) hp hx (.inr (.inr (by have := hlow t ht; simp only [Int.toNat_natCast]; simpa using this))))
  clear h hp hx hlow
  go_enter Try.func98, Try.ntmps98
  go_wp2_with (go_at_call 55; refine (HS.out _).mono ?_; rintro e w1 ⟨rfl, rfl⟩; simp only [offB, seatsB])
  go_loopw [11] (fun i wr => ∃ k : Nat, k ≤ 6 ∧ i = .int .i64 k ∧ Drewn w wr) (fun i _ => 6 + 1 - (intOf i).toNat)
  case atStart => exact ⟨0, Nat.zero_le _, rfl, Drewn.refl w⟩
  case round =>
    obtain ⟨k, hk, rfl, hw⟩ := hrel
    have HW := Lib.hid hw; clear hw
    by_cases hlt : k < 6
    · have hk4 : (k : Int) < 6 := by omega
      go_wp2_with fail
      refine (HN.out _ HW.out k hlt).mono ?_; rintro e w1 ⟨rfl, m1, rfl⟩
      go_wp2
      exact ⟨⟨k + 1, hlt, by go_num, HW.out.drewN _⟩, by simp [intOf]; omega⟩
    · obtain rfl : k = 6 := by omega
      go_wp2
      go_ret2
      exact ⟨rfl, HW.out⟩


def TlRel (n x : Nat) (row : List Nat) (w : World) (i : Value) (wr : World) : Prop := ∃ k : Nat, k ≤ n ∧ i = .int .i64 k ∧ (∀ t, t < k → (row.getD t 0 &&& x == 0) = false) ∧ Drewn w wr

def HkRel (xs : List Nat) (g : Nat) (w : World) (nv i : Value) (wr : World) : Prop := ∃ k : Nat, k ≤ xs.length ∧ nv = .int .i64 ((xs.take k).countP (fun x => hasB x g) : Nat) ∧ i = .int .i64 k ∧ Drewn w wr

theorem countP_take_succ {α : Type} (f : α → Bool) (l : List α) (k : Nat) (d : α) (h : k < l.length) : (l.take (k + 1)).countP f = (l.take k).countP f + if f (l.getD k d) then 1 else 0 := by
  rw [List.take_succ_eq_append_getElem h, List.countP_append]
  simp [List.countP_cons, List.getD, h]

set_option maxRecDepth 100000 in
set_option maxHeartbeats 1000000 in
theorem takenOn_any (b o g cap : Nat) (xs : List Nat) (w : World) (hx : ∀ i, i < xs.length → w.cell? ⟨b, o + i, none⟩ = some (.int .u8 (xs.getD i 0 : Nat))) (hb : ∀ i, i < xs.length → xs.getD i 0 < 256) (hl : xs.length ≤ 10) (hc : xs.length ≤ cap) (hg : g < 8) :
    Calls Try.prog 57 #[.slice (some ⟨b, o, none⟩) xs.length cap, .int .i64 g] w (Quiet (.int .i64 (xs.countP (fun x => hasB x g) : Nat)) w) := by
  have Hx := Lib.hid hx; clear hx
  have Hb := Lib.hid hb; clear hb
  clear hc
  go_enter Try.func57, Try.ntmps57
  go_wp2
  go_loopw [5, 10] (fun nv i wr => HkRel xs g w nv i wr) (fun _ i _ => xs.length - (intOf i).toNat)
  case atStart => exact ⟨0, Nat.zero_le _, rfl, rfl, Drewn.refl w⟩
  case round =>
    obtain ⟨k, hk, rfl, rfl, hw⟩ := hrel
    have HW := Lib.hid hw; clear hw
    by_cases hlt : k < xs.length
    · have hlt' : (k : Int) < (xs.length : Int) := by omega
      have c : wr.cell? ⟨b, o + k, none⟩ = some (.int .u8 (xs.getD k 0 : Nat)) := by
        obtain ⟨m, rfl⟩ := HW.out; exact Hx.out k hlt
      have hs := countP_take_succ (fun x => hasB x g) xs k 0 hlt
      have hle : (xs.take k).countP (fun x => hasB x g) ≤ k := by
        have := List.countP_le_length (p := fun x => hasB x g) (l := xs.take k)
        simp at this; omega
      have HH := Lib.hid (fun w => has_any (xs.getD k 0) g w (Hb.out k hlt) hg)
      generalize xs.getD k 0 = y at *
      generalize (xs.take k).countP (fun x => hasB x g) = n at *
      cases hh : hasB y g with
      | true =>
        rw [hh] at HH hs
        have Hs := Lib.hid hs; clear hs hh
        go_wp2_with fail
        refine (HH.out _).mono ?_; rintro e w1 ⟨rfl, rfl⟩
        go_wp2
        exact ⟨⟨k + 1, hlt, by rw [Hs.out]; go_num, by go_num, HW.out⟩, by simp [intOf]; omega⟩
      | false =>
        rw [hh] at HH hs
        have Hs := Lib.hid hs; clear hs hh
        go_wp2_with fail
        refine (HH.out _).mono ?_; rintro e w1 ⟨rfl, rfl⟩
        go_wp2
        exact ⟨⟨k + 1, hlt, by rw [Hs.out]; go_num, by go_num, HW.out⟩, by simp [intOf]; omega⟩
    · obtain rfl : k = xs.length := by omega
      rw [List.take_length]
      go_wp2
      go_ret
      exact ⟨rfl, HW.out⟩

theorem takenOn_row (b g : Nat) (k : Bool) (p : Pl) (w : World) (h : PlW w b p) (hp : PlWf p) (hg : g < 8) :
    Calls Try.prog 57 #[.slice (some ⟨b, offB k, none⟩) (seatsB k) (seatsB k), .int .i64 g] w (Quiet (.int .i64 ((p.row k).countP (fun x => hasB x g) : Nat)) w) := by
  have hl := hp.len k
  have hle : seatsB k ≤ 10 := by cases k <;> decide
  have := takenOn_any b (offB k) g (seatsB k) (p.row k) w (fun i hi => h.cell hp k (by rw [← hl]; exact hi)) (fun i _ => hp.lt k i) (by rw [hl]; exact hle) (by rw [hl]; exact Nat.le_refl _) hg
  rwa [hl] at this

set_option maxRecDepth 100000 in
set_option maxHeartbeats 1000000 in
theorem ride_any (b g : Nat) (p : Pl) (w : World) (h : PlW w b p) (hp : PlWf p) (hg : g < 8) :
    Calls Try.prog 70 #[.pointer (some ⟨b, 0, none⟩), .int .i64 g] w (Quiet (.int .i64 ((p.row true).countP (fun x => hasB x g) + (p.row false).countP (fun x => hasB x g) : Nat)) w) := by
  have h1 : ∀ n, Calls Try.prog 57 #[.slice (some ⟨b, 0, none⟩) 4 4, .int .i64 g] (w.drewN n) (Quiet (.int .i64 (p.i.countP (fun x => hasB x g) : Nat)) (w.drewN n)) := fun n => takenOn_row b g true p (w.drewN n) (Whole.drewN h n) hp hg
  have h2 : ∀ n, Calls Try.prog 57 #[.slice (some ⟨b, 4, none⟩) 6 6, .int .i64 g] (w.drewN n) (Quiet (.int .i64 (p.o.countP (fun x => hasB x g) : Nat)) (w.drewN n)) := fun n => takenOn_row b g false p (w.drewN n) (Whole.drewN h n) hp hg
  have l1 := List.countP_le_length (p := fun x => hasB x g) (l := p.row true)
  have l2 := List.countP_le_length (p := fun x => hasB x g) (l := p.row false)
  have e1 := hp.i
  have e2 := hp.o
  simp only [Pl.row] at l1 l2 ⊢
  rw [e1] at l1
  rw [e2] at l2
  clear h hp e1 e2
  generalize p.i.countP (fun x => hasB x g) = n1 at *
  generalize p.o.countP (fun x => hasB x g) = n2 at *
  obtain ⟨f, f0, f4⟩ : ∃ f : Nat → Nat, f 0 = n1 ∧ f 4 = n2 := ⟨fun o => if o = 0 then n1 else n2, rfl, rfl⟩
  rw [← f0] at h1 l1
  rw [← f4] at h2 l2
  have H := Lib.hid (fun (o s n : Nat) (ho : o = 0 ∧ s = 4 ∨ o = 4 ∧ s = 6) => show Calls Try.prog 57 #[.slice (some ⟨b, o, none⟩) s s, .int .i64 g] (w.drewN n) (Quiet (.int .i64 (f o : Nat)) (w.drewN n)) by
    rcases ho with ⟨rfl, rfl⟩ | ⟨rfl, rfl⟩
    · exact h1 n
    · exact h2 n)
  rw [← f0, ← f4]
  clear h1 h2 f0 f4
  go_enter Try.func70, Try.ntmps70
  go_wp2_with fail
  go_quiet ((go_at_call 57; exact Calls.hush (H.out _ _ _ (by decide))))
  go_wp2
  go_ret
  exact ⟨by go_num, _, rfl⟩

end Go.Proofs.Ytmadfbncoibapab
