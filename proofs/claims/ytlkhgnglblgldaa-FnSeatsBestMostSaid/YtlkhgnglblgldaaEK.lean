/- The program's seats: take, takeLeast, takenOn, ride. -/
import Derived.Test.YtlkhgnglblgldaaEI
import Derived.Deep.RegionHeld3
import Derived.Deep.RegionWith
namespace Go.Proofs.Ytlkhgnglblgldaa
open Go.RowKit

set_option maxHeartbeats 400000 in
theorem legsT_any (x : Nat) (w : World) : Calls Try.prog 157 #[.int .u8 x] w (Quiet (.int .u8 x) w) := by
  go_enter Try.func157, Try.ntmps157
  go_wp2
  go_ret
  exact ⟨rfl, 0, rfl⟩

set_option maxRecDepth 100000 in
set_option maxHeartbeats 1000000 in
theorem takeT_yes (b x s : Nat) (p : Pl) (w : World) (h : PlW w b p) (hp : PlWf p) (hx : x < 256) (hs : s < 4) (hz : (p.row true).getD s 0 &&& x = 0) :
    Calls Try.prog 119 #[.pointer (some ⟨b, 0, none⟩), (.iface 176 (.int .u8 x)), .int .i64 s] w fun e w' => e = .returned (.bool true) ∧ PlW w' b (p.put true s ((p.row true).getD s 0 ||| x)) ∧ Touch (fun j => j = b) w w' := by
  have hm : ∀ w, (method 306 176 (.int .u8 x) "loop.example/mailcoaches/impl.legs").run Try.prog w = .ok (157, .int .u8 x) w := fun _ => by kernel_rfl
  have hna : ∀ w, (nilAhead 306 176 (.int .u8 x) "loop.example/mailcoaches/impl.legs").run Try.prog w = .ok (some false) w := fun _ => by kernel_rfl
  have HS := Lib.hid (fun w => seatsFor_any b true x w)
  have HL := Lib.hid (fun w => legsT_any x w)
  have HM := Lib.hid (fun w => quiet_same (meets_any ((p.row true).getD s 0) x w (hp.lt _ _) hx))
  have Hor := Lib.hid (or_u8 (hp.lt true s) hx)
  have c := h.cell hp true (s := s) hs
  simp only [offB, Nat.zero_add] at c
  have fz := Whole.free h (s)
  have hfin := fun w1 (h : PlW w1 b p) => h.set hp true (s := s) hs
  simp only [offB, Nat.zero_add] at hfin
  have Hfin := Lib.hid hfin; clear hfin
  rw [show ((p.row true).getD s 0 &&& x != 0) = false by rw [hz]; rfl] at HM
  have H := Lib.hid h; clear h hz hp hx
  generalize (p.row true).getD s 0 = y at *
  have hs0 : (0 : Int) ≤ (s : Int) := Int.natCast_nonneg _
  have hs1 : (s : Int) < 4 := by omega
  have hs2 : ¬ (s : Int) < 0 := by omega
  have hs3 : ¬ (4 : Int) ≤ (s : Int) := by omega
  go_enter Try.func119, Try.ntmps119
  go_wp2_with (go_at_call 118; refine (HS.out _).mono ?_; rintro e w1 ⟨rfl, rfl⟩; simp only [offB, seatsB])
  go_quiet (first | (go_at_call 129; exact Calls.hush (HM.out _)) | (go_at_call 157; exact Calls.hush (HL.out _)))
  go_wp2_with fail
  go_region_with (first | (go_at_call 157; refine (HL.out _).mono ?_; rintro e w1 ⟨rfl, m1, rfl⟩))
  all_goals
    go_wp2
    go_ret
    refine ⟨rfl, ?_, Touch.setCell (S := fun j => j = b) (Touch.of_below ((Below.refl _ _).drewN _)) rfl _⟩
    rw [Hor.out]
    exact Hfin.out _ (Whole.drewN H.out _) _

set_option maxRecDepth 100000 in
set_option maxHeartbeats 1000000 in
theorem takeT_no (b x : Nat) (s : Int) (p : Pl) (w : World) (h : PlW w b p) (hp : PlWf p) (hx : x < 256) (hno : s < 0 ∨ 4 ≤ s ∨ ((p.row true).getD s.toNat 0 &&& x != 0) = true) :
    Calls Try.prog 119 #[.pointer (some ⟨b, 0, none⟩), (.iface 176 (.int .u8 x)), .int .i64 s] w (Quiet (.bool false) w) := by
  have hm : ∀ w, (method 306 176 (.int .u8 x) "loop.example/mailcoaches/impl.legs").run Try.prog w = .ok (157, .int .u8 x) w := fun _ => by kernel_rfl
  have hna : ∀ w, (nilAhead 306 176 (.int .u8 x) "loop.example/mailcoaches/impl.legs").run Try.prog w = .ok (some false) w := fun _ => by kernel_rfl
  have HS := Lib.hid (fun w => seatsFor_any b true x w)
  have HL := Lib.hid (fun w => legsT_any x w)
  by_cases hs0 : s < 0
  · have hs1 : s < 4 := by omega
    go_enter Try.func119, Try.ntmps119
    go_wp2_with (go_at_call 118; refine (HS.out _).mono ?_; rintro e w1 ⟨rfl, rfl⟩; simp only [offB, seatsB])
    go_quiet (fail)
    go_wp2
    go_ret
    exact ⟨rfl, _, rfl⟩
  · by_cases hs1 : 4 ≤ s
    · have hs2 : (0 : Int) ≤ s := by omega
      have hd1 : decide (s < 0) = false := decide_eq_false hs0
      have hd2 : decide (4 ≤ s) = true := decide_eq_true hs1
      go_enter Try.func119, Try.ntmps119
      go_wp2_with (go_at_call 118; refine (HS.out _).mono ?_; rintro e w1 ⟨rfl, rfl⟩; simp only [offB, seatsB])
      go_quiet (fail)
      go_wp2
      go_ret
      exact ⟨rfl, _, rfl⟩
    · obtain ⟨n, rfl⟩ : ∃ n : Nat, s = n := ⟨s.toNat, by omega⟩
      have hz : ((p.row true).getD n 0 &&& x != 0) = true := by
        rcases hno with h | h | h
        · omega
        · omega
        · simpa using h
      have hs : n < 4 := by omega
      have HM := Lib.hid (fun w => quiet_same (meets_any ((p.row true).getD n 0) x w (hp.lt _ _) hx))
      have c := h.cell hp true (s := n) hs
      simp only [offB, Nat.zero_add] at c
      rw [hz] at HM
      clear h hz hp hx hno hs
      generalize (p.row true).getD n 0 = y at *
      have hs3 : (0 : Int) ≤ (n : Int) := by omega
      have hs4 : (n : Int) < 4 := by omega
      go_enter Try.func119, Try.ntmps119
      go_wp2_with (go_at_call 118; refine (HS.out _).mono ?_; rintro e w1 ⟨rfl, rfl⟩; simp only [offB, seatsB])
      go_quiet (first | (go_at_call 129; exact Calls.hush (HM.out _)) | (go_at_call 157; exact Calls.hush (HL.out _)))
      go_wp2
      go_ret
      exact ⟨rfl, _, rfl⟩

set_option maxHeartbeats 400000 in
theorem legsF_any (x : Nat) (w : World) : Calls Try.prog 158 #[.int .u8 x] w (Quiet (.int .u8 x) w) := by
  go_enter Try.func158, Try.ntmps158
  go_wp2
  go_ret
  exact ⟨rfl, 0, rfl⟩

set_option maxRecDepth 100000 in
set_option maxHeartbeats 1000000 in
theorem takeF_yes (b x s : Nat) (p : Pl) (w : World) (h : PlW w b p) (hp : PlWf p) (hx : x < 256) (hs : s < 6) (hz : (p.row false).getD s 0 &&& x = 0) :
    Calls Try.prog 119 #[.pointer (some ⟨b, 0, none⟩), (.iface 177 (.int .u8 x)), .int .i64 s] w fun e w' => e = .returned (.bool true) ∧ PlW w' b (p.put false s ((p.row false).getD s 0 ||| x)) ∧ Touch (fun j => j = b) w w' := by
  have hm : ∀ w, (method 306 177 (.int .u8 x) "loop.example/mailcoaches/impl.legs").run Try.prog w = .ok (158, .int .u8 x) w := fun _ => by kernel_rfl
  have hna : ∀ w, (nilAhead 306 177 (.int .u8 x) "loop.example/mailcoaches/impl.legs").run Try.prog w = .ok (some false) w := fun _ => by kernel_rfl
  have HS := Lib.hid (fun w => seatsFor_any b false x w)
  have HL := Lib.hid (fun w => legsF_any x w)
  have HM := Lib.hid (fun w => quiet_same (meets_any ((p.row false).getD s 0) x w (hp.lt _ _) hx))
  have Hor := Lib.hid (or_u8 (hp.lt false s) hx)
  have c := h.cell hp false (s := s) hs
  simp only [offB, Nat.zero_add] at c
  have fz := Whole.free h (4 + s)
  have hfin := fun w1 (h : PlW w1 b p) => h.set hp false (s := s) hs
  simp only [offB, Nat.zero_add] at hfin
  have Hfin := Lib.hid hfin; clear hfin
  rw [show ((p.row false).getD s 0 &&& x != 0) = false by rw [hz]; rfl] at HM
  have H := Lib.hid h; clear h hz hp hx
  generalize (p.row false).getD s 0 = y at *
  have hs0 : (0 : Int) ≤ (s : Int) := Int.natCast_nonneg _
  have hs1 : (s : Int) < 6 := by omega
  have hs2 : ¬ (s : Int) < 0 := by omega
  have hs3 : ¬ (6 : Int) ≤ (s : Int) := by omega
  go_enter Try.func119, Try.ntmps119
  go_wp2_with (go_at_call 118; refine (HS.out _).mono ?_; rintro e w1 ⟨rfl, rfl⟩; simp only [offB, seatsB])
  go_quiet (first | (go_at_call 129; exact Calls.hush (HM.out _)) | (go_at_call 158; exact Calls.hush (HL.out _)))
  go_wp2_with fail
  go_region_with (first | (go_at_call 158; refine (HL.out _).mono ?_; rintro e w1 ⟨rfl, m1, rfl⟩))
  all_goals
    go_wp2
    go_ret
    refine ⟨rfl, ?_, Touch.setCell (S := fun j => j = b) (Touch.of_below ((Below.refl _ _).drewN _)) rfl _⟩
    rw [Hor.out]
    exact Hfin.out _ (Whole.drewN H.out _) _

set_option maxRecDepth 100000 in
set_option maxHeartbeats 1000000 in
theorem takeF_no (b x : Nat) (s : Int) (p : Pl) (w : World) (h : PlW w b p) (hp : PlWf p) (hx : x < 256) (hno : s < 0 ∨ 6 ≤ s ∨ ((p.row false).getD s.toNat 0 &&& x != 0) = true) :
    Calls Try.prog 119 #[.pointer (some ⟨b, 0, none⟩), (.iface 177 (.int .u8 x)), .int .i64 s] w (Quiet (.bool false) w) := by
  have hm : ∀ w, (method 306 177 (.int .u8 x) "loop.example/mailcoaches/impl.legs").run Try.prog w = .ok (158, .int .u8 x) w := fun _ => by kernel_rfl
  have hna : ∀ w, (nilAhead 306 177 (.int .u8 x) "loop.example/mailcoaches/impl.legs").run Try.prog w = .ok (some false) w := fun _ => by kernel_rfl
  have HS := Lib.hid (fun w => seatsFor_any b false x w)
  have HL := Lib.hid (fun w => legsF_any x w)
  by_cases hs0 : s < 0
  · have hs1 : s < 6 := by omega
    go_enter Try.func119, Try.ntmps119
    go_wp2_with (go_at_call 118; refine (HS.out _).mono ?_; rintro e w1 ⟨rfl, rfl⟩; simp only [offB, seatsB])
    go_quiet (fail)
    go_wp2
    go_ret
    exact ⟨rfl, _, rfl⟩
  · by_cases hs1 : 6 ≤ s
    · have hs2 : (0 : Int) ≤ s := by omega
      have hd1 : decide (s < 0) = false := decide_eq_false hs0
      have hd2 : decide (6 ≤ s) = true := decide_eq_true hs1
      go_enter Try.func119, Try.ntmps119
      go_wp2_with (go_at_call 118; refine (HS.out _).mono ?_; rintro e w1 ⟨rfl, rfl⟩; simp only [offB, seatsB])
      go_quiet (fail)
      go_wp2
      go_ret
      exact ⟨rfl, _, rfl⟩
    · obtain ⟨n, rfl⟩ : ∃ n : Nat, s = n := ⟨s.toNat, by omega⟩
      have hz : ((p.row false).getD n 0 &&& x != 0) = true := by
        rcases hno with h | h | h
        · omega
        · omega
        · simpa using h
      have hs : n < 6 := by omega
      have HM := Lib.hid (fun w => quiet_same (meets_any ((p.row false).getD n 0) x w (hp.lt _ _) hx))
      have c := h.cell hp false (s := n) hs
      simp only [offB, Nat.zero_add] at c
      rw [hz] at HM
      clear h hz hp hx hno hs
      generalize (p.row false).getD n 0 = y at *
      have hs3 : (0 : Int) ≤ (n : Int) := by omega
      have hs4 : (n : Int) < 6 := by omega
      go_enter Try.func119, Try.ntmps119
      go_wp2_with (go_at_call 118; refine (HS.out _).mono ?_; rintro e w1 ⟨rfl, rfl⟩; simp only [offB, seatsB])
      go_quiet (first | (go_at_call 129; exact Calls.hush (HM.out _)) | (go_at_call 158; exact Calls.hush (HL.out _)))
      go_wp2
      go_ret
      exact ⟨rfl, _, rfl⟩

set_option maxRecDepth 100000 in
set_option maxHeartbeats 1000000 in
theorem leastT_some (b x s : Nat) (p : Pl) (w : World) (h : PlW w b p) (hp : PlWf p) (hx : x < 256) (hs : s < 4) (hz : (p.row true).getD s 0 &&& x = 0) (hlow : ∀ t, t < s → ((p.row true).getD t 0 &&& x == 0) = false) :
    Calls Try.prog 100 #[.pointer (some ⟨b, 0, none⟩), (.iface 176 (.int .u8 x))] w fun e w' => e = .returned (.tuple #[.int .i64 s, .bool true]) ∧ PlW w' b (p.put true s ((p.row true).getD s 0 ||| x)) ∧ Touch (fun j => j = b) w w' := by
  have HS := Lib.hid (fun w => seatsFor_any b true x w)
  have HY := Lib.hid (fun w' (h' : Drewn w w') => takeT_yes b x s p w' (by obtain ⟨m, rfl⟩ := h'; exact Whole.drewN h m) hp hx hs hz)
  have HN := Lib.hid (fun w' (h' : Drewn w w') (t : Nat) (ht : t < s) => takeT_no b x t p w' (by obtain ⟨m, rfl⟩ := h'; exact Whole.drewN h m) hp hx (.inr (.inr (by have := hlow t ht; simp only [Int.toNat_natCast]; simpa using this))))
  clear h hp hx hz hlow
  go_enter Try.func100, Try.ntmps100
  go_wp2_with (go_at_call 118; refine (HS.out _).mono ?_; rintro e w1 ⟨rfl, rfl⟩; simp only [offB, seatsB])
  go_loopw [11] (fun i wr => ∃ k : Nat, k ≤ s ∧ i = .int .i64 k ∧ Drewn w wr) (fun i _ => s + 1 - (intOf i).toNat)
  case atStart => exact ⟨0, Nat.zero_le _, rfl, Drewn.refl w⟩
  case round =>
    obtain ⟨k, hk, rfl, hw⟩ := hrel
    have HW := Lib.hid hw; clear hw
    have hk4 : (k : Int) < 4 := by omega
    by_cases hlt : k < s
    · go_wp2_with fail
      refine (HN.out _ HW.out k hlt).mono ?_; rintro e w1 ⟨rfl, m1, rfl⟩
      go_wp2
      exact ⟨⟨k + 1, hlt, by go_num, HW.out.drewN _⟩, by simp [intOf]; omega⟩
    · obtain rfl : k = s := by omega
      go_wp2_with fail
      refine (HY.out _ HW.out).mono ?_; rintro e w1 ⟨rfl, hpl, ht⟩
      have Hpl := Lib.hid hpl
      have Ht := Lib.hid ht
      clear hpl ht
      go_wp2
      go_ret2
      exact ⟨rfl, Hpl.out, (Touch.of_below HW.out.below).trans Ht.out⟩

set_option maxRecDepth 100000 in
set_option maxHeartbeats 1000000 in
theorem leastT_none (b x : Nat) (p : Pl) (w : World) (h : PlW w b p) (hp : PlWf p) (hx : x < 256) (hlow : ∀ t, t < 4 → ((p.row true).getD t 0 &&& x == 0) = false) :
    Calls Try.prog 100 #[.pointer (some ⟨b, 0, none⟩), (.iface 176 (.int .u8 x))] w (Quiet (.tuple #[.int .i64 0, .bool false]) w) := by
  have HS := Lib.hid (fun w => seatsFor_any b true x w)
  have HN := Lib.hid (fun w' (h' : Drewn w w') (t : Nat) (ht : t < 4) => takeT_no b x t p w' (by obtain ⟨m, rfl⟩ := h'; exact Whole.drewN h m) hp hx (.inr (.inr (by have := hlow t ht; simp only [Int.toNat_natCast]; simpa using this))))
  clear h hp hx hlow
  go_enter Try.func100, Try.ntmps100
  go_wp2_with (go_at_call 118; refine (HS.out _).mono ?_; rintro e w1 ⟨rfl, rfl⟩; simp only [offB, seatsB])
  go_loopw [11] (fun i wr => ∃ k : Nat, k ≤ 4 ∧ i = .int .i64 k ∧ Drewn w wr) (fun i _ => 4 + 1 - (intOf i).toNat)
  case atStart => exact ⟨0, Nat.zero_le _, rfl, Drewn.refl w⟩
  case round =>
    obtain ⟨k, hk, rfl, hw⟩ := hrel
    have HW := Lib.hid hw; clear hw
    by_cases hlt : k < 4
    · have hk4 : (k : Int) < 4 := by omega
      go_wp2_with fail
      refine (HN.out _ HW.out k hlt).mono ?_; rintro e w1 ⟨rfl, m1, rfl⟩
      go_wp2
      exact ⟨⟨k + 1, hlt, by go_num, HW.out.drewN _⟩, by simp [intOf]; omega⟩
    · obtain rfl : k = 4 := by omega
      go_wp2
      go_ret2
      exact ⟨rfl, HW.out⟩

set_option maxRecDepth 100000 in
set_option maxHeartbeats 1000000 in
theorem leastF_some (b x s : Nat) (p : Pl) (w : World) (h : PlW w b p) (hp : PlWf p) (hx : x < 256) (hs : s < 6) (hz : (p.row false).getD s 0 &&& x = 0) (hlow : ∀ t, t < s → ((p.row false).getD t 0 &&& x == 0) = false) :
    Calls Try.prog 100 #[.pointer (some ⟨b, 0, none⟩), (.iface 177 (.int .u8 x))] w fun e w' => e = .returned (.tuple #[.int .i64 s, .bool true]) ∧ PlW w' b (p.put false s ((p.row false).getD s 0 ||| x)) ∧ Touch (fun j => j = b) w w' := by
  have HS := Lib.hid (fun w => seatsFor_any b false x w)
  have HY := Lib.hid (fun w' (h' : Drewn w w') => takeF_yes b x s p w' (by obtain ⟨m, rfl⟩ := h'; exact Whole.drewN h m) hp hx hs hz)
  have HN := Lib.hid (fun w' (h' : Drewn w w') (t : Nat) (ht : t < s) => takeF_no b x t p w' (by obtain ⟨m, rfl⟩ := h'; exact Whole.drewN h m) hp hx (.inr (.inr (by have := hlow t ht; simp only [Int.toNat_natCast]; simpa using this))))
  clear h hp hx hz hlow
  go_enter Try.func100, Try.ntmps100
  go_wp2_with (go_at_call 118; refine (HS.out _).mono ?_; rintro e w1 ⟨rfl, rfl⟩; simp only [offB, seatsB])
  go_loopw [11] (fun i wr => ∃ k : Nat, k ≤ s ∧ i = .int .i64 k ∧ Drewn w wr) (fun i _ => s + 1 - (intOf i).toNat)
  case atStart => exact ⟨0, Nat.zero_le _, rfl, Drewn.refl w⟩
  case round =>
    obtain ⟨k, hk, rfl, hw⟩ := hrel
    have HW := Lib.hid hw; clear hw
    have hk4 : (k : Int) < 6 := by omega
    by_cases hlt : k < s
    · go_wp2_with fail
      refine (HN.out _ HW.out k hlt).mono ?_; rintro e w1 ⟨rfl, m1, rfl⟩
      go_wp2
      exact ⟨⟨k + 1, hlt, by go_num, HW.out.drewN _⟩, by simp [intOf]; omega⟩
    · obtain rfl : k = s := by omega
      go_wp2_with fail
      refine (HY.out _ HW.out).mono ?_; rintro e w1 ⟨rfl, hpl, ht⟩
      have Hpl := Lib.hid hpl
      have Ht := Lib.hid ht
      clear hpl ht
      go_wp2
      go_ret2
      exact ⟨rfl, Hpl.out, (Touch.of_below HW.out.below).trans Ht.out⟩

set_option maxRecDepth 100000 in
set_option maxHeartbeats 1000000 in
theorem leastF_none (b x : Nat) (p : Pl) (w : World) (h : PlW w b p) (hp : PlWf p) (hx : x < 256) (hlow : ∀ t, t < 6 → ((p.row false).getD t 0 &&& x == 0) = false) :
    Calls Try.prog 100 #[.pointer (some ⟨b, 0, none⟩), (.iface 177 (.int .u8 x))] w (Quiet (.tuple #[.int .i64 0, .bool false]) w) := by
  have HS := Lib.hid (fun w => seatsFor_any b false x w)
  have HN := Lib.hid (fun w' (h' : Drewn w w') (t : Nat) (ht : t < 6) => takeF_no b x t p w' (by obtain ⟨m, rfl⟩ := h'; exact Whole.drewN h m) hp hx (.inr (.inr (by have := hlow t ht; simp only [Int.toNat_natCast]; simpa using this))))
  clear h hp hx hlow
  go_enter Try.func100, Try.ntmps100
  go_wp2_with (go_at_call 118; refine (HS.out _).mono ?_; rintro e w1 ⟨rfl, rfl⟩; simp only [offB, seatsB])
  go_loopw [11] (fun i wr => ∃ k : Nat, k ≤ 6 ∧ i = .int .i64 k ∧ Drewn w wr) (fun i _ => 6 + 1 - (intOf i).toNat)
  case atStart => exact ⟨0, Nat.zero_le _, rfl, Drewn.refl w⟩
  case round =>
    obtain ⟨k, hk, rfl, hw⟩ := hrel
    have HW := Lib.hid hw; clear hw
    by_cases hlt : k < 6
    · have hk4 : (k : Int) < 6 := by omega
      go_wp2_with fail
      refine (HN.out _ HW.out k hlt).mono ?_; rintro e w1 ⟨rfl, m1, rfl⟩
      go_wp2
      exact ⟨⟨k + 1, hlt, by go_num, HW.out.drewN _⟩, by simp [intOf]; omega⟩
    · obtain rfl : k = 6 := by omega
      go_wp2
      go_ret2
      exact ⟨rfl, HW.out⟩


def TlRel (n x : Nat) (row : List Nat) (w : World) (i : Value) (wr : World) : Prop := ∃ k : Nat, k ≤ n ∧ i = .int .i64 k ∧ (∀ t, t < k → (row.getD t 0 &&& x == 0) = false) ∧ Drewn w wr

def HkRel (xs : List Nat) (g : Nat) (w : World) (nv i : Value) (wr : World) : Prop := ∃ k : Nat, k ≤ xs.length ∧ nv = .int .i64 ((xs.take k).countP (fun x => hasB x g) : Nat) ∧ i = .int .i64 k ∧ Drewn w wr

theorem countP_take_succ {α : Type} (f : α → Bool) (l : List α) (k : Nat) (d : α) (h : k < l.length) : (l.take (k + 1)).countP f = (l.take k).countP f + if f (l.getD k d) then 1 else 0 := by
  rw [List.take_succ_eq_append_getElem h, List.countP_append]
  simp [List.countP_cons, List.getD, h]

end Go.Proofs.Ytlkhgnglblgldaa
