/- The model's NetValid. -/
import Derived.Test.YtmkcnoaphoiiaaaJE
import Derived.Test.YtmkcnoaphoiiaaaZR
import Derived.Test.YtmkcnoaphoiiaaaSD
import Derived.Deep.LoopGhost
namespace Go.Proofs.Ytmkcnoaphoiiaaa
open Go.RowKit

def NvRel (n : Int) (net : List (List Rd)) (w : World) (iv : Value) (wr : World) : Prop := ∃ k : Nat, k ≤ net.length ∧ iv = .int .i64 k ∧ okTo7 n net k = true ∧ Below w.heap.size w wr

set_option maxRecDepth 100000 in
set_option maxHeartbeats 1000000 in
theorem netValid1_any (n : Int) (v : Value) (net : List (List Rd)) (w : World) (hv : NtIn w v net) (hm : totN net ≤ 1048577) :
    Calls Try.prog 17 #[.int .i64 n, v] w (Gives (.bool (okNet n net)) w) := by
  obtain ⟨a, cap, rfl, hcap, ha⟩ := hv
  clear hcap
  have hl1 : net.length ≤ 1048577 := by unfold totN at hm; omega
  have Hm := Lib.hid hm; clear hm
  have Ha := Lib.hid ha; clear ha
  go_enter Try.func17, Try.ntmps17
  go_wp2
  go_loopw [5] (fun iv wr => NvRel n net w iv wr) (fun iv _ => net.length - (intOf iv).toNat)
  case atStart => exact ⟨0, Nat.zero_le _, rfl, rfl, Below.refl _ _⟩
  case round =>
    obtain ⟨k, hk, rfl, hok, hbel⟩ := hrel
    have Hok := Lib.hid hok; clear hok
    by_cases hlt : k < net.length
    · obtain ⟨b, o, rfl, hb, hrw⟩ := Ha.out (by intro h; simp [h] at hlt)
      obtain ⟨u, c0, hu⟩ := hrw k hlt
      have d0 : wr.cell? ⟨b, o + k, none⟩ = some u := by rw [hbel.cell (p := ⟨b, o + k, none⟩) hb]; exact c0
      have hln : (coach net k).length ≤ 1048576 := by have := totTo_at net hlt; have := Hm.out; unfold totN at this; omega
      have Hc := Lib.hid (valid1_any n u (coach net k) wr (hu.below hbel).roads hln)
      have Hs := Lib.hid (okTo7_succ (n := n) hlt)
      have Hn := Lib.hid (fun h => okNet_no (n := n) hlt h)
      clear hrw c0 hu
      go_wp2_with fail
      refine Hc.out.mono ?_; rintro e w1 ⟨rfl, hb1⟩
      cases hz : validS n (coach net k) with
      | false =>
        have Hz := Lib.hid (Hn.out hz)
        clear hz Hn Hs Hc
        go_wp2
        go_ret
        exact ⟨ret_bool (by first | (rw [Hz.out]; done) | (rw [Hz.out]; rfl) | (rw [Hz.out]; simp; done) | (rw [Hz.out]; simp; omega)), hbel.trans (hb1.mono hbel.size)⟩
      | true =>
        have Hz := Lib.hid (show okTo7 n net (k + 1) = true by rw [Hs.out, Hok.out, hz]; rfl)
        clear hz Hn Hs Hc
        go_wp2
        exact ⟨⟨k + 1, hlt, by go_num, Hz.out, hbel.trans (hb1.mono hbel.size)⟩, by simp [intOf]; omega⟩
    · obtain rfl : k = net.length := by omega
      by_cases hn : 1 ≤ n ∧ n ≤ 8
      · by_cases h6 : (net.length : Int) ≤ 6
        · have Hz := Lib.hid (okNet_yes (n := n) ⟨hn.1, hn.2, by omega⟩ Hok.out)
          obtain ⟨n1, n8⟩ := hn
          go_wp2_with (go_at_call 59; refine (l6In_yes _ _ _ _ ⟨n1, n8⟩).mono ?_; rintro e w' ⟨rfl, rfl⟩)
          go_ret
          exact ⟨ret_bool (by first | (rw [Hz.out]; done) | (rw [Hz.out]; rfl) | (rw [Hz.out]; simp; done) | (rw [Hz.out]; simp; omega)), hbel⟩
        · have Hz := Lib.hid (okNet_small (n := n) (net := net) (by omega))
          obtain ⟨n1, n8⟩ := hn
          go_wp2_with (go_at_call 59; refine (l6In_yes _ _ _ _ ⟨n1, n8⟩).mono ?_; rintro e w' ⟨rfl, rfl⟩)
          go_ret
          exact ⟨ret_bool (by first | (rw [Hz.out]; done) | (rw [Hz.out]; rfl) | (rw [Hz.out]; simp; done) | (rw [Hz.out]; simp; omega)), hbel⟩
      · have Hz := Lib.hid (okNet_small (n := n) (net := net) (by omega))
        have Hn := Lib.hid hn
        clear hn
        go_wp2_with (go_at_call 59; refine (l6In_no _ _ _ _ Hn.out).mono ?_; rintro e w' ⟨rfl, rfl⟩)
        go_ret
        exact ⟨ret_bool (by first | (rw [Hz.out]; done) | (rw [Hz.out]; rfl) | (rw [Hz.out]; simp; done) | (rw [Hz.out]; simp; omega)), hbel⟩

end Go.Proofs.Ytmkcnoaphoiiaaa
