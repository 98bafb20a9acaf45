/- The laws' marks on nets. -/
import Derived.Test.YtmkcnoaphoiiaaaJE
import Derived.Test.YtmkcnoaphoiiaaaZD
namespace Go.Proofs.Ytmkcnoaphoiiaaa
open Go.RowKit

/-- Writes into the stops of a net, not into its slices. -/
def inStops (A B b : Nat) : Nat → Prop := fun p => A ≤ p ∧ p < B ∧ p ≠ b

/-- The first k rows bear marks, the others are as they were. -/
def mixNt (q : Int) (net : List (List Tz)) (k i : Nat) : List Tz := if i < k then marksTz (q + 3 * (totTo net i : Int)) (coach net i).length else coach net i

def MarkNtRel (A B b : Nat) (ads : Nat → Option Addr) (net : List (List Tz)) (q : Int) (w : World) (kv i : Value) (wr : World) : Prop :=
  ∃ k : Nat, k ≤ net.length ∧ i = .int .i64 k ∧ kv = .int .i64 (q + 3 * (totTo net k : Int)) ∧ Touch (inStops A B b) w wr ∧ (∀ i, i < net.length → OwnTz wr (ads i) (mixNt q net k i))

theorem mix_len (q : Int) (net : List (List Tz)) (k i : Nat) : (mixNt q net k i).length = (coach net i).length := by unfold mixNt; split; rw [marksTz_len]; rfl

theorem NtOwn.cellT {w w' : World} {A B b : Nat} {ads : Nat → Option Addr} {cps : Nat → Nat} {net : List (List Tz)} (h : NtOwn w A B b ads cps net) (ht : Touch (inStops A B b) w w') {i : Nat} (hi : i < net.length) :
    w'.cell? ⟨b, i, none⟩ = some (.slice (ads i) (coach net i).length (cps i)) := by
  rw [World.cell?_of_block (a := ⟨b, i, none⟩) (ht.block b (Nat.lt_of_lt_of_le h.lo.2 h.hi) (fun hp => hp.2.2 rfl))]
  exact h.row i hi

set_option maxRecDepth 100000 in
set_option maxHeartbeats 800000 in
theorem markStopSS_own (A B b cap : Nat) (ads : Nat → Option Addr) (cps : Nat → Nat) (net : List (List Tz)) (q : Int) (w : World) (h : NtOwn w A B b ads cps net) (hl : totN net ≤ 1048576) (h0 : 0 ≤ q) (h9 : q ≤ 4000000) :
    Calls Try.prog 31 #[.slice (some ⟨b, 0, none⟩) net.length cap, .int .i64 q] w fun e w' => e = .returned (.int .i64 (q + 3 * (totTo net net.length : Int))) ∧ NtOwn w' A B b ads cps (marksNt q net) ∧ Touch (inStops A B b) w w' := by
  have H := Lib.hid h; clear h
  have hl1 : net.length ≤ 1048576 := by unfold totN at hl; omega
  have hl2 : totTo net net.length ≤ 1048576 := by unfold totN at hl; omega
  have Hl := Lib.hid hl2; clear hl hl2
  go_enter Try.func31, Try.ntmps31
  go_wp2
  go_loopw [1, 5] (fun kv i wr => MarkNtRel A B b ads net q w kv i wr) (fun _ i _ => net.length - (intOf i).toNat)
  case atStart => exact ⟨0, Nat.zero_le _, rfl, by show _ = Value.int .i64 (q + 3 * ((0 : Nat) : Int)); simp, Touch.refl _ _, fun i hi => by unfold mixNt; rw [if_neg (by omega)]; exact H.out.own i hi⟩
  case round =>
    obtain ⟨k, hk, rfl, rfl, ht, hown⟩ := hrel
    by_cases hlt : k < net.length
    · have c0 := H.out.cellT ht hlt
      have ho := hown k hlt
      unfold mixNt at ho
      rw [if_neg (Nat.lt_irrefl k)] at ho
      have hln : (coach net k).length ≤ 1048576 := by have := totTo_at net hlt; have := Hl.out; omega
      have Hown := Lib.hid hown; clear hown
      have Ht := Lib.hid ht; clear ht
      have hm := totTo_mono net (show k ≤ net.length by omega)
      have hq : q + 3 * (totTo net k : Int) ≤ 9000000 := by have := Hl.out; omega
      have hq0 : 0 ≤ q + 3 * (totTo net k : Int) := by omega
      have Hs := Lib.hid (show totTo net (k + 1) = totTo net k + (coach net k).length from rfl)
      have Hc := Lib.hid (markStopS_own (ads k) (cps k) (coach net k) (q + 3 * (totTo net k : Int)) wr ho hln hq0 hq)
      clear ho hm hq hq0
      go_wp2_with fail
      refine Hc.out.mono ?_; rintro e w1 ⟨rfl, ho1, ht1⟩
      have Ho1 := Lib.hid ho1; clear ho1
      have Ht1 := Lib.hid ht1; clear ht1 c0 Hc
      have he : q + 3 * (totTo net k : Int) + 3 * ((coach net k).length : Int) = q + 3 * (totTo net (k + 1) : Int) := by have := Hs.out; omega
      rw [he]
      clear he
      go_wp2
      refine ⟨⟨k + 1, hlt, by go_num, rfl, Ht.out.trans ⟨Ht1.out.os, Ht1.out.tape, Ht1.out.output, Ht1.out.size, fun j hj hS => Ht1.out.block j hj (fun hp => hS (H.out.blk k hlt j hp))⟩, fun i hi => ?_⟩, by simp [intOf]; omega⟩
      by_cases hik : i = k
      · subst hik
        unfold mixNt
        rw [if_pos (Nat.lt_succ_self i)]
        exact Ho1.out
      · have e : mixNt q net (k + 1) i = mixNt q net k i := by
          unfold mixNt
          by_cases h : i < k
          · rw [if_pos h, if_pos (by omega)]
          · rw [if_neg h, if_neg (by omega)]
        rw [e]
        exact (Hown.out i hi).touch Ht1.out (fun j hj hj2 => H.out.dis i k hi hlt hik j hj hj2)
    · obtain rfl : k = net.length := by omega
      have Hown := Lib.hid hown; clear hown
      have Ht := Lib.hid ht; clear ht
      go_wp2
      go_ret
      refine ⟨rfl, ⟨H.out.lo, Nat.le_trans H.out.hi Ht.out.size, fun i hi => ?_, fun i hi => ?_, fun i hi => ?_, fun i hi => ?_, fun i j hi hj => ?_⟩, Ht.out⟩
      · rw [marksNt_len] at hi
        rw [marksNt_at q net hi, marksTz_len]
        exact H.out.cellT Ht.out hi
      · rw [marksNt_len] at hi
        rw [marksNt_at q net hi, marksTz_len]
        exact H.out.cap i hi
      · rw [marksNt_len] at hi
        rw [marksNt_at q net hi]
        have := Hown.out i hi
        unfold mixNt at this
        rwa [if_pos hi] at this
      · rw [marksNt_len] at hi
        exact H.out.blk i hi
      · rw [marksNt_len] at hi hj
        exact H.out.dis i j hi hj

def HeldNtRel (net : List (List Tz)) (q : Int) (w : World) (kv i : Value) (wr : World) : Prop :=
  ∃ k : Nat, k ≤ net.length ∧ i = .int .i64 k ∧ kv = .int .i64 (q + 3 * (totTo net k : Int)) ∧ wr = w

set_option maxRecDepth 100000 in
set_option maxHeartbeats 800000 in
theorem heldStopSS_any (A B b cap : Nat) (ads : Nat → Option Addr) (cps : Nat → Nat) (net : List (List Tz)) (q : Int) (w : World) (h : NtOwn w A B b ads cps (marksNt q net)) (hl : totN net ≤ 1048576) (h0 : 0 ≤ q) (h9 : q ≤ 4000000) :
    Calls Try.prog 46 #[.slice (some ⟨b, 0, none⟩) net.length cap, .int .i64 q] w fun e w' => e = .returned (.int .i64 (q + 3 * (totTo net net.length : Int))) ∧ w' = w := by
  have H := Lib.hid h; clear h
  have hl1 : net.length ≤ 1048576 := by unfold totN at hl; omega
  have hl2 : totTo net net.length ≤ 1048576 := by unfold totN at hl; omega
  have Hl := Lib.hid hl2; clear hl hl2
  go_enter Try.func46, Try.ntmps46
  go_wp2
  go_loopw [1, 5] (fun kv i wr => HeldNtRel net q w kv i wr) (fun _ i _ => net.length - (intOf i).toNat)
  case atStart => exact ⟨0, Nat.zero_le _, rfl, by show _ = Value.int .i64 (q + 3 * ((0 : Nat) : Int)); simp, rfl⟩
  case round =>
    obtain ⟨k, hk, rfl, rfl, rfl⟩ := hrel
    by_cases hlt : k < net.length
    · have c0 := H.out.row k (by rw [marksNt_len]; exact hlt)
      have ho := H.out.own k (by rw [marksNt_len]; exact hlt)
      rw [marksNt_at q net hlt] at c0 ho
      rw [marksTz_len] at c0
      have hln : (coach net k).length ≤ 1048576 := by have := totTo_at net hlt; have := Hl.out; omega
      have hm := totTo_mono net (show k ≤ net.length by omega)
      have hq : q + 3 * (totTo net k : Int) ≤ 9000000 := by have := Hl.out; omega
      have hq0 : 0 ≤ q + 3 * (totTo net k : Int) := by omega
      have hq1 : 0 ≤ q + 3 * (totTo net (k + 1) : Int) := by omega
      have Hs := Lib.hid (show totTo net (k + 1) = totTo net k + (coach net k).length from rfl)
      have Hc := Lib.hid (heldStopS_any (ads k) (cps k) (coach net k).length (q + 3 * (totTo net k : Int)) wr ho hln hq0 hq)
      clear ho hm hq hq0
      go_wp2_with fail
      refine Hc.out.mono ?_; rintro e w' ⟨rfl, rfl⟩
      have he : q + 3 * (totTo net k : Int) + 3 * ((coach net k).length : Int) = q + 3 * (totTo net (k + 1) : Int) := by have := Hs.out; omega
      rw [he]
      clear he c0 Hc
      go_wp2
      refine ⟨⟨k + 1, hlt, by go_num, rfl, rfl⟩, by simp [intOf]; omega⟩
    · obtain rfl : k = net.length := by omega
      go_wp2
      go_ret
      exact ⟨rfl, rfl⟩

end Go.Proofs.Ytmkcnoaphoiiaaa
