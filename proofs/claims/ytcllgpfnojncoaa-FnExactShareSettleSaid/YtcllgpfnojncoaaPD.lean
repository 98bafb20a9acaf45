/- The laws' marks on slices of Part. -/
import Derived.Test.YtcllgpfnojncoaaPB
namespace Go.Proofs.Ytcllgpfnojncoaa
open Go.RowKit

/-- Room for n of them. -/
def RoomPt (w : World) (ad : Option Addr) (n : Nat) : Prop := 0 < n → ∃ b, ad = some ⟨b, 0, none⟩ ∧ b < w.heap.size ∧ Room w b (n * 2)

def MarkPtRel (ad : Option Addr) (n : Nat) (k : Int) (w : World) (kv i : Value) (wr : World) : Prop :=
  ∃ j : Nat, j ≤ n ∧ i = .int .i64 j ∧ kv = .int .i64 (k + 2 * j) ∧ Touch (inBlk ad) w wr ∧ RoomPt wr ad n

set_option maxHeartbeats 400000 in
theorem markPartS_any (ad : Option Addr) (cap n : Nat) (k : Int) (w : World) (h : RoomPt w ad n) (hl : n ≤ 1048576) (h0 : 0 ≤ k) (h9 : k ≤ 9000000) :
    Calls Try.prog 24 #[.slice ad n cap, .int .i64 k] w fun e w' => e = .returned (.int .i64 (k + 2 * n)) ∧ Touch (inBlk ad) w w' := by
  have H := Lib.hid h; clear h
  go_enter Try.func24, Try.ntmps24
  go_wp2
  go_loopw [1, 5] (fun kv i wr => MarkPtRel ad n k w kv i wr) (fun _ i _ => n - (intOf i).toNat)
  case atStart => exact ⟨0, Nat.zero_le _, rfl, by simp, Touch.refl _ _, H.out⟩
  case round =>
    obtain ⟨j, hj, rfl, rfl, ht, hown⟩ := hrel
    by_cases hlt : j < n
    · obtain ⟨b, rfl, hb, hr⟩ := hown (by omega)
      clear hown
      obtain ⟨u0, e0⟩ := hr.1 (j * 2) (by omega)
      obtain ⟨u1, e1⟩ := hr.1 (j * 2 + 1) (by omega)
      have f0 := hr.2 (j * 2)
      have f1 := hr.2 (j * 2 + 1)
      have Hr := Lib.hid hr; clear hr
      have Ht := Lib.hid ht; clear ht
      have hlt' : (j : Int) < (n : Int) := by omega
      go_wp2
      refine ⟨⟨j + 1, hlt, by go_num, by go_num, (Ht.out.setCell ⟨0, rfl⟩ _).setCell ⟨0, rfl⟩ _, fun _ => ⟨b, rfl, by simpa using hb, (Hr.out.setCell _ _).setCell _ _⟩⟩, by simp [intOf]; omega⟩
    · obtain rfl : n = j := by omega
      have Ht := Lib.hid ht; clear ht hown
      go_wp2
      go_ret
      exact ⟨rfl, Ht.out⟩

def marksPt (k : Int) (n : Nat) : List Pt := (List.range n).map fun (i : Nat) => ⟨k + 2 * (i : Int), k + 2 * (i : Int) + 1⟩

theorem marksPt_len (k : Int) (n : Nat) : (marksPt k n).length = n := by simp [marksPt]

theorem marksPt_at (k : Int) {n i : Nat} (h : i < n) : (marksPt k n).getD i pt0 = ⟨k + 2 * (i : Int), k + 2 * (i : Int) + 1⟩ := by simp [marksPt, List.getD, h]

def HeldPtRel (n : Nat) (k : Int) (w : World) (kv i : Value) (wr : World) : Prop :=
  ∃ j : Nat, j ≤ n ∧ i = .int .i64 j ∧ kv = .int .i64 (k + 2 * j) ∧ wr = w

set_option maxHeartbeats 400000 in
theorem heldPartS_any (ad : Option Addr) (cap n : Nat) (k : Int) (w : World) (h : OwnPt w ad (marksPt k n)) (hl : n ≤ 1048576) (h0 : 0 ≤ k) (h9 : k ≤ 9000000) :
    Calls Try.prog 33 #[.slice ad n cap, .int .i64 k] w fun e w' => e = .returned (.int .i64 (k + 2 * n)) ∧ w' = w := by
  have H := Lib.hid h; clear h
  go_enter Try.func33, Try.ntmps33
  go_wp2
  go_loopw [1, 5] (fun kv i wr => HeldPtRel n k w kv i wr) (fun _ i _ => n - (intOf i).toNat)
  case atStart => exact ⟨0, Nat.zero_le _, rfl, by simp, rfl⟩
  case round =>
    obtain ⟨j, hj, rfl, rfl, rfl⟩ := hrel
    by_cases hlt : j < n
    · obtain ⟨b, rfl, hb, hi, hr⟩ := H.out (by intro h; have := marksPt_len k n; rw [h] at this; simp at this; omega)
      have c := hi j (by rw [marksPt_len]; exact hlt)
      rw [Nat.zero_add, marksPt_at k hlt] at c
      obtain ⟨c0, c1⟩ := c
      simp only at c0 c1
      clear hi hr
      have hlt' : (j : Int) < (n : Int) := by omega
      go_wp2
      refine ⟨⟨j + 1, hlt, by go_num, by go_num, rfl⟩, by simp [intOf]; omega⟩
    · obtain rfl : n = j := by omega
      go_wp2
      go_ret
      exact ⟨rfl, rfl⟩

def MarkOPtRel (ad : Option Addr) (l : List Pt) (k : Int) (w : World) (kv i : Value) (wr : World) : Prop :=
  ∃ j : Nat, j ≤ l.length ∧ i = .int .i64 j ∧ kv = .int .i64 (k + 2 * j) ∧ Touch (inBlk ad) w wr ∧ (l ≠ [] → ∃ b, ad = some ⟨b, 0, none⟩ ∧ b < wr.heap.size ∧ PtAt wr b 0 ((marksPt k l.length).take j) ∧ Room wr b (l.length * 2))

set_option maxHeartbeats 400000 in
theorem markPartS_own (ad : Option Addr) (cap : Nat) (l : List Pt) (k : Int) (w : World) (h : OwnPt w ad l) (hl : l.length ≤ 1048576) (h0 : 0 ≤ k) (h9 : k ≤ 9000000) :
    Calls Try.prog 24 #[.slice ad l.length cap, .int .i64 k] w fun e w' => e = .returned (.int .i64 (k + 2 * l.length)) ∧ OwnPt w' ad (marksPt k l.length) ∧ Touch (inBlk ad) w w' := by
  have H := Lib.hid h; clear h
  go_enter Try.func24, Try.ntmps24
  go_wp2
  go_loopw [1, 5] (fun kv i wr => MarkOPtRel ad l k w kv i wr) (fun _ i _ => l.length - (intOf i).toNat)
  case atStart =>
    refine ⟨0, Nat.zero_le _, rfl, by simp, Touch.refl _ _, fun hne => ?_⟩
    obtain ⟨b, rfl, hb, hi, hr⟩ := H.out hne
    exact ⟨b, rfl, hb, (fun i hi => by simp at hi), hr⟩
  case round =>
    obtain ⟨j, hj, rfl, rfl, ht, hown⟩ := hrel
    by_cases hlt : j < l.length
    · obtain ⟨b, rfl, hb, hi, hr⟩ := hown (by intro h; simp [h] at hlt)
      clear hown
      obtain ⟨u0, e0⟩ := hr.1 (j * 2) (by omega)
      obtain ⟨u1, e1⟩ := hr.1 (j * 2 + 1) (by omega)
      have f0 := hr.2 (j * 2)
      have f1 := hr.2 (j * 2 + 1)
      have Hi := Lib.hid hi; clear hi
      have Hr := Lib.hid hr; clear hr
      have Ht := Lib.hid ht; clear ht
      have hlt' : (j : Int) < (l.length : Int) := by omega
      go_wp2
      have hk : j < (marksPt k l.length).length := by rw [marksPt_len]; exact hlt
      have hm := marksPt_at k hlt
      refine ⟨⟨j + 1, hlt, by go_num, by go_num, (Ht.out.setCell ⟨0, rfl⟩ _).setCell ⟨0, rfl⟩ _, fun _ => ⟨b, rfl, by simpa using hb, ?_, (Hr.out.setCell _ _).setCell _ _⟩⟩, by simp [intOf]; omega⟩
      exact PtAt.push hk (by rw [marksPt_len]; exact Nat.le_refl _) Hi.out Hr.out (by rw [hm]) (by rw [hm])
    · obtain hjl : l.length = j := by omega
      have Hjl := Lib.hid hjl; clear hjl
      have Hown := Lib.hid hown; clear hown
      have Ht := Lib.hid ht; clear ht
      go_wp2
      go_ret
      refine ⟨by rw [Hjl.out]; rfl, fun hne => ?_, Ht.out⟩
      have hne' : l ≠ [] := fun e => hne (by rw [e]; rfl)
      obtain ⟨b, rfl, hb, hi, hr⟩ := Hown.out hne'
      have hlj : (marksPt k l.length).length = j := by rw [marksPt_len]; exact Hjl.out
      refine ⟨b, rfl, hb, ?_, by rw [marksPt_len]; exact hr⟩
      rwa [← hlj, List.take_length] at hi

end Go.Proofs.Ytcllgpfnojncoaa
