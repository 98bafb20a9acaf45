/- The laws' marks: markIntS, heldIntS, markRoadS, heldRoadS. -/
import Derived.Test.YtlkhgnglblgldaaW1
import Derived.Test.YtlkhgnglblgldaaW3
import Derived.Test.YtlkhgnglblgldaaI
namespace Go.Proofs.Ytlkhgnglblgldaa
open Go.RowKit Go.Maps

/-- The marks from k on. -/
def marksI (k : Int) (n : Nat) : List Int := (List.range n).map fun (i : Nat) => k + (i : Int)

theorem marksI_len (k : Int) (n : Nat) : (marksI k n).length = n := by simp [marksI]

theorem marksI_at (k : Int) {n i : Nat} (h : i < n) : (marksI k n).getD i 0 = k + i := by simp [marksI, List.getD, h]

/-- A slice of ints of the call's own, room and all. -/
def OwnI (w : World) (ad : Option Addr) (l : List Int) : Prop := l ≠ [] → ∃ b, ad = some ⟨b, 0, none⟩ ∧ b < w.heap.size ∧ IntAt w b 0 l ∧ Room w b l.length

def MarkIRel (ad : Option Addr) (l : List Int) (k : Int) (w : World) (kv i : Value) (wr : World) : Prop :=
  ∃ j : Nat, j ≤ l.length ∧ i = .int .i64 j ∧ kv = .int .i64 (k + j) ∧ Touch (inBlk ad) w wr ∧ (l ≠ [] → ∃ b, ad = some ⟨b, 0, none⟩ ∧ b < wr.heap.size ∧ IntAt wr b 0 ((marksI k l.length).take j) ∧ Room wr b l.length)

set_option maxHeartbeats 400000 in
theorem markIntS_any (ad : Option Addr) (cap : Nat) (l : List Int) (k : Int) (w : World) (h : OwnI w ad l) (hl : l.length ≤ 1048576) (h0 : 0 ≤ k) (h9 : k ≤ 9000000) :
    Calls Try.prog 21 #[.slice ad l.length cap, .int .i64 k] w fun e w' => e = .returned (.int .i64 (k + l.length)) ∧ OwnI w' ad (marksI k l.length) ∧ Touch (inBlk ad) w w' := by
  have H := Lib.hid h; clear h
  go_enter Try.func21, Try.ntmps21
  go_wp2
  go_loopw [1, 5] (fun kv i wr => MarkIRel ad l k w kv i wr) (fun _ i _ => l.length - (intOf i).toNat)
  case atStart =>
    refine ⟨0, Nat.zero_le _, rfl, by simp, Touch.refl _ _, fun hne => ?_⟩
    obtain ⟨b, rfl, hb, hi, hr⟩ := H.out hne
    exact ⟨b, rfl, hb, (fun i hi => by simp at hi), hr⟩
  case round =>
    obtain ⟨j, hj, rfl, rfl, ht, hown⟩ := hrel
    by_cases hlt : j < l.length
    · obtain ⟨b, rfl, hb, hi, hr⟩ := hown (by intro h; simp [h] at hlt)
      clear hown
      obtain ⟨u0, e0⟩ := hr.1 j hlt
      have f0 := hr.2 j
      have Hi := Lib.hid hi; clear hi
      have Hr := Lib.hid hr; clear hr
      have Ht := Lib.hid ht; clear ht
      have hlt' : (j : Int) < (l.length : Int) := by omega
      go_wp2
      have hk : j < (marksI k l.length).length := by rw [marksI_len]; exact hlt
      refine ⟨⟨j + 1, hlt, by go_num, by go_num, Ht.out.setCell ⟨0, rfl⟩ _, fun _ => ⟨b, rfl, by simpa using hb, ?_, Hr.out.setCell _ _⟩⟩, by simp [intOf]; omega⟩
      exact IntAt.push hk (by rw [marksI_len]; exact Nat.le_refl _) Hi.out Hr.out (marksI_at k hlt).symm
    · obtain hjl : l.length = j := by omega
      have Hjl := Lib.hid hjl; clear hjl
      have Hown := Lib.hid hown; clear hown
      have Ht := Lib.hid ht; clear ht
      go_wp2
      go_ret
      refine ⟨by rw [Hjl.out]; rfl, fun hne => ?_, Ht.out⟩
      have hne' : l ≠ [] := fun e => hne (by rw [e]; rfl)
      obtain ⟨b, rfl, hb, hi, hr⟩ := Hown.out hne'
      have hlj : (marksI k l.length).length = j := by rw [marksI_len]; exact Hjl.out
      refine ⟨b, rfl, hb, ?_, by rw [marksI_len]; exact hr⟩
      rwa [← hlj, List.take_length] at hi

def HeldRel (n : Nat) (k : Int) (w : World) (kv i : Value) (wr : World) : Prop :=
  ∃ j : Nat, j ≤ n ∧ i = .int .i64 j ∧ kv = .int .i64 (k + j) ∧ wr = w

set_option maxHeartbeats 400000 in
theorem heldIntS_any (ad : Option Addr) (cap n : Nat) (k : Int) (w : World) (h : OwnI w ad (marksI k n)) (hl : n ≤ 1048576) (h0 : 0 ≤ k) (h9 : k ≤ 9000000) :
    Calls Try.prog 22 #[.slice ad n cap, .int .i64 k] w fun e w' => e = .returned (.int .i64 (k + n)) ∧ w' = w := by
  have H := Lib.hid h; clear h
  go_enter Try.func22, Try.ntmps22
  go_wp2
  go_loopw [1, 5] (fun kv i wr => HeldRel n k w kv i wr) (fun _ i _ => n - (intOf i).toNat)
  case atStart => exact ⟨0, Nat.zero_le _, rfl, by simp, rfl⟩
  case round =>
    obtain ⟨j, hj, rfl, rfl, rfl⟩ := hrel
    by_cases hlt : j < n
    · obtain ⟨b, rfl, hb, hi, hr⟩ := H.out (by intro h; have := marksI_len k n; rw [h] at this; simp at this; omega)
      have c0 := hi j (by rw [marksI_len]; exact hlt)
      rw [Nat.zero_add, marksI_at k hlt] at c0
      clear hi hr
      have hlt' : (j : Int) < (n : Int) := by omega
      go_wp2
      refine ⟨⟨j + 1, hlt, by go_num, by go_num, rfl⟩, by simp [intOf]; omega⟩
    · obtain rfl : n = j := by omega
      go_wp2
      go_ret
      exact ⟨rfl, rfl⟩

/-- Room for n roads. -/
def OwnR (w : World) (ad : Option Addr) (n : Nat) : Prop := 0 < n → ∃ b, ad = some ⟨b, 0, none⟩ ∧ b < w.heap.size ∧ Room w b (n * 3)

def MarkRRel (ad : Option Addr) (n : Nat) (k : Int) (w : World) (kv i : Value) (wr : World) : Prop :=
  ∃ j : Nat, j ≤ n ∧ i = .int .i64 j ∧ kv = .int .i64 (k + 3 * j) ∧ Touch (inBlk ad) w wr ∧ OwnR wr ad n

set_option maxHeartbeats 400000 in
theorem markRoadS_any (ad : Option Addr) (cap n : Nat) (k : Int) (w : World) (h : OwnR w ad n) (hl : n ≤ 1048576) (h0 : 0 ≤ k) (h9 : k ≤ 9000000) :
    Calls Try.prog 20 #[.slice ad n cap, .int .i64 k] w fun e w' => e = .returned (.int .i64 (k + 3 * n)) ∧ Touch (inBlk ad) w w' := by
  have H := Lib.hid h; clear h
  go_enter Try.func20, Try.ntmps20
  go_wp2
  go_loopw [1, 5] (fun kv i wr => MarkRRel ad n k w kv i wr) (fun _ i _ => n - (intOf i).toNat)
  case atStart => exact ⟨0, Nat.zero_le _, rfl, by simp, Touch.refl _ _, H.out⟩
  case round =>
    obtain ⟨j, hj, rfl, rfl, ht, hown⟩ := hrel
    by_cases hlt : j < n
    · obtain ⟨b, rfl, hb, hr⟩ := hown (by omega)
      clear hown
      obtain ⟨u0, e0⟩ := hr.1 (j * 3) (by omega)
      obtain ⟨u1, e1⟩ := hr.1 (j * 3 + 1) (by omega)
      obtain ⟨u2, e2⟩ := hr.1 (j * 3 + 2) (by omega)
      have f0 := hr.2 (j * 3)
      have f1 := hr.2 (j * 3 + 1)
      have f2 := hr.2 (j * 3 + 2)
      have Hr := Lib.hid hr; clear hr
      have Ht := Lib.hid ht; clear ht
      have hlt' : (j : Int) < (n : Int) := by omega
      go_wp2
      refine ⟨⟨j + 1, hlt, by go_num, by go_num, ((Ht.out.setCell ⟨0, rfl⟩ _).setCell ⟨0, rfl⟩ _).setCell ⟨0, rfl⟩ _, fun _ => ⟨b, rfl, by simpa using hb, ((Hr.out.setCell _ _).setCell _ _).setCell _ _⟩⟩, by simp [intOf]; omega⟩
    · obtain rfl : n = j := by omega
      have Ht := Lib.hid ht; clear ht hown
      go_wp2
      go_ret
      exact ⟨rfl, Ht.out⟩

end Go.Proofs.Ytlkhgnglblgldaa
