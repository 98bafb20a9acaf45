/- The laws' marks on slices of Parcel. -/
import Derived.Test.YtmdcpigobfhckaaFB
namespace Go.Proofs.Ytmdcpigobfhckaa
open Go.RowKit

/-- Room for n of them. -/
def RoomFr (w : World) (ad : Option Addr) (n : Nat) : Prop := 0 < n → ∃ b, ad = some ⟨b, 0, none⟩ ∧ b < w.heap.size ∧ Room w b (n * 3)

def MarkFrRel (ad : Option Addr) (n : Nat) (k : Int) (w : World) (kv i : Value) (wr : World) : Prop :=
  ∃ j : Nat, j ≤ n ∧ i = .int .i64 j ∧ kv = .int .i64 (k + 3 * j) ∧ Touch (inBlk ad) w wr ∧ RoomFr wr ad n

set_option maxHeartbeats 400000 in
theorem markParcelS_any (ad : Option Addr) (cap n : Nat) (k : Int) (w : World) (h : RoomFr w ad n) (hl : n ≤ 1048576) (h0 : 0 ≤ k) (h9 : k ≤ 9000000) :
    Calls Try.prog 29 #[.slice ad n cap, .int .i64 k] w fun e w' => e = .returned (.int .i64 (k + 3 * n)) ∧ Touch (inBlk ad) w w' := by
  have H := Lib.hid h; clear h
  go_enter Try.func29, Try.ntmps29
  go_wp2
  go_loopw [1, 5] (fun kv i wr => MarkFrRel ad n k w kv i wr) (fun _ i _ => n - (intOf i).toNat)
  case atStart => exact ⟨0, Nat.zero_le _, rfl, by simp, Touch.refl _ _, H.out⟩
  case round =>
    obtain ⟨j, hj, rfl, rfl, ht, hown⟩ := hrel
    by_cases hlt : j < n
    · obtain ⟨b, rfl, hb, hr⟩ := hown (by omega)
      clear hown
      obtain ⟨u0, e0⟩ := hr.1 (j * 3) (by omega)
      obtain ⟨u1, e1⟩ := hr.1 (j * 3 + 1) (by omega)
      obtain ⟨u2, e2⟩ := hr.1 (j * 3 + 2) (by omega)
      have f0 := hr.2 (j * 3)
      have f1 := hr.2 (j * 3 + 1)
      have f2 := hr.2 (j * 3 + 2)
      have Hr := Lib.hid hr; clear hr
      have Ht := Lib.hid ht; clear ht
      have hlt' : (j : Int) < (n : Int) := by omega
      go_wp2
      refine ⟨⟨j + 1, hlt, by go_num, by go_num, ((Ht.out.setCell ⟨0, rfl⟩ _).setCell ⟨0, rfl⟩ _).setCell ⟨0, rfl⟩ _, fun _ => ⟨b, rfl, by simpa using hb, ((Hr.out.setCell _ _).setCell _ _).setCell _ _⟩⟩, by simp [intOf]; omega⟩
    · obtain rfl : n = j := by omega
      have Ht := Lib.hid ht; clear ht hown
      go_wp2
      go_ret
      exact ⟨rfl, Ht.out⟩

def marksFr (k : Int) (n : Nat) : List Fr := (List.range n).map fun (i : Nat) => ⟨k + 3 * (i : Int), k + 3 * (i : Int) + 1, k + 3 * (i : Int) + 2⟩

theorem marksFr_len (k : Int) (n : Nat) : (marksFr k n).length = n := by simp [marksFr]

theorem marksFr_at (k : Int) {n i : Nat} (h : i < n) : (marksFr k n).getD i fr0 = ⟨k + 3 * (i : Int), k + 3 * (i : Int) + 1, k + 3 * (i : Int) + 2⟩ := by simp [marksFr, List.getD, h]

def HeldFrRel (n : Nat) (k : Int) (w : World) (kv i : Value) (wr : World) : Prop :=
  ∃ j : Nat, j ≤ n ∧ i = .int .i64 j ∧ kv = .int .i64 (k + 3 * j) ∧ wr = w

set_option maxHeartbeats 400000 in
theorem heldParcelS_any (ad : Option Addr) (cap n : Nat) (k : Int) (w : World) (h : OwnFr w ad (marksFr k n)) (hl : n ≤ 1048576) (h0 : 0 ≤ k) (h9 : k ≤ 9000000) :
    Calls Try.prog 37 #[.slice ad n cap, .int .i64 k] w fun e w' => e = .returned (.int .i64 (k + 3 * n)) ∧ w' = w := by
  have H := Lib.hid h; clear h
  go_enter Try.func37, Try.ntmps37
  go_wp2
  go_loopw [1, 5] (fun kv i wr => HeldFrRel n k w kv i wr) (fun _ i _ => n - (intOf i).toNat)
  case atStart => exact ⟨0, Nat.zero_le _, rfl, by simp, rfl⟩
  case round =>
    obtain ⟨j, hj, rfl, rfl, rfl⟩ := hrel
    by_cases hlt : j < n
    · obtain ⟨b, rfl, hb, hi, hr⟩ := H.out (by intro h; have := marksFr_len k n; rw [h] at this; simp at this; omega)
      have c := hi j (by rw [marksFr_len]; exact hlt)
      rw [Nat.zero_add, marksFr_at k hlt] at c
      obtain ⟨c0, c1, c2⟩ := c
      simp only at c0 c1 c2
      clear hi hr
      have hlt' : (j : Int) < (n : Int) := by omega
      go_wp2
      refine ⟨⟨j + 1, hlt, by go_num, by go_num, rfl⟩, by simp [intOf]; omega⟩
    · obtain rfl : n = j := by omega
      go_wp2
      go_ret
      exact ⟨rfl, rfl⟩

def MarkOFrRel (ad : Option Addr) (l : List Fr) (k : Int) (w : World) (kv i : Value) (wr : World) : Prop :=
  ∃ j : Nat, j ≤ l.length ∧ i = .int .i64 j ∧ kv = .int .i64 (k + 3 * j) ∧ Touch (inBlk ad) w wr ∧ (l ≠ [] → ∃ b, ad = some ⟨b, 0, none⟩ ∧ b < wr.heap.size ∧ FrAt wr b 0 ((marksFr k l.length).take j) ∧ Room wr b (l.length * 3))

set_option maxHeartbeats 400000 in
theorem markParcelS_own (ad : Option Addr) (cap : Nat) (l : List Fr) (k : Int) (w : World) (h : OwnFr w ad l) (hl : l.length ≤ 1048576) (h0 : 0 ≤ k) (h9 : k ≤ 9000000) :
    Calls Try.prog 29 #[.slice ad l.length cap, .int .i64 k] w fun e w' => e = .returned (.int .i64 (k + 3 * l.length)) ∧ OwnFr w' ad (marksFr k l.length) ∧ Touch (inBlk ad) w w' := by
  have H := Lib.hid h; clear h
  go_enter Try.func29, Try.ntmps29
  go_wp2
  go_loopw [1, 5] (fun kv i wr => MarkOFrRel ad l k w kv i wr) (fun _ i _ => l.length - (intOf i).toNat)
  case atStart =>
    refine ⟨0, Nat.zero_le _, rfl, by simp, Touch.refl _ _, fun hne => ?_⟩
    obtain ⟨b, rfl, hb, hi, hr⟩ := H.out hne
    exact ⟨b, rfl, hb, (fun i hi => by simp at hi), hr⟩
  case round =>
    obtain ⟨j, hj, rfl, rfl, ht, hown⟩ := hrel
    by_cases hlt : j < l.length
    · obtain ⟨b, rfl, hb, hi, hr⟩ := hown (by intro h; simp [h] at hlt)
      clear hown
      obtain ⟨u0, e0⟩ := hr.1 (j * 3) (by omega)
      obtain ⟨u1, e1⟩ := hr.1 (j * 3 + 1) (by omega)
      obtain ⟨u2, e2⟩ := hr.1 (j * 3 + 2) (by omega)
      have f0 := hr.2 (j * 3)
      have f1 := hr.2 (j * 3 + 1)
      have f2 := hr.2 (j * 3 + 2)
      have Hi := Lib.hid hi; clear hi
      have Hr := Lib.hid hr; clear hr
      have Ht := Lib.hid ht; clear ht
      have hlt' : (j : Int) < (l.length : Int) := by omega
      go_wp2
      have hk : j < (marksFr k l.length).length := by rw [marksFr_len]; exact hlt
      have hm := marksFr_at k hlt
      refine ⟨⟨j + 1, hlt, by go_num, by go_num, ((Ht.out.setCell ⟨0, rfl⟩ _).setCell ⟨0, rfl⟩ _).setCell ⟨0, rfl⟩ _, fun _ => ⟨b, rfl, by simpa using hb, ?_, ((Hr.out.setCell _ _).setCell _ _).setCell _ _⟩⟩, by simp [intOf]; omega⟩
      exact FrAt.push hk (by rw [marksFr_len]; exact Nat.le_refl _) Hi.out Hr.out (by rw [hm]) (by rw [hm]) (by rw [hm]; show k + 3 * (j : Int) + 1 + 1 = k + 3 * (j : Int) + 2; omega)
    · obtain hjl : l.length = j := by omega
      have Hjl := Lib.hid hjl; clear hjl
      have Hown := Lib.hid hown; clear hown
      have Ht := Lib.hid ht; clear ht
      go_wp2
      go_ret
      refine ⟨by rw [Hjl.out]; rfl, fun hne => ?_, Ht.out⟩
      have hne' : l ≠ [] := fun e => hne (by rw [e]; rfl)
      obtain ⟨b, rfl, hb, hi, hr⟩ := Hown.out hne'
      have hlj : (marksFr k l.length).length = j := by rw [marksFr_len]; exact Hjl.out
      refine ⟨b, rfl, hb, ?_, by rw [marksFr_len]; exact hr⟩
      rwa [← hlj, List.take_length] at hi

end Go.Proofs.Ytmdcpigobfhckaa
