/- The laws' marks on roads, with what they write: markRoadS, heldRoadS. -/
import Derived.Test.YtlkhgnglblgldaaZ
namespace Go.Proofs.Ytlkhgnglblgldaa
open Go.RowKit Go.Maps

def marksR (k : Int) (n : Nat) : List Rd := (List.range n).map fun (i : Nat) => ⟨k + 3 * (i : Int), k + 3 * (i : Int) + 1, k + 3 * (i : Int) + 2⟩

theorem marksR_len (k : Int) (n : Nat) : (marksR k n).length = n := by simp [marksR]

theorem marksR_at (k : Int) {n i : Nat} (h : i < n) : (marksR k n).getD i rd0 = ⟨k + 3 * (i : Int), k + 3 * (i : Int) + 1, k + 3 * (i : Int) + 2⟩ := by simp [marksR, List.getD, h]

/-- A slice of roads of the call's own, room and all. -/
def OwnRd (w : World) (ad : Option Addr) (l : List Rd) : Prop := l ≠ [] → ∃ b, ad = some ⟨b, 0, none⟩ ∧ b < w.heap.size ∧ RowAt w b 0 l ∧ Room w b (l.length * 3)

def HeldRRel (n : Nat) (k : Int) (w : World) (kv i : Value) (wr : World) : Prop :=
  ∃ j : Nat, j ≤ n ∧ i = .int .i64 j ∧ kv = .int .i64 (k + 3 * j) ∧ wr = w

def MarkRdRel (ad : Option Addr) (l : List Rd) (k : Int) (w : World) (kv i : Value) (wr : World) : Prop :=
  ∃ j : Nat, j ≤ l.length ∧ i = .int .i64 j ∧ kv = .int .i64 (k + 3 * j) ∧ Touch (inBlk ad) w wr ∧ (l ≠ [] → ∃ b, ad = some ⟨b, 0, none⟩ ∧ b < wr.heap.size ∧ RowAt wr b 0 ((marksR k l.length).take j) ∧ Room wr b (l.length * 3))

set_option maxHeartbeats 400000 in
theorem markRoadS_own (ad : Option Addr) (cap : Nat) (l : List Rd) (k : Int) (w : World) (h : OwnRd w ad l) (hl : l.length ≤ 1048576) (h0 : 0 ≤ k) (h9 : k ≤ 9000000) :
    Calls Try.prog 20 #[.slice ad l.length cap, .int .i64 k] w fun e w' => e = .returned (.int .i64 (k + 3 * l.length)) ∧ OwnRd w' ad (marksR k l.length) ∧ Touch (inBlk ad) w w' := by
  have H := Lib.hid h; clear h
  go_enter Try.func20, Try.ntmps20
  go_wp2
  go_loopw [1, 5] (fun kv i wr => MarkRdRel ad l k w kv i wr) (fun _ i _ => l.length - (intOf i).toNat)
  case atStart =>
    refine ⟨0, Nat.zero_le _, rfl, by simp, Touch.refl _ _, fun hne => ?_⟩
    obtain ⟨b, rfl, hb, hi, hr⟩ := H.out hne
    exact ⟨b, rfl, hb, (fun i hi => by simp at hi), hr⟩
  case round =>
    obtain ⟨j, hj, rfl, rfl, ht, hown⟩ := hrel
    by_cases hlt : j < l.length
    · obtain ⟨b, rfl, hb, hi, hr⟩ := hown (by intro h; simp [h] at hlt)
      clear hown
      obtain ⟨u0, e0⟩ := hr.1 (j * 3) (by omega)
      obtain ⟨u1, e1⟩ := hr.1 (j * 3 + 1) (by omega)
      obtain ⟨u2, e2⟩ := hr.1 (j * 3 + 2) (by omega)
      have f0 := hr.2 (j * 3)
      have f1 := hr.2 (j * 3 + 1)
      have f2 := hr.2 (j * 3 + 2)
      have Hi := Lib.hid hi; clear hi
      have Hr := Lib.hid hr; clear hr
      have Ht := Lib.hid ht; clear ht
      have hlt' : (j : Int) < (l.length : Int) := by omega
      go_wp2
      have hk : j < (marksR k l.length).length := by rw [marksR_len]; exact hlt
      have hm := marksR_at k hlt
      refine ⟨⟨j + 1, hlt, by go_num, by go_num, ((Ht.out.setCell ⟨0, rfl⟩ _).setCell ⟨0, rfl⟩ _).setCell ⟨0, rfl⟩ _, fun _ => ⟨b, rfl, by simpa using hb, ?_, ((Hr.out.setCell _ _).setCell _ _).setCell _ _⟩⟩, by simp [intOf]; omega⟩
      exact RowAt.push hk (by rw [marksR_len]; exact Nat.le_refl _) Hi.out Hr.out (by rw [hm]) (by rw [hm]) (by rw [hm]; show k + 3 * (j : Int) + 1 + 1 = k + 3 * (j : Int) + 2; omega)
    · obtain hjl : l.length = j := by omega
      have Hjl := Lib.hid hjl; clear hjl
      have Hown := Lib.hid hown; clear hown
      have Ht := Lib.hid ht; clear ht
      go_wp2
      go_ret
      refine ⟨by rw [Hjl.out]; rfl, fun hne => ?_, Ht.out⟩
      have hne' : l ≠ [] := fun e => hne (by rw [e]; rfl)
      obtain ⟨b, rfl, hb, hi, hr⟩ := Hown.out hne'
      have hlj : (marksR k l.length).length = j := by rw [marksR_len]; exact Hjl.out
      refine ⟨b, rfl, hb, ?_, by rw [marksR_len]; exact hr⟩
      rwa [← hlj, List.take_length] at hi

end Go.Proofs.Ytlkhgnglblgldaa
