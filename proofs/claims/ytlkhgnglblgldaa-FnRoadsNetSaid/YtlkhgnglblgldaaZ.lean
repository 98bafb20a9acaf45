/- The laws' marks: markIntS, heldIntS, markRoadS, heldRoadS. -/
import Derived.Test.YtlkhgnglblgldaaW1
import Derived.Test.YtlkhgnglblgldaaW3
import Derived.Test.YtlkhgnglblgldaaI
import Derived.Test.YtlkhgnglblgldaaIZ
namespace Go.Proofs.Ytlkhgnglblgldaa
open Go.RowKit Go.Maps

/-- Room for n roads. -/
def OwnR (w : World) (ad : Option Addr) (n : Nat) : Prop := 0 < n → ∃ b, ad = some ⟨b, 0, none⟩ ∧ b < w.heap.size ∧ Room w b (n * 3)

def MarkRRel (ad : Option Addr) (n : Nat) (k : Int) (w : World) (kv i : Value) (wr : World) : Prop :=
  ∃ j : Nat, j ≤ n ∧ i = .int .i64 j ∧ kv = .int .i64 (k + 3 * j) ∧ Touch (inBlk ad) w wr ∧ OwnR wr ad n

set_option maxHeartbeats 400000 in
theorem markRoadS_any (ad : Option Addr) (cap n : Nat) (k : Int) (w : World) (h : OwnR w ad n) (hl : n ≤ 1048576) (h0 : 0 ≤ k) (h9 : k ≤ 9000000) :
    Calls Try.prog 20 #[.slice ad n cap, .int .i64 k] w fun e w' => e = .returned (.int .i64 (k + 3 * n)) ∧ Touch (inBlk ad) w w' := by
  have H := Lib.hid h; clear h
  go_enter Try.func20, Try.ntmps20
  go_wp2
  go_loopw [1, 5] (fun kv i wr => MarkRRel ad n k w kv i wr) (fun _ i _ => n - (intOf i).toNat)
  case atStart => exact ⟨0, Nat.zero_le _, rfl, by simp, Touch.refl _ _, H.out⟩
  case round =>
    obtain ⟨j, hj, rfl, rfl, ht, hown⟩ := hrel
    by_cases hlt : j < n
    · obtain ⟨b, rfl, hb, hr⟩ := hown (by omega)
      clear hown
      obtain ⟨u0, e0⟩ := hr.1 (j * 3) (by omega)
      obtain ⟨u1, e1⟩ := hr.1 (j * 3 + 1) (by omega)
      obtain ⟨u2, e2⟩ := hr.1 (j * 3 + 2) (by omega)
      have f0 := hr.2 (j * 3)
      have f1 := hr.2 (j * 3 + 1)
      have f2 := hr.2 (j * 3 + 2)
      have Hr := Lib.hid hr; clear hr
      have Ht := Lib.hid ht; clear ht
      have hlt' : (j : Int) < (n : Int) := by omega
      go_wp2
      refine ⟨⟨j + 1, hlt, by go_num, by go_num, ((Ht.out.setCell ⟨0, rfl⟩ _).setCell ⟨0, rfl⟩ _).setCell ⟨0, rfl⟩ _, fun _ => ⟨b, rfl, by simpa using hb, ((Hr.out.setCell _ _).setCell _ _).setCell _ _⟩⟩, by simp [intOf]; omega⟩
    · obtain rfl : n = j := by omega
      have Ht := Lib.hid ht; clear ht hown
      go_wp2
      go_ret
      exact ⟨rfl, Ht.out⟩

end Go.Proofs.Ytlkhgnglblgldaa
