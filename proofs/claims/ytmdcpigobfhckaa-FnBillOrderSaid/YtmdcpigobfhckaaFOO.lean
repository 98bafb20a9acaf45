/- BillOrder of the program, of whatever slice. -/
import Derived.Test.YtmdcpigobfhckaaFOR
namespace Go.Proofs.Ytmdcpigobfhckaa
open Go.RowKit Go.Sort

set_option maxHeartbeats 400000 in
theorem cloneFr_none (cap : Nat) (w : World) :
    Calls Try.prog 80 #[.slice none 0 cap] w (CpFrOut [] w) := by
  have hq := fun (w : World) (a : Option Addr) (n c : Nat) => Lib.run_eql_slice_nil (P := Try.prog) w 25 41 a n c 0 0 Try.underlying25
  go_enter Try.func80, Try.ntmps80
  go_wp2
  go_ret
  exact ⟨_, rfl, ⟨rfl, .inl ⟨rfl, rfl⟩⟩, Below.refl _ _⟩
theorem cloneFrO_any (ad : Option Addr) (cap : Nat) (l : List Fr) (w : World) (hv : FrIn w (.slice ad l.length cap) l) (hlr : l.length ≤ 1048576) :
    Calls Try.prog 80 #[.slice ad l.length cap] w (CpFrOut l w) := by
  cases ad with
  | some ad => exact cloneFr_any ad cap l w hv hlr
  | none =>
    have hl : l = [] := by
      rcases Nat.eq_zero_or_pos l.length with h | h
      · exact List.eq_nil_of_length_eq_zero h
      · obtain ⟨a, c, e, _, ha⟩ := hv
        injection e with e1
        subst e1
        obtain ⟨b, o, e2, _⟩ := ha (by rintro rfl; simp at h)
        cases e2
    subst hl
    exact cloneFr_none cap w

set_option maxRecDepth 100000 in
set_option maxHeartbeats 1000000 in
theorem order2O_any (n : Int) (ad : Option Addr) (cap : Nat) (l : List Fr) (w : World) (hv : FrIn w (.slice ad l.length cap) l) (hl : l.length ≤ 1048576) :
    Calls Try.prog 47 #[.int .i64 n, .slice ad l.length cap] w (FrOut (orderX n l) (validF n l) w) := by
  have HV := Lib.hid (bill2_any n _ l w hv (by omega))
  have HVl := Lib.hid (fun w' (h : Below w.heap.size w w') => hv.below h)
  clear hv
  cases hz : validF n l with
  | false =>
    rw [orderX_no hz]
    rw [hz] at HV
    clear hz
    go_enter Try.func47, Try.ntmps47
    go_wp2_with fail
    refine HV.out.mono ?_; rintro e w1 ⟨rfl, hb1⟩
    have HB := Lib.hid hb1
    clear hb1
    go_wp2
    go_ret2
    exact (FrRow.no HB.out.size HB.out).out
  | true =>
    have hx := orderX_yes hz
    obtain ⟨⟨hn1, hn7⟩, hl12⟩ := headF_iff.1 (valid_head hz)
    have ho := valid_ok hz
    rw [hz] at HV
    obtain ⟨N, rfl⟩ : ∃ N : Nat, n = N := ⟨n.toNat, by omega⟩
    rw [Int.toNat_natCast] at hx
    have Hx := Lib.hid (show orderX N l = rowsF l (ordF l N) from hx)
    have Hxl := Lib.hid (show (rowsF l (ordF l N)).length = l.length by rw [rowsF_len, ordF_length ho])
    have Ho := Lib.hid ho
    clear hz hx ho
    go_enter Try.func47, Try.ntmps47
    go_wp2_with fail
    refine HV.out.mono ?_; rintro e w1 ⟨rfl, hb1⟩
    have HB := Lib.hid hb1
    clear hb1
    go_wp2_with fail
    refine (cloneFrO_any ad cap l w1 (HVl.out _ HB.out) hl).mono ?_; rintro e w2 ⟨v, rfl, hrow, hb2⟩
    have HB2 := Lib.hid (HB.out.trans (hb2.mono HB.out.size))
    obtain ⟨ad2, cap2, rfl, hcap2, hown, hblk⟩ := hrow.row
    have Hcap2 := Lib.hid hcap2
    have Hblk := Lib.hid (fun j hj => (show w.heap.size ≤ j ∧ j < w2.heap.size from ⟨Nat.le_trans HB.out.size (hblk j hj).1, (hblk j hj).2⟩))
    have hS : Calls Try.prog 81 #[.slice ad2 l.length cap2, .func (.func 82) #[] #[]] w2 fun e w' => e = .returned (.tuple #[]) ∧ (OwnFr w' ad2 (rowsF l (ordF l N)) ∧ Below w.heap.size w w' ∧ w2.heap.size ≤ w'.heap.size) := by
      refine sortStableP_any _ ad2 l.length cap2 w2 (fun w' => OwnFr w' ad2 (rowsF l (ordF l N)) ∧ Below w.heap.size w w' ∧ w2.heap.size ≤ w'.heap.size) (by omega) ?_
      rcases Nat.eq_zero_or_pos l.length with h0 | h0
      · rw [h0]
        refine (insertP_none _ _ ad2 cap2 w2 rfl).mono ?_
        rintro e w' ⟨rfl, rfl⟩
        refine ⟨rfl, fun hne => ?_, HB2.out, Nat.le_refl _⟩
        exact absurd (List.eq_nil_of_length_eq_zero (by rw [Hxl.out, h0])) hne
      · obtain ⟨b, rfl, hbl, hat, hroom⟩ := hown (by rintro rfl; simp at h0)
        have hbw := (Hblk.out b ⟨0, rfl⟩).1
        refine (insertP_any b cap2 (l.length - 1) N l w2 (by omega) hl12 Ho.out hbl hat hroom.2).mono ?_
        rintro e w' ⟨rfl, h1, h2, h3⟩
        exact ⟨rfl, fun _ => ⟨b, rfl, Nat.lt_of_lt_of_le hbl h3.size, h1, room_at h1 h2⟩, HB2.out.trans ((h3.below (B := w.heap.size) (fun j hj => by omega) HB2.out.size)), h3.size⟩
    have HS := Lib.hid hS
    clear hrow hb2 hown hblk hS hcap2
    generalize hlen : l.length = len at *
    go_wp2_with fail
    refine HS.out.mono ?_; rintro e w3 ⟨rfl, hown3, hb3, hsz3⟩
    have HF := Lib.hid (show FrOut (orderX N l) true w (.returned (.tuple #[.slice ad2 len cap2, .bool true])) w3 by
      rw [Hx.out]
      exact ⟨ad2, cap2, by rw [Hxl.out], by rw [Hxl.out]; exact Hcap2.out, hown3, fun j hj => ⟨(Hblk.out j hj).1, Nat.lt_of_lt_of_le (Hblk.out j hj).2 hsz3⟩, hb3⟩)
    clear hown3 hb3 hsz3
    go_wp2
    go_ret2
    exact HF.out

end Go.Proofs.Ytmdcpigobfhckaa
