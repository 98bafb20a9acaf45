/- Heaps of awayTeam: sink. -/
import Derived.Test.YtmcapcclnkicbabVAP
namespace Go.Proofs.Ytmcapcclnkicbab
open Go.RowKit

def SinkAOut (F1 g cap : Nat) (l : List Pl) (w : World) (e : Ending) (w' : World) : Prop :=
  e = .returned (.tuple #[]) ∧ ∃ l', HeapTo l' l'.length ∧ l'.Perm l ∧ RowA w' F1 g cap l' ∧ Touch (fun k => k = g) w w'

def SinkARel (F1 g cap : Nat) (l : List Pl) (w : World) (av : Value) (wr : World) : Prop :=
  ∃ (l' : List Pl) (j : Nat), av = .int .i64 j ∧ DownOk l' l'.length j ∧ l'.Perm l ∧ j ≤ l'.length ∧ RowA wr F1 g cap l' ∧ Touch (fun k => k = g) w wr

def SinkAIn (F1 g cap : Nat) (l' : List Pl) (j : Nat) (w : World) (nv kv : Value) (wr : World) : Prop :=
  ∃ nx k : Nat, nv = .int .i64 nx ∧ kv = .int .i64 k ∧ NextOk l' l'.length j nx k ∧ RowA wr F1 g cap l' ∧ Touch (fun k => k = g) w wr

set_option maxRecDepth 100000 in
set_option maxHeartbeats 2000000 in
theorem sinkA_any (F1 g cap X : Nat) (l : List Pl) (w : World) (hx : w.cell? ⟨X, 0, none⟩ = some (.slice (some ⟨g, 0, none⟩) l.length cap)) (hl : l.length ≤ 100) (h : RowA w F1 g cap l) (hup : DownOk l l.length 0) (hgx : g ≠ X) :
    Calls Try.prog 44 #[.pointer (some ⟨X, 0, none⟩), .int .i64 0] w (SinkAOut F1 g cap l w) := by
  have hX := World.block_lt_of_cell? _ _ hx
  have Hx := Lib.hid hx; clear hx
  have Hup := Lib.hid hup; clear hup
  have H := Lib.hid h; clear h
  go_enter Try.func44, Try.ntmps44
  go_wp2
  go_loopw [1] (fun av wr => SinkARel F1 g cap l w av wr) (fun a _ => l.length - (intOf a).toNat)
  case atStart => exact ⟨l, 0, rfl, Hup.out, List.Perm.refl _, Nat.zero_le _, H.out, Touch.refl _ _⟩
  case round =>
    obtain ⟨l', j, rfl, hup, hperm, hj, hrow, ht⟩ := hrel
    have hlen := hperm.length_eq
    have Hp := Lib.hid hperm
    have Hr0 := Lib.hid hrow
    have Ht0 := Lib.hid ht
    have Hup2 := Lib.hid hup
    have Hlen := Lib.hid hlen
    have hjl : j ≤ l.length := by omega
    have hj0 : (0 : Int) ≤ (j : Int) := Int.natCast_nonneg _
    have hj1 : (j : Int) ≤ 100 := by omega
    obtain ⟨wo, rfl⟩ : ∃ wo : World, wo = wr := ⟨_, rfl⟩
    clear hup hperm hj hrow ht hlen
    go_wp2
    go_loopw [4, 5] (fun nv kv wr => SinkAIn F1 g cap l' j w nv kv wr) (fun _ k _ => 2 * j + 3 - (intOf k).toNat)
    case atStart => exact ⟨j, 2 * j + 1, rfl, by go_num, NextOk.start l' l'.length j, Hr0.out, Ht0.out⟩
    case round =>
      obtain ⟨nx, k, rfl, rfl, hnx, hrow, ht⟩ := hrel
      have hx : wr.cell? ⟨X, 0, none⟩ = some (.slice (some ⟨g, 0, none⟩) l.length cap) := (ht.cell hX (Ne.symm hgx)).trans Hx.out
      obtain ⟨hk1, hk2, hnx1⟩ := hnx.bounds
      by_cases hgo : k ≤ 2 * j + 2 ∧ k < l.length
      · obtain ⟨hk3, hk4⟩ := hgo
        have hkl : k < l'.length := by rw [Hlen.out]; exact hk4
        have hjl' : j < l'.length := by omega
        have hnl : nx < l'.length := by rcases hnx1 with h | h <;> omega
        obtain ⟨c0, c1, _, _⟩ := hrow.cells (i := k) (by omega)
        obtain ⟨d0, d1, _, _⟩ := hrow.cells (i := nx) (by omega)
        have e0 : farAt l' k = (l'.getD k pl0).2 := rfl
        have e1 : farAt l' nx = (l'.getD nx pl0).2 := rfl
        have Hyes := Lib.hid (fun (hd : farAt l' k < farAt l' nx) => hnx.yes hk3 hkl hd)
        have Hno := Lib.hid (fun (hd : ¬ farAt l' k < farAt l' nx) => hnx.no hd hk3)
        rw [e0, e1] at Hyes Hno
        have Hr := Lib.hid hrow
        have Ht := Lib.hid ht
        have q0 : (0 : Int) ≤ (k : Int) := Int.natCast_nonneg _
        have q1 : (k : Int) < (l.length : Int) := by omega
        have q2 : (0 : Int) ≤ (nx : Int) := Int.natCast_nonneg _
        have q3 : (nx : Int) < (l.length : Int) := by have := Hlen.out; omega
        have q4 : (k : Int) ≤ 2 * (j : Int) + 2 := by omega
        have q5 : nx < l.length := by have := Hlen.out; omega
        clear hnx hrow ht e0 e1 hkl hjl' hnl hnx1 hk1 hk2
        generalize (l'.getD k pl0).1 = x0 at *
        generalize (l'.getD k pl0).2 = x1 at *
        generalize (l'.getD nx pl0).1 = y0 at *
        generalize (l'.getD nx pl0).2 = y1 at *
        have hm : ∀ w, (method 193 64 (.agg #[.int .i64 x0, .int .i64 x1]) "loop.example/mailcoaches/impl.ahead").run Try.prog w = .ok (63, .agg #[.int .i64 x0, .int .i64 x1]) w := fun _ => by kernel_rfl
        have hn : ∀ w, (nilAhead 193 64 (.agg #[.int .i64 x0, .int .i64 x1]) "loop.example/mailcoaches/impl.ahead").run Try.prog w = .ok (some false) w := fun _ => by kernel_rfl
        by_cases hq : x1 < y1
        · have hd : decide (x1 < y1) = true := by simpa using hq
          have Hu := Lib.hid (Hyes.out hq)
          clear hq
          go_wp2_with fail
          go_region_held3 (fun w' => w'.cell? ⟨X, 0, none⟩ = some (.slice (some ⟨g, 0, none⟩) l.length cap) ∧ w'.cell? ⟨g, k * 2, none⟩ = some (.int .i64 x0) ∧ w'.cell? ⟨g, k * 2 + 1, none⟩ = some (.int .i64 x1) ∧ w'.cell? ⟨g, nx * 2, none⟩ = some (.int .i64 y0) ∧ w'.cell? ⟨g, nx * 2 + 1, none⟩ = some (.int .i64 y1)) (first | (go_keep; done) | (go_split_ands; refine ⟨keepCell hb1 ?_, keepCell hb1 ?_, keepCell hb1 ?_, keepCell hb1 ?_, keepCell hb1 ?_⟩ <;> first | assumption | (go_simp; done)))
            (first | (go_at_call 63; refine (aheadA_is _ _ _ _ _ hd).mono ?_; rintro e w1 ⟨rfl, hb1⟩))
          have hbel : Below wr.heap.size wr w1 := ((Below.refl _ _).drew).trans (hb1.mono (Nat.le_refl _))
          go_wp2
          exact ⟨⟨k, k + 1, rfl, by go_num, Hu.out, Hr.out.below hbel, Ht.out.bel hbel⟩, by simp [intOf]; omega⟩
        · have hd : decide (x1 < y1) = false := by simpa using hq
          have Hu := Lib.hid (Hno.out hq)
          clear hq
          go_wp2_with fail
          go_region_held3 (fun w' => w'.cell? ⟨X, 0, none⟩ = some (.slice (some ⟨g, 0, none⟩) l.length cap) ∧ w'.cell? ⟨g, k * 2, none⟩ = some (.int .i64 x0) ∧ w'.cell? ⟨g, k * 2 + 1, none⟩ = some (.int .i64 x1) ∧ w'.cell? ⟨g, nx * 2, none⟩ = some (.int .i64 y0) ∧ w'.cell? ⟨g, nx * 2 + 1, none⟩ = some (.int .i64 y1)) (first | (go_keep; done) | (go_split_ands; refine ⟨keepCell hb1 ?_, keepCell hb1 ?_, keepCell hb1 ?_, keepCell hb1 ?_, keepCell hb1 ?_⟩ <;> first | assumption | (go_simp; done)))
            (first | (go_at_call 63; refine (aheadA_is _ _ _ _ _ hd).mono ?_; rintro e w1 ⟨rfl, hb1⟩))
          have hbel : Below wr.heap.size wr w1 := ((Below.refl _ _).drew).trans (hb1.mono (Nat.le_refl _))
          go_wp2
          exact ⟨⟨nx, k + 1, rfl, by go_num, Hu.out, Hr.out.below hbel, Ht.out.bel hbel⟩, by simp [intOf]; omega⟩
      · have Hgo := Lib.hid hgo
        have Hr := Lib.hid hrow
        have Ht := Lib.hid ht
        have Hnx := Lib.hid hnx
        have q0 : (0 : Int) ≤ (k : Int) := Int.natCast_nonneg _
        have hend : nx = j ∧ HeapTo l' l'.length ∨ (j < nx ∧ nx < l'.length ∧ DownOk (swapL l' j nx) l'.length nx) :=
          hnx.finish Hup2.out (by rw [Hlen.out]; exact hgo) (Nat.le_refl _)
        clear hnx hrow ht hnx1 hgo
        have hcut : decide ((k : Int) ≤ 2 * (j : Int) + 2) = true ∧ ((l.length : Int) ≤ (k : Int)) ∨ decide ((k : Int) ≤ 2 * (j : Int) + 2) = false := by
          by_cases h : k ≤ 2 * j + 2
          · exact .inl ⟨by simp only [decide_eq_true_eq]; omega, by have := Hgo.out; omega⟩
          · exact .inr (by simp only [decide_eq_false_iff_not]; omega)
        rcases hend with ⟨rfl, hheap⟩ | ⟨h1, h2, hdown⟩
        · have Hheap := Lib.hid hheap
          clear hheap hk1 hk2
          rcases hcut with ⟨hd1, hd2⟩ | hd1
          all_goals
            go_wp2
            go_end0
            exact ⟨rfl, l', Hheap.out, Hp.out, Hr.out, Ht.out⟩
        · have Hdown := Lib.hid hdown
          have hne : ((nx : Int) == (j : Int)) = false := by rw [beq_eq_false_iff_ne]; omega
          have hne2 : (nx == j) = false := by rw [beq_eq_false_iff_ne]; omega
          have H1 := Lib.hid h1
          have H2 := Lib.hid h2
          clear hdown hk1 hk2 h1 h2
          rcases hcut with ⟨hd1, hd2⟩ | hd1
          all_goals
            go_wp2_with fail
            refine (swapA_any F1 g cap X l' j nx _ (by rw [Hlen.out]; exact hx) Hr.out (by have := H1.out; have := H2.out; omega) H2.out hgx).mono ?_; rintro e w2 ⟨rfl, hr2, ht2⟩
            have hlen2 := swapL_length l' j nx
            have Hp2 := Lib.hid ((swapL_perm l' (i := j) (j := nx) (by have := H1.out; have := H2.out; omega) H2.out).trans Hp.out)
            have Ht2 := Lib.hid (Ht.out.trans ht2)
            have Hr2 := Lib.hid hr2
            have Hl2 := Lib.hid hlen2
            clear hr2 ht2 hlen2
            go_wp2
            exact ⟨⟨swapL l' j nx, nx, rfl, by rw [Hl2.out]; exact Hdown.out, Hp2.out, by rw [Hl2.out]; have := H2.out; omega, Hr2.out, Ht2.out⟩, by simp [intOf]; have := H1.out; have := H2.out; have := Hlen.out; omega⟩

end Go.Proofs.Ytmcapcclnkicbab
