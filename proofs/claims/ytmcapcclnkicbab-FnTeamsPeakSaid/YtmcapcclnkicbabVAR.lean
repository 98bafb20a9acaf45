/- Heaps of awayTeam: rise, push. -/
import Derived.Test.YtmcapcclnkicbabVAS
import Derived.Test.YtmcapcclnkicbabQW
namespace Go.Proofs.Ytmcapcclnkicbab
open Go.RowKit

def RiseAOut (F1 g cap : Nat) (l : List Pl) (w : World) (e : Ending) (w' : World) : Prop :=
  e = .returned (.tuple #[]) ∧ ∃ l', HeapTo l' l'.length ∧ l'.Perm l ∧ RowA w' F1 g cap l' ∧ Touch (fun k => k = g) w w'

def RiseARel (F1 g cap : Nat) (l : List Pl) (w : World) (av : Value) (wr : World) : Prop :=
  ∃ (l' : List Pl) (j : Nat), av = .int .i64 j ∧ UpOk l' l'.length j ∧ l'.Perm l ∧ j < l'.length ∧ RowA wr F1 g cap l' ∧ Touch (fun k => k = g) w wr

set_option maxRecDepth 100000 in
set_option maxHeartbeats 1000000 in
theorem riseA_any (F1 g cap X : Nat) (l : List Pl) (j : Nat) (w : World) (hx : w.cell? ⟨X, 0, none⟩ = some (.slice (some ⟨g, 0, none⟩) l.length cap)) (hl : l.length ≤ 100) (h : RowA w F1 g cap l) (hj : j < l.length) (hup : UpOk l l.length j) (hgx : g ≠ X) :
    Calls Try.prog 47 #[.pointer (some ⟨X, 0, none⟩), .int .i64 j] w (RiseAOut F1 g cap l w) := by
  have hX := World.block_lt_of_cell? _ _ hx
  have Hx := Lib.hid hx; clear hx
  have Hup := Lib.hid hup; clear hup
  have H := Lib.hid h; clear h
  go_enter Try.func47, Try.ntmps47
  go_wp2
  go_loopw [1] (fun av wr => RiseARel F1 g cap l w av wr) (fun a _ => (intOf a).toNat)
  case atStart => exact ⟨l, j, rfl, Hup.out, List.Perm.refl _, hj, H.out, Touch.refl _ _⟩
  case round =>
    obtain ⟨l', j, rfl, hup, hperm, hj, hrow, ht⟩ := hrel
    have hlen := hperm.length_eq
    have hx : wr.cell? ⟨X, 0, none⟩ = some (.slice (some ⟨g, 0, none⟩) l.length cap) := (ht.cell hX (Ne.symm hgx)).trans Hx.out
    by_cases h0 : j = 0
    · subst h0
      have Hf := Lib.hid (hup.done (.inl rfl))
      have Hp := Lib.hid hperm
      have Hr := Lib.hid hrow
      have Ht := Lib.hid ht
      clear hup hperm hrow ht hlen
      go_wp2
      go_end0
      exact ⟨rfl, l', Hf.out, Hp.out, Hr.out, Ht.out⟩
    · obtain ⟨a, ha⟩ : ∃ a, (j - 1) / 2 = a := ⟨_, rfl⟩
      have haj : a < j := by omega
      have hal : a < l'.length := by omega
      obtain ⟨c0, c1, _, _⟩ := hrow.cells (i := j) (by omega)
      obtain ⟨d0, d1, _, _⟩ := hrow.cells (i := a) (by omega)
      have e0 : farAt l' j = (l'.getD j pl0).2 := rfl
      have e1 : farAt l' a = (l'.getD a pl0).2 := rfl
      have Hdone := Lib.hid (fun (hd : farAt l' a ≤ farAt l' j) => hup.done (.inr (by rw [ha]; exact hd)))
      have Hstep := Lib.hid (fun (hd : farAt l' j < farAt l' a) => hup.step (Nat.le_refl _) (by omega) hj (by rw [ha]; exact hd))
      rw [ha] at Hstep
      rw [e0, e1] at Hdone Hstep
      have hdiv : ((j : Int) - 1) / 2 = (a : Int) := by omega
      have hj0 : (0 : Int) < (j : Int) := by omega
      have hj1 : (j : Int) < (l.length : Int) := by omega
      have ha0 : (0 : Int) ≤ (a : Int) := Int.natCast_nonneg _
      have ha1 : (a : Int) < (l.length : Int) := by omega
      have Hp := Lib.hid hperm
      have Hr := Lib.hid hrow
      have Ht := Lib.hid ht
      have Hlen := Lib.hid hlen
      have Hj := Lib.hid hj
      clear hup hperm hrow ht hlen e0 e1 h0 ha hj hal
      generalize (l'.getD j pl0).1 = x0 at *
      generalize (l'.getD j pl0).2 = x1 at *
      generalize (l'.getD a pl0).1 = y0 at *
      generalize (l'.getD a pl0).2 = y1 at *
      have hm : ∀ w, (method 193 64 (.agg #[.int .i64 x0, .int .i64 x1]) "loop.example/mailcoaches/impl.ahead").run Try.prog w = .ok (63, .agg #[.int .i64 x0, .int .i64 x1]) w := fun _ => by kernel_rfl
      have hn : ∀ w, (nilAhead 193 64 (.agg #[.int .i64 x0, .int .i64 x1]) "loop.example/mailcoaches/impl.ahead").run Try.prog w = .ok (some false) w := fun _ => by kernel_rfl
      by_cases hq : x1 < y1
      · have hd : decide (x1 < y1) = true := by simpa using hq
        have Hu := Lib.hid (Hstep.out hq)
        clear hq
        go_wp2_with fail
        rw [hdiv]
        go_region_held3 (fun w' => w'.cell? ⟨X, 0, none⟩ = some (.slice (some ⟨g, 0, none⟩) l.length cap) ∧ w'.cell? ⟨g, j * 2, none⟩ = some (.int .i64 x0) ∧ w'.cell? ⟨g, j * 2 + 1, none⟩ = some (.int .i64 x1) ∧ w'.cell? ⟨g, a * 2, none⟩ = some (.int .i64 y0) ∧ w'.cell? ⟨g, a * 2 + 1, none⟩ = some (.int .i64 y1)) (first | (go_keep; done) | (go_split_ands; refine ⟨keepCell hb1 ?_, keepCell hb1 ?_, keepCell hb1 ?_, keepCell hb1 ?_, keepCell hb1 ?_⟩ <;> first | assumption | (go_simp; done)))
          (first | (go_at_call 63; refine (aheadA_any _ _ _ _ _).mono ?_; rintro e w1 ⟨rfl, hb1⟩))
        have hbel : Below wr.heap.size wr w1 := ((Below.refl _ _).drew).trans (hb1.mono (Nat.le_refl _))
        go_wp2_with fail
        refine (swapA_any F1 g cap X l' j a _ (by rw [Hlen.out]; exact keepCell hbel hx) (Hr.out.below hbel) Hj.out (by have := Hj.out; omega) hgx).mono ?_; rintro e w2 ⟨rfl, hr2, ht2⟩
        have hsw : swapL l' j a = swapL l' a j := swapL_comm l' j a
        rw [hsw] at hr2
        have hlen2 := swapL_length l' a j
        have Hp2 := Lib.hid ((swapL_perm l' (i := a) (j := j) (by have := Hj.out; omega) Hj.out).trans Hp.out)
        have Ht2 := Lib.hid ((Ht.out.bel hbel).trans ht2)
        have Hr2 := Lib.hid hr2
        have Hl2 := Lib.hid hlen2
        have Haj := Lib.hid haj
        clear hr2 ht2 hsw hlen2
        go_wp2
        exact ⟨⟨swapL l' a j, a, rfl, by rw [Hl2.out]; exact Hu.out, Hp2.out, by rw [Hl2.out]; have := Hj.out; omega, Hr2.out, Ht2.out⟩, by simp [intOf]; omega⟩
      · have hd : decide (x1 < y1) = false := by simpa using hq
        have Hu := Lib.hid (Hdone.out (by omega))
        clear hq
        go_wp2_with fail
        rw [hdiv]
        go_region_held3 (fun w' => w'.cell? ⟨X, 0, none⟩ = some (.slice (some ⟨g, 0, none⟩) l.length cap) ∧ w'.cell? ⟨g, j * 2, none⟩ = some (.int .i64 x0) ∧ w'.cell? ⟨g, j * 2 + 1, none⟩ = some (.int .i64 x1) ∧ w'.cell? ⟨g, a * 2, none⟩ = some (.int .i64 y0) ∧ w'.cell? ⟨g, a * 2 + 1, none⟩ = some (.int .i64 y1)) (first | (go_keep; done) | (go_split_ands; refine ⟨keepCell hb1 ?_, keepCell hb1 ?_, keepCell hb1 ?_, keepCell hb1 ?_, keepCell hb1 ?_⟩ <;> first | assumption | (go_simp; done)))
          (first | (go_at_call 63; refine (aheadA_any _ _ _ _ _).mono ?_; rintro e w1 ⟨rfl, hb1⟩))
        have hbel : Below wr.heap.size wr w1 := ((Below.refl _ _).drew).trans (hb1.mono (Nat.le_refl _))
        go_wp2
        go_end0
        exact ⟨rfl, l', Hu.out, Hp.out, Hr.out.below hbel, (Ht.out.bel hbel)⟩

end Go.Proofs.Ytmcapcclnkicbab
