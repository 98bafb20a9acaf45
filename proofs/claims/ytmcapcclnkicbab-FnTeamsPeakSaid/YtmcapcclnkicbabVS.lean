/- The stable in memory; send. -/
import Derived.Test.YtmcapcclnkicbabUI
import Derived.Test.YtmcapcclnkicbabUA
import Derived.Test.YtmcapcclnkicbabQW
import Derived.Test.YtmcapcclnkicbabVAO
import Derived.Test.YtmcapcclnkicbabVBO
import Derived.Deep.LoopGhost
import Derived.Deep.RegionWith
namespace Go.Proofs.Ytmcapcclnkicbab
open Go.RowKit

theorem own_touch {w w' : World} {B k E c : Nat} {v : Value} {xs : List Value} {S : Nat → Prop} (h : w.ownsRow B E c v k xs) (ht : Touch S w w') (hS : ∀ g, v.ownBlock = some g → ¬ S g) : w'.ownsRow B E c v k xs := by
  obtain ⟨h1, h2⟩ := h
  refine ⟨h1, ?_⟩
  rcases h2 with h0 | ⟨g, cap, cur, rfl, hg, hh, r⟩
  · exact .inl h0
  · exact .inr ⟨g, cap, cur, rfl, hg, (ht.block g (Array.getElem?_eq_some_iff.1 hh).1 (hS g rfl)).trans hh, r⟩

/-- The stable at block X: teams away A, at home H, n in all. -/
structure Stab (w : World) (F1 X : Nat) (va vh : Value) (A H : List Pl) (n : Nat) : Prop where
  whole : Whole w X 60 #[va, vh, .int .i64 (n : Int)]
  ownA : w.ownsRow F1 64 2 va A.length (encA A)
  ownH : w.ownsRow F1 67 1 vh H.length (encB H)
  heapA : HeapTo A A.length
  heapH : HeapTo H H.length
  apart : ∀ k, va.ownBlock = some k → vh.ownBlock ≠ some k

theorem Stab.touch {w w' : World} {F1 X : Nat} {va vh : Value} {A H : List Pl} {n : Nat} {S : Nat → Prop} (h : Stab w F1 X va vh A H n) (ht : Touch S w w') (hX : ¬ S X) (hA : ∀ g, va.ownBlock = some g → ¬ S g) (hH : ∀ g, vh.ownBlock = some g → ¬ S g) : Stab w' F1 X va vh A H n :=
  ⟨h.whole.keptT ht hX, own_touch h.ownA ht hA, own_touch h.ownH ht hH, h.heapA, h.heapH, h.apart⟩
theorem Stab.below {w w' : World} {F1 X : Nat} {va vh : Value} {A H : List Pl} {n : Nat} (h : Stab w F1 X va vh A H n) (hb : Below w.heap.size w w') : Stab w' F1 X va vh A H n :=
  h.touch (Touch.of_below (S := fun _ => False) hb) (fun h => h) (fun _ _ h => h) (fun _ _ h => h)

/-- The same block, or a new one. -/
def NewOr (B : Nat) (v v' : Value) : Prop := v'.ownBlock = v.ownBlock ∨ ∃ k, v'.ownBlock = some k ∧ B ≤ k
theorem NewOr.refl (B : Nat) (v : Value) : NewOr B v v := .inl rfl
theorem NewOr.trans {B B' : Nat} {a b c : Value} (h : NewOr B a b) (k : NewOr B' b c) (hB : B ≤ B') : NewOr B a c := by
  rcases k with k | ⟨x, k1, k2⟩
  · rcases h with h | ⟨x, h1, h2⟩
    · exact .inl (k.trans h)
    · exact .inr ⟨x, k.trans h1, h2⟩
  · exact .inr ⟨x, k1, by omega⟩

theorem newor_old {B : Nat} {v v' : Value} {j : Nat} (h : NewOr B v v') (hj : v'.ownBlock = some j) (hlt : j < B) : v.ownBlock = some j := by
  rcases h with h | ⟨k, h1, h2⟩
  · rw [← h]; exact hj
  · rw [h1] at hj; injection hj with hj; omega
theorem NewOr.mono {B B' : Nat} {v v' : Value} (h : NewOr B v v') (hB : B' ≤ B) : NewOr B' v v' := by
  rcases h with h | ⟨k, h1, h2⟩
  · exact .inl h
  · exact .inr ⟨k, h1, by omega⟩

/-- What the call may write. -/
def SendS (X : Nat) (va vh : Value) : Nat → Prop := fun k => k = X ∨ va.ownBlock = some k ∨ vh.ownBlock = some k

theorem Touch.step {X : Nat} {va vh v : Value} {w w1 w2 : World} (h : Touch (SendS X va vh) w w1) (k : Touch (fun j => j = X ∨ v.ownBlock = some j) w1 w2) (hn : NewOr (w.heap.size + 1) va v ∨ NewOr (w.heap.size + 1) vh v) : Touch (SendS X va vh) w w2 :=
  h.trans2 k (fun j hj hlt => by
    rcases hj with e | e
    · exact .inl e
    · rcases hn with hn | hn
      · exact .inr (.inl (newor_old hn e (by omega)))
      · exact .inr (.inr (newor_old hn e (by omega))))
theorem Touch.own {X g n c : Nat} {w w' : World} (h : Touch (fun k => k = X ∨ k = g) w w') : Touch (fun j => j = X ∨ (Value.slice (some ⟨g, 0, none⟩) n c).ownBlock = some j) w w' :=
  h.mono fun j hj => by rcases hj with e | e; exact .inl e; exact .inr (by rw [e]; rfl)

def SendOut (l : List Rn) (rest : Int) (i : Nat) (F1 X : Nat) (va vh : Value) (w : World) (e : Ending) (w' : World) : Prop :=
  e = .returned (.int .i64 (leastT l rest (mkTo l rest i) i : Int)) ∧ ∃ va' vh' A' H', Stab w' F1 X va' vh' A' H' (cntTo l rest (i + 1)) ∧ TInv l rest (i + 1) (l.getD i rn0).a A' H' (cntTo l rest (i + 1)) ∧
    NewOr w.heap.size va va' ∧ NewOr w.heap.size vh vh' ∧ Touch (SendS X va vh) w w'

/-- Between two teams that come home. -/
def SendRel (l : List Rn) (rest : Int) (i : Nat) (F1 X : Nat) (va vh : Value) (w : World) (a b : Int) (gk : Nat) (wr : World) : Prop :=
  ∃ va' vh' A H, A.length = gk ∧ Stab wr F1 X va' vh' A H (cntTo l rest i) ∧ TInv l rest i a A H (cntTo l rest i) ∧ Whole wr w.heap.size 29 #[.int .i64 a, .int .i64 b] ∧
    NewOr (w.heap.size + 1) va va' ∧ NewOr (w.heap.size + 1) vh vh' ∧ (va'.ownBlock ≠ some w.heap.size ∧ vh'.ownBlock ≠ some w.heap.size) ∧ Touch (SendS X va vh) w wr

set_option maxRecDepth 100000 in
set_option maxHeartbeats 2000000 in
theorem send_any (l : List Rn) (rest a b : Int) (i : Nat) (F1 X : Nat) (va vh : Value) (A H : List Pl) (w : World) (hz : okR l rest = true) (hi : i < l.length) (hr : l.getD i rn0 = ⟨a, b⟩) (hst : Stab w F1 X va vh A H (cntTo l rest i)) (hti : TInv l rest i a A H (cntTo l rest i)) (hXF : X < F1) (hF : F1 ≤ w.heap.size) :
    Calls Try.prog 34 #[.pointer (some ⟨X, 0, none⟩), .agg #[.int .i64 a, .int .i64 b], .int .i64 rest] w (SendOut l rest i F1 X va vh w) := by
  have hz1 := okR_parts.1 hz
  have hat := validU_at hz1.1 hi
  have h12 := (validU_iff.1 hz1.1).1
  have hXl := hst.whole.lt
  obtain ⟨z1, r0, r6⟩ := hz1
  rw [hr] at hat
  simp only at hat
  obtain ⟨b0, b1, b2, _⟩ := hat
  have hw0 : Whole (w.alloc (.cells #[.int .i64 a, .int .i64 b] 29)) w.heap.size 29 #[.int .i64 a, .int .i64 b] := Whole.made _ _ _
  have hb0 : Below w.heap.size w (w.alloc (.cells #[.int .i64 a, .int .i64 b] 29)) := (Below.refl _ _).alloc (Nat.le_refl _) _
  have Hvw0 := Lib.hid (show va.ownBlock ≠ some w.heap.size ∧ vh.ownBlock ≠ some w.heap.size from ⟨fun h => by have := (hst.ownA.lt _ h).2; omega, fun h => by have := (hst.ownH.lt _ h).2; omega⟩)
  have Hst := Lib.hid (hst.below hb0)
  have Hti := Lib.hid hti
  have HW0 := Lib.hid hw0
  have Hb0 := Lib.hid (Touch.of_below (S := SendS X va vh) hb0)
  have Hz := Lib.hid hz
  have Hr := Lib.hid hr
  clear hst hti hw0 hb0 hz hr z1
  go_enter Try.func34, Try.ntmps34
  have hfd0 : ∀ (x y : Int) (w : World), (Instr.field 64 (.agg #[.int .i64 x, .int .i64 y]) 0).run Try.prog w = .ok (.int .i64 x) w := fun _ _ _ => by kernel_rfl
  have hfd1 : ∀ (x y : Int) (w : World), (Instr.field 64 (.agg #[.int .i64 x, .int .i64 y]) 1).run Try.prog w = .ok (.int .i64 y) w := fun _ _ _ => by kernel_rfl
  have hbr : IntKind.i64.wrap (b + rest) = b + rest := IntWalk.i64_in _ (by omega)
  have hfd0 : ∀ (x y : Int) (w : World), (Instr.field 64 (.agg #[.int .i64 x, .int .i64 y]) 0).run Try.prog w = .ok (.int .i64 x) w := fun _ _ _ => by kernel_rfl
  have hfd1 : ∀ (x y : Int) (w : World), (Instr.field 64 (.agg #[.int .i64 x, .int .i64 y]) 1).run Try.prog w = .ok (.int .i64 y) w := fun _ _ _ => by kernel_rfl
  have hbr : IntKind.i64.wrap (b + rest) = b + rest := IntWalk.i64_in _ (by omega)
  have hfd0 : ∀ (x y : Int) (w : World), (Instr.field 64 (.agg #[.int .i64 x, .int .i64 y]) 0).run Try.prog w = .ok (.int .i64 x) w := fun _ _ _ => by kernel_rfl
  have hfd1 : ∀ (x y : Int) (w : World), (Instr.field 64 (.agg #[.int .i64 x, .int .i64 y]) 1).run Try.prog w = .ok (.int .i64 y) w := fun _ _ _ => by kernel_rfl
  have hbr : IntKind.i64.wrap (b + rest) = b + rest := IntWalk.i64_in _ (by omega)
  have hfd0 : ∀ (x y : Int) (w : World), (Instr.field 64 (.agg #[.int .i64 x, .int .i64 y]) 0).run Try.prog w = .ok (.int .i64 x) w := fun _ _ _ => by kernel_rfl
  have hfd1 : ∀ (x y : Int) (w : World), (Instr.field 64 (.agg #[.int .i64 x, .int .i64 y]) 1).run Try.prog w = .ok (.int .i64 y) w := fun _ _ _ => by kernel_rfl
  have hbr : IntKind.i64.wrap (b + rest) = b + rest := IntWalk.i64_in _ (by omega)
  have hfd0 : ∀ (x y : Int) (w : World), (Instr.field 64 (.agg #[.int .i64 x, .int .i64 y]) 0).run Try.prog w = .ok (.int .i64 x) w := fun _ _ _ => by kernel_rfl
  have hfd1 : ∀ (x y : Int) (w : World), (Instr.field 64 (.agg #[.int .i64 x, .int .i64 y]) 1).run Try.prog w = .ok (.int .i64 y) w := fun _ _ _ => by kernel_rfl
  have hbr : IntKind.i64.wrap (b + rest) = b + rest := IntWalk.i64_in _ (by omega)
  have hfd0 : ∀ (x y : Int) (w : World), (Instr.field 64 (.agg #[.int .i64 x, .int .i64 y]) 0).run Try.prog w = .ok (.int .i64 x) w := fun _ _ _ => by kernel_rfl
  have hfd1 : ∀ (x y : Int) (w : World), (Instr.field 64 (.agg #[.int .i64 x, .int .i64 y]) 1).run Try.prog w = .ok (.int .i64 y) w := fun _ _ _ => by kernel_rfl
  have hbr : IntKind.i64.wrap (b + rest) = b + rest := IntWalk.i64_in _ (by omega)
  have hfd0 : ∀ (x y : Int) (w : World), (Instr.field 64 (.agg #[.int .i64 x, .int .i64 y]) 0).run Try.prog w = .ok (.int .i64 x) w := fun _ _ _ => by kernel_rfl
  have hfd1 : ∀ (x y : Int) (w : World), (Instr.field 64 (.agg #[.int .i64 x, .int .i64 y]) 1).run Try.prog w = .ok (.int .i64 y) w := fun _ _ _ => by kernel_rfl
  have hbr : IntKind.i64.wrap (b + rest) = b + rest := IntWalk.i64_in _ (by omega)
  have hfd0 : ∀ (x y : Int) (w : World), (Instr.field 64 (.agg #[.int .i64 x, .int .i64 y]) 0).run Try.prog w = .ok (.int .i64 x) w := fun _ _ _ => by kernel_rfl
  have hfd1 : ∀ (x y : Int) (w : World), (Instr.field 64 (.agg #[.int .i64 x, .int .i64 y]) 1).run Try.prog w = .ok (.int .i64 y) w := fun _ _ _ => by kernel_rfl
  have hbr : IntKind.i64.wrap (b + rest) = b + rest := IntWalk.i64_in _ (by omega)
  have hfd0 : ∀ (x y : Int) (w : World), (Instr.field 64 (.agg #[.int .i64 x, .int .i64 y]) 0).run Try.prog w = .ok (.int .i64 x) w := fun _ _ _ => by kernel_rfl
  have hfd1 : ∀ (x y : Int) (w : World), (Instr.field 64 (.agg #[.int .i64 x, .int .i64 y]) 1).run Try.prog w = .ok (.int .i64 y) w := fun _ _ _ => by kernel_rfl
  have hbr : IntKind.i64.wrap (b + rest) = b + rest := IntWalk.i64_in _ (by omega)
  have hfd0 : ∀ (x y : Int) (w : World), (Instr.field 64 (.agg #[.int .i64 x, .int .i64 y]) 0).run Try.prog w = .ok (.int .i64 x) w := fun _ _ _ => by kernel_rfl
  have hfd1 : ∀ (x y : Int) (w : World), (Instr.field 64 (.agg #[.int .i64 x, .int .i64 y]) 1).run Try.prog w = .ok (.int .i64 y) w := fun _ _ _ => by kernel_rfl
  have hbr : IntKind.i64.wrap (b + rest) = b + rest := IntWalk.i64_in _ (by omega)
  go_wp2
  go_loopg [22] A.length (fun gk _ wr => SendRel l rest i F1 X va vh w a b gk wr)
  case atStart => exact ⟨va, vh, A, H, rfl, Hst.out, Hti.out, HW0.out, NewOr.refl _ _, NewOr.refl _ _, Hvw0.out, Hb0.out⟩
  case round =>
    clear Hst Hti HW0 Hb0 Hvw0
    obtain ⟨va1, vh1, A, H, hgk, hst, hti, hrun, hna, hnh, hvw, ht⟩ := hrel
    have hr0 := hrun.cell (i := 0) rfl
    have hrl := hrun.lt
    have hXr := hst.whole.lt
    by_cases hA : 0 < A.length
    · obtain ⟨ga, capa, rfl, hrowA⟩ := own_rowA hst.ownA hA
      have hx0 := hst.whole.cell (i := 0) rfl
      have hAz : decide (A.length = 0) = false := by simp only [decide_eq_false_iff_not]; omega
      have Hst := Lib.hid hst
      have Hti := Lib.hid hti
      have Hrun := Lib.hid hrun
      have Ht := Lib.hid ht
      have Hna := Lib.hid hna
      have Hnh := Lib.hid hnh
      have Hvw := Lib.hid hvw
      have Hgk := Lib.hid hgk
      have Hrow := Lib.hid hrowA
      have HA := Lib.hid hA
      have HfA := Lib.hid (fun (h : 0 < A.length → a < (A.getD 0 pl0).2) => heap_first hst.heapA h)
      clear hst hrowA hti hrun ht hna hnh hvw hgk hA
      obtain ⟨p0, hp0⟩ : ∃ x, x = (A.getD 0 pl0).1 := ⟨_, rfl⟩
      obtain ⟨p1, hp1⟩ : ∃ x, x = (A.getD 0 pl0).2 := ⟨_, rfl⟩
      have HP0 := Lib.hid hp0.symm; have HP1 := Lib.hid hp1.symm; clear hp0 hp1
      have Hfirst := Lib.hid (fun w' hx hrow h0 => (by have := firstA_any ga capa X F1 A w' hx hrow h0; rwa [HP0.out, HP1.out] at this : Calls Try.prog 36 #[.pointer (some ⟨X, 0, none⟩)] w' (Gives (.agg #[.int .i64 p0, .int .i64 p1]) w')))
      by_cases hq : p1 ≤ a
      · have hd : decide (p1 ≤ a) = true := by simpa using hq
        go_wp2_with fail
        go_region_held3 (fun w' => w'.cell? ⟨w.heap.size, 0, none⟩ = some (.int .i64 a)) (first | (go_keep; done) | exact keepCell hb1 (by first | assumption | (go_simp; done)))
          (first | (go_at_call 35; refine (emptyA_is X A.length capa _ wr.drew hx0 hAz).mono ?_; rintro e w' ⟨rfl, rfl⟩) | (go_at_call 36; refine (Hfirst.out wr.drew hx0 (Hrow.out.below (Below.refl _ _).drew) HA.out).mono ?_; rintro e w1 ⟨rfl, hb1⟩))
        have hbx : Below wr.heap.size wr w1 := ((Below.refl _ _).drew).trans (hb1.mono (Nat.le_refl _))
        have hst1 := (Hst.out.below hbx)
        have Hw1 := Lib.hid (show Whole w1.drew X 60 #[.slice (some ⟨ga, 0, none⟩) A.length capa, vh1, .int .i64 (cntTo l rest i : Int)] from hst1.whole)
        have Hr1 := Lib.hid (show RowA w1.drew F1 ga capa A from Hrow.out.below (hbx.drew))
        have hAl : A.length ≤ 50 := by have := Hti.out.len; omega
        have hHl : H.length ≤ 50 := by have := Hti.out.len; omega
        have hgaX : ga ≠ X := by have := Hrow.out.base; omega
        have Hs1 := Lib.hid (show w.heap.size + 1 ≤ w1.heap.size from Nat.le_trans hrl hbx.size)
        have Hst1 := Lib.hid hst1; clear hst1
        go_wp2_with fail
        go_region_held3 (fun _ => True) (trivial)
          (first | (go_at_call 38; refine (popA_any F1 X ga capa vh1 (.int .i64 (cntTo l rest i : Int)) A w1.drew Hw1.out Hr1.out Hst1.out.heapA HA.out hAl hXF).mono ?_; rintro e w2 ⟨rfl, A2, hh2, hp2, hr2, hw2, ht2⟩; rw [HP0.out, HP1.out]) | (go_at_call 37; refine (pushB_any F1 X vh1 (.slice (some ⟨ga, 0, none⟩) A2.length capa) (.int .i64 (cntTo l rest i : Int)) H p0 w2 hw2 (own_touch (S := fun k => k = X ∨ k = ga) Hst1.out.ownH ⟨ht2.os, ht2.tape, ht2.output, ht2.size, ht2.block⟩ (fun k hk => by rintro (h | h); (have := (Hst1.out.ownH.lt k hk).1; omega); exact Hst1.out.apart k (by rw [h]; rfl) hk)) Hst1.out.heapH hHl hXF (by have h1 := ht2.size; have h2 : w1.drew.heap.size = w1.heap.size := rfl; have := Hs1.out; omega)).mono ?_; rintro e w3 ⟨rfl, v3, H3, hh3, hp3, ho3, hw3, hn3, ht3⟩))
        have ht2d : Touch (fun k => k = X ∨ k = ga) w1 w2 := ⟨ht2.os, ht2.tape, ht2.output, ht2.size, ht2.block⟩
        have hrA3 := hr2.touch ht3 (by rintro (h | h); exact hgaX h; exact Hst1.out.apart ga rfl h)
        have hs2 : w1.heap.size ≤ w2.heap.size := ht2.size
        have hap3 : ∀ k, (Value.slice (some ⟨ga, 0, none⟩) A2.length capa).ownBlock = some k → v3.ownBlock ≠ some k := fun k hk e => by
          have e' : ga = k := by injection hk
          rcases hn3 with h | ⟨x, h1, h2⟩
          · exact Hst1.out.apart k (by rw [← e']; rfl) (by rw [← h]; exact e)
          · have h4 : x = k := by rw [h1] at e; injection e
            have := hr2.lt; omega
        have HSt := Lib.hid (show Stab w3 F1 X (.slice (some ⟨ga, 0, none⟩) A2.length capa) v3 A2 H3 (cntTo l rest i) from ⟨hw3, hrA3.own, ho3, hh2, hh3, hap3⟩)
        have HTi := Lib.hid (Hti.out.move (H' := H3) hp2 (by rw [HP0.out]; exact hp3) (by rw [HP1.out]; exact hq))
        have htA : Touch (SendS X va vh) w w2 := (Ht.out.bel hbx).step (ht2d.own (n := A.length) (c := capa)) (.inl Hna.out)
        have HT := Lib.hid (htA.step ht3 (.inr Hnh.out))
        have hv3 : v3.ownBlock ≠ some w.heap.size := by
          rcases hn3 with h | ⟨x, h1, h2⟩
          · rw [h]; exact Hvw.out.2
          · rw [h1]; intro e; injection e with e; have := Hs1.out; omega
        have HRun := Lib.hid (((Hrun.out.below hbx hrl).keptT ht2d (by rintro (h | h); omega; exact Hvw.out.1 (by rw [h]; rfl))).keptT ht3 (by rintro (h | h); omega; exact Hvw.out.2 h))
        have HNh := Lib.hid (Hnh.out.trans hn3 (by have := Hs1.out; omega))
        have hA2l : A2.length + 1 = A.length := by have := hp2.length_eq; simpa using this
        have Hv3 := Lib.hid hv3
        have HA2l := Lib.hid hA2l
        clear hh2 hp2 hr2 hw2 ht2 ht2d hh3 hp3 ho3 hw3 hn3 ht3 hrA3 hap3 htA hv3 hA2l
        go_wp2
        go_roundg A2.length
        case measure => have := HA2l.out; have := Hgk.out; omega
        case rel => exact ⟨.slice (some ⟨ga, 0, none⟩) A2.length capa, v3, A2, H3, rfl, HSt.out, HTi.out, HRun.out, Hna.out, HNh.out, ⟨Hvw.out.1, Hv3.out⟩, HT.out⟩
      · have hd : decide (p1 ≤ a) = false := by simpa using hq
        go_wp2_with fail
        go_region_held3 (fun w' => w'.cell? ⟨w.heap.size, 0, none⟩ = some (.int .i64 a)) (first | (go_keep; done) | exact keepCell hb1 (by first | assumption | (go_simp; done)))
          (first | (go_at_call 35; refine (emptyA_is X A.length capa _ wr.drew hx0 hAz).mono ?_; rintro e w' ⟨rfl, rfl⟩) | (go_at_call 36; refine (Hfirst.out wr.drew hx0 (Hrow.out.below (Below.refl _ _).drew) HA.out).mono ?_; rintro e w1 ⟨rfl, hb1⟩))
        have hbx : Below wr.heap.size wr w1 := ((Below.refl _ _).drew).trans (hb1.mono (Nat.le_refl _))
        have Hall := Lib.hid (HfA.out (fun _ => by rw [HP1.out]; omega))
        obtain ⟨va1, hva⟩ : ∃ v, v = Value.slice (some ⟨ga, 0, none⟩) A.length capa := ⟨_, rfl⟩
        rw [← hva] at Hst Hna Hvw
        clear hva hfd0 hfd1 hx0 hAz Hfirst HfA
        have hst := Hst.out.below hbx
        have Hst2 := Lib.hid hst
        have Hsz := Lib.hid (show w.heap.size + 1 ≤ (w1).heap.size from Nat.le_trans hrl hbx.size)
        have Hrun2 := Lib.hid (Hrun.out.below hbx hrl)
        have Ht2 := Lib.hid (Ht.out.bel hbx)
        have Hva := Lib.hid (show va1.ownBlock ≠ some w.heap.size from fun h => Hvw.out.1 h)
        have Hlen := Lib.hid (show A.length + H.length ≤ 12 from by have := Hti.out.len; omega)
        by_cases hH : 0 < H.length
        · obtain ⟨g, cap, rfl, hrowB⟩ := own_rowB hst.ownH hH
          have hx1 := hst.whole.cell (i := 1) rfl
          have Hw := Lib.hid hst.whole
          have HrB := Lib.hid hrowB
          have Hnew := Lib.hid (Hti.out.keep Hall.out hH)
          have HhH := Lib.hid hst.heapH
          have HoA := Lib.hid hst.ownA
          have HhA := Lib.hid hst.heapA
          have Hap := Lib.hid hst.apart
          have Hnh2 := Lib.hid (show NewOr w.heap.size vh (.slice (some ⟨g, 0, none⟩) H.length cap) from Hnh.out.mono (by omega))
          have Hgw := Lib.hid (show g = w.heap.size → False from fun h => Hvw.out.2 (by rw [← h]; rfl))
          have Hrun := Lib.hid Hrun2.out
          have Ht := Lib.hid Ht2.out
          have hHz : decide (H.length = 0) = false := by simp only [decide_eq_false_iff_not]; omega
          have hNeq : ∀ n', NewOr w.heap.size vh (.slice (some ⟨g, 0, none⟩) n' cap) := fun _ => Hnh2.out
          have HNeq := Lib.hid hNeq
          clear hst hrowB hH hNeq
          go_wp2_with fail
          refine (emptyB_is X H.length cap _ _ hx1 hHz).mono ?_; rintro e w' ⟨rfl, rfl⟩
          have hgX : g ≠ X := by have := HrB.out.base; omega
          go_wp2_with fail
          refine (popB_any F1 X g cap va1 (.int .i64 ((cntTo l rest i) : Int)) H _ Hw.out HrB.out HhH.out Hnew.out.some_ (by have := Hlen.out; omega) hXF).mono ?_; rintro e w3 ⟨rfl, H3, hh3, hp3, hr3, hw3, ht3⟩
          have hlo := fun k hk => (HoA.out.lt k hk).1
          have hoA3 := own_touch HoA.out ht3 (fun k hk => by rintro (h | h); (have := hlo k hk; omega); exact Hap.out k hk (by rw [h]; rfl))
          have hgt : g ≠ w.heap.size := by rintro rfl; exact Hgw.out rfl
          have hrun3 := Hrun.out.keptT ht3 (by rintro (h | h); omega; exact hgt h.symm)
          have hT3 := Ht.out.step (ht3.own (n := H.length) (c := cap)) (.inr Hnh.out)
          have hd3 := hrun3.cell (i := 1) rfl
          have hl3 := hrun3.lt
          have hs3 := hT3.size
          have Hoa3 := Lib.hid hoA3
          have Hrun3 := Lib.hid hrun3
          have HT3 := Lib.hid hT3
          have Hw3 := Lib.hid hw3
          have Hr3 := Lib.hid hr3
          have Hh3 := Lib.hid hh3
          have Hp3 := Lib.hid hp3
          have Hs3 := Lib.hid ht3.size
          clear hoA3 hrun3 hT3 hw3 hr3 hh3 hp3 ht3 hlo
          generalize htt : (H.getD 0 pl0).2 = tt at *
          have Htt := Lib.hid htt; clear htt
          have hAl : A.length ≤ 50 := by have := Hlen.out; omega
          go_wp2_with fail
          go_region_held3 (fun w' => w'.cell? ⟨w.heap.size, 1, none⟩ = some (.int .i64 b)) (first | (go_keep; done) | exact (ht4.cell hl3 (by rintro (h | h); omega; exact Hva.out h)).trans (by first | assumption | (go_simp; done)))
            (first | (go_at_call 41; refine (pushA_any F1 X va1 (.slice (some ⟨g, 0, none⟩) H3.length cap) (.int .i64 ((cntTo l rest i) : Int)) A tt (b + rest) w3.drew Hw3.out Hoa3.out HhA.out hAl hXF (by have := HT3.out.size; simp; omega)).mono ?_; rintro e w4 ⟨rfl, v4, A4, hh4, hp4, ho4, hw4, hn4, ht4⟩))
          have hgo := TNew.go (s' := a) (p := H.getD 0 pl0) (A' := A4) (H' := H3) Hz.out hi (by rw [Hr.out]; exact Hnew.out) Hp3.out (heap_least HhH.out) (by rw [Htt.out, Hr.out]; exact hp4) (by rw [Hr.out]; exact Int.le_refl _)
          obtain ⟨hg1, hg2⟩ := hgo
          rw [Htt.out] at hg1
          have hcn := hg2.cnt
          have ht4d : Touch (fun k => k = X ∨ va1.ownBlock = some k) w3 w4 := ⟨ht4.os, ht4.tape, ht4.output, ht4.size, ht4.block⟩
          have hr4 := Hr3.out.touch ht4d (by rintro (h | h); exact hgX h; exact Hap.out g h rfl)
          have hap4 : ∀ k, v4.ownBlock = some k → (Value.slice (some ⟨g, 0, none⟩) H3.length cap).ownBlock ≠ some k := fun k hk e => by
            have e' : g = k := by injection e
            rcases hn4 with h | ⟨x, h1, h2⟩
            · exact Hap.out k (by rw [← h]; exact hk) e
            · rw [h1] at hk; injection hk with hk; have h5 := Hr3.out.lt; have h6 : w3.heap.size ≤ x := h2; omega
          have HF := Lib.hid (show SendOut l rest i F1 X va vh w (.returned (.int .i64 tt)) w4 from ⟨by rw [hg1], v4, _, A4, H3, ⟨by rw [← hcn]; exact hw4, ho4, hr4.own, hh4, Hh3.out, hap4⟩, by rw [Hr.out]; rw [← hcn]; exact hg2, (Hna.out.trans hn4 (by have := HT3.out.size; have h6 : w3.heap.size = w3.drew.heap.size := rfl; have := Hsz.out; have := Hs3.out; omega)).mono (by omega), Hnh2.out, (HT3.out.drew).step ht4 (.inl Hna.out)⟩)
          clear hh4 hp4 ho4 hw4 hn4 ht4 hg1 hg2 hcn hr4 hap4
          go_wp2
          go_ret
          exact HF.out
        · have hH0 : H.length = 0 := by omega
          obtain rfl : H = [] := List.eq_nil_of_length_eq_zero hH0
          obtain ⟨adh, caph, hvh⟩ := own_sliceB hst.ownH
          have hx1 : (w1).cell? ⟨X, 1, none⟩ = some (.slice adh 0 caph) := by have := hst.whole.cell (i := 1) rfl; rw [hvh] at this; exact this
          have hx2 := hst.whole.cell (i := 2) rfl
          have hx3 := Hst.out.whole.cell (i := 2) rfl
          have Hfr := Lib.hid (fun H' hp => Hti.out.fresh (H' := H') Hall.out hp)
          have Hw := Lib.hid (show Whole (w1).drew X 60 #[va1, vh1, .int .i64 (cntTo l rest i : Int)] from hst.whole)
          have HoH := Lib.hid (show (w1).drew.ownsRow F1 67 1 vh1 ([] : List Pl).length (encB []) from hst.ownH)
          have HoA := Lib.hid hst.ownA
          have HhA := Lib.hid hst.heapA
          have HhH := Lib.hid hst.heapH
          have Hap := Lib.hid hst.apart
          have Hrun := Lib.hid Hrun2.out
          have Ht := Lib.hid Ht2.out
          have hcb : (cntTo l rest i : Int) ≤ 12 := by have := Hti.out.len.2; omega
          have hc0 : (0 : Int) ≤ (cntTo l rest i : Int) := Int.natCast_nonneg _
          have HFd := Lib.hid hF
          clear hst hH hH0 hvh
          generalize cntTo l rest i = cn at *
          go_wp2_with fail
          refine (emptyB_is X 0 caph _ _ hx1 rfl).mono ?_; rintro e w' ⟨rfl, rfl⟩
          go_wp2_with fail
          go_region_held3 (fun w' => w'.cell? ⟨X, 2, none⟩ = some (.int .i64 (cn : Int))) (first | (go_keep; done) | exact hwP.cell (i := 2) rfl)
            (first | (go_at_call 37; refine (pushB_any F1 X vh1 va1 (.int .i64 (cn : Int)) [] (cn : Int) (w1).drew Hw.out HoH.out HhH.out (by simp) hXF (by have h1 : (w1).drew.heap.size = (w1).heap.size := rfl; have := Hsz.out; omega)).mono ?_; rintro e wP ⟨rfl, vP, HP, hhP, hpP, hoP, hwP, hnP, htP⟩))
          have hx22 := hwP.cell (i := 2) rfl
          have hf22 := hwP.free 2
          have hnew := Hfr.out HP hpP
          have hHP : HP.length = 1 := by have := hpP.length_eq; simpa using this
          have hlo := fun k hk => (HoA.out.lt k hk).1
          have htP2 : Touch (fun k => k = X ∨ vh1.ownBlock = some k) (w1) wP := ⟨htP.os, htP.tape, htP.output, htP.size, htP.block⟩
          have hsP : (w1).heap.size ≤ wP.heap.size := htP2.size
          obtain ⟨g, cap, rfl, hrowB⟩ := own_rowB hoP (by omega)
          have hapP : ∀ k, va1.ownBlock = some k → (Value.slice (some ⟨g, 0, none⟩) HP.length cap).ownBlock ≠ some k := fun k hk e => by
            have hkl := (HoA.out.lt k hk).2
            rcases hnP with h | ⟨x, h1, h2⟩
            · exact Hap.out k hk (by rw [← h]; exact e)
            · have h4 : k = x := by rw [e] at h1; injection h1
              have h3 : (w1).heap.size ≤ x := h2
              omega
          have hgv : g ≠ w.heap.size := by
            rintro rfl
            rcases hnP with h | ⟨x, h1, h2⟩
            · exact Hvw.out.2 (by rw [← h]; rfl)
            · have h4 : w.heap.size = x := by injection h1
              have h3 : (w1).heap.size ≤ x := h2
              have := Hsz.out; omega
          have hgX : g ≠ X := by have := hrowB.base; omega
          have hoA2 := own_touch HoA.out htP2 (fun k hk => by rintro (h | h); (have := hlo k hk; omega); exact Hap.out k hk h)
          have hrun2 := Hrun.out.keptT htP2 (by rintro (h | h); omega; exact Hvw.out.2 h)
          have hT2 := Ht.out.step htP2 (.inr Hnh.out)
          have hnhP : NewOr (w.heap.size + 1) vh (.slice (some ⟨g, 0, none⟩) HP.length cap) := Hnh.out.trans hnP (by have h3 : (w1).drew.heap.size = (w1).heap.size := rfl; have := Hsz.out; omega)
          have tS : ∀ (u : Value), Touch (fun k => k = X) wP (wP.setCell ⟨X, 2, none⟩ u) := fun u => (Touch.refl (fun k => k = X) wP).setCell rfl u
          have HrB := Lib.hid (fun u => hrowB.touch (tS u) hgX)
          have Hw := Lib.hid (hwP.set 2 (.int .i64 ((cn : Int) + 1)))
          have HoA := Lib.hid (fun u => own_touch hoA2 (tS u) (fun k hk h => by have := hlo k hk; omega))
          have Hrun := Lib.hid (fun u => hrun2.keptT (tS u) (by omega))
          have Ht := Lib.hid (fun u => hT2.trans2 (tS u) (fun j hj _ => .inl hj))
          have Hap := Lib.hid hapP
          have Hnh := Lib.hid hnhP
          have Hnh2 := Lib.hid (show NewOr w.heap.size vh (.slice (some ⟨g, 0, none⟩) HP.length cap) from hnhP.mono (by omega))
          have Hgw := Lib.hid (show g = w.heap.size → False from hgv)
          have Hnew := Lib.hid hnew
          have HhH := Lib.hid hhP
          have Hlen := Lib.hid (show A.length + HP.length ≤ 13 from by have := Hlen.out; simp at this; omega)
          have Hsz := Lib.hid (show w.heap.size + 1 ≤ wP.heap.size from by have := Hsz.out; omega)
          clear hnew hHP hlo htP2 hapP hgv hgX hoA2 hrun2 hT2 hnhP tS hrowB hwP hoP htP hnP hpP hhP hx1 hx2 hx3
          have HrB := Lib.hid (HrB.out (.int .i64 ((cn : Int) + 1)))
          have HoA := Lib.hid (HoA.out (.int .i64 ((cn : Int) + 1)))
          have Hrun := Lib.hid (Hrun.out (.int .i64 ((cn : Int) + 1)))
          have Ht := Lib.hid (Ht.out (.int .i64 ((cn : Int) + 1)))
          have hgX : g ≠ X := by have := HrB.out.base; omega
          go_wp2_with fail
          refine (popB_any F1 X g cap va1 (.int .i64 ((cn : Int) + 1)) HP _ Hw.out HrB.out HhH.out Hnew.out.some_ (by have := Hlen.out; omega) hXF).mono ?_; rintro e w3 ⟨rfl, H3, hh3, hp3, hr3, hw3, ht3⟩
          have hlo := fun k hk => (HoA.out.lt k hk).1
          have hoA3 := own_touch HoA.out ht3 (fun k hk => by rintro (h | h); (have := hlo k hk; omega); exact Hap.out k hk (by rw [h]; rfl))
          have hgt : g ≠ w.heap.size := by rintro rfl; exact Hgw.out rfl
          have hrun3 := Hrun.out.keptT ht3 (by rintro (h | h); omega; exact hgt h.symm)
          have hT3 := Ht.out.step (ht3.own (n := HP.length) (c := cap)) (.inr Hnh.out)
          have hd3 := hrun3.cell (i := 1) rfl
          have hl3 := hrun3.lt
          have hs3 := hT3.size
          have Hoa3 := Lib.hid hoA3
          have Hrun3 := Lib.hid hrun3
          have HT3 := Lib.hid hT3
          have Hw3 := Lib.hid hw3
          have Hr3 := Lib.hid hr3
          have Hh3 := Lib.hid hh3
          have Hp3 := Lib.hid hp3
          have Hs3 := Lib.hid ht3.size
          clear hoA3 hrun3 hT3 hw3 hr3 hh3 hp3 ht3 hlo
          generalize htt : (HP.getD 0 pl0).2 = tt at *
          have Htt := Lib.hid htt; clear htt
          have hAl : A.length ≤ 50 := by have := Hlen.out; omega
          go_wp2_with fail
          go_region_held3 (fun w' => w'.cell? ⟨w.heap.size, 1, none⟩ = some (.int .i64 b)) (first | (go_keep; done) | exact (ht4.cell hl3 (by rintro (h | h); omega; exact Hva.out h)).trans (by first | assumption | (go_simp; done)))
            (first | (go_at_call 41; refine (pushA_any F1 X va1 (.slice (some ⟨g, 0, none⟩) H3.length cap) (.int .i64 ((cn : Int) + 1)) A tt (b + rest) w3.drew Hw3.out Hoa3.out HhA.out hAl hXF (by have := HT3.out.size; simp; omega)).mono ?_; rintro e w4 ⟨rfl, v4, A4, hh4, hp4, ho4, hw4, hn4, ht4⟩))
          have hgo := TNew.go (s' := a) (p := HP.getD 0 pl0) (A' := A4) (H' := H3) Hz.out hi (by rw [Hr.out]; exact Hnew.out) Hp3.out (heap_least HhH.out) (by rw [Htt.out, Hr.out]; exact hp4) (by rw [Hr.out]; exact Int.le_refl _)
          obtain ⟨hg1, hg2⟩ := hgo
          rw [Htt.out] at hg1
          have hcn := hg2.cnt
          have ht4d : Touch (fun k => k = X ∨ va1.ownBlock = some k) w3 w4 := ⟨ht4.os, ht4.tape, ht4.output, ht4.size, ht4.block⟩
          have hr4 := Hr3.out.touch ht4d (by rintro (h | h); exact hgX h; exact Hap.out g h rfl)
          have hap4 : ∀ k, v4.ownBlock = some k → (Value.slice (some ⟨g, 0, none⟩) H3.length cap).ownBlock ≠ some k := fun k hk e => by
            have e' : g = k := by injection e
            rcases hn4 with h | ⟨x, h1, h2⟩
            · exact Hap.out k (by rw [← h]; exact hk) e
            · rw [h1] at hk; injection hk with hk; have h5 := Hr3.out.lt; have h6 : w3.heap.size ≤ x := h2; omega
          have HF := Lib.hid (show SendOut l rest i F1 X va vh w (.returned (.int .i64 tt)) w4 from ⟨by rw [hg1], v4, _, A4, H3, ⟨by rw [← hcn]; rw [Int.natCast_add]; exact hw4, ho4, hr4.own, hh4, Hh3.out, hap4⟩, by rw [Hr.out]; rw [← hcn]; exact hg2, (Hna.out.trans hn4 (by have := HT3.out.size; have h6 : w3.heap.size = w3.drew.heap.size := rfl; have := Hsz.out; have := Hs3.out; omega)).mono (by omega), Hnh2.out, (HT3.out.drew).step ht4 (.inl Hna.out)⟩)
          clear hh4 hp4 ho4 hw4 hn4 ht4 hg1 hg2 hcn hr4 hap4
          go_wp2
          go_ret
          exact HF.out
    · obtain ⟨ada, capa, hva⟩ := own_sliceA hst.ownA
      have hA0 : A.length = 0 := by omega
      have hx0 : wr.cell? ⟨X, 0, none⟩ = some (.slice ada A.length capa) := by have := hst.whole.cell (i := 0) rfl; rw [hva] at this; exact this
      have hAz : decide (A.length = 0) = true := by simp only [decide_eq_true_eq]; exact hA0
      have Hst := Lib.hid hst
      have Hti := Lib.hid hti
      have Hrun := Lib.hid hrun
      have Ht := Lib.hid ht
      have Hna := Lib.hid hna
      have Hnh := Lib.hid hnh
      have Hvw := Lib.hid hvw
      have Hgk := Lib.hid hgk
      have Hall := Lib.hid (heap_first hst.heapA (s := a) (fun h => absurd h hA))
      clear hst hva hti hrun ht hna hnh hvw hgk hA hA0 hfd0 hfd1
      go_wp2_with fail
      go_quiet ((go_at_call 35; exact Calls.hush (quiet_same (emptyA_is X A.length capa _ _ (by exact hx0) hAz))))
      have hbx : Below wr.heap.size wr (wr.drewN nq) := (Below.refl _ _).drewN nq
      clear hx0 hAz
      have hst := Hst.out.below hbx
      have Hst2 := Lib.hid hst
      have Hsz := Lib.hid (show w.heap.size + 1 ≤ (wr.drewN nq).heap.size from Nat.le_trans hrl hbx.size)
      have Hrun2 := Lib.hid (Hrun.out.below hbx hrl)
      have Ht2 := Lib.hid (Ht.out.bel hbx)
      have Hva := Lib.hid (show va1.ownBlock ≠ some w.heap.size from fun h => Hvw.out.1 h)
      have Hlen := Lib.hid (show A.length + H.length ≤ 12 from by have := Hti.out.len; omega)
      by_cases hH : 0 < H.length
      · obtain ⟨g, cap, rfl, hrowB⟩ := own_rowB hst.ownH hH
        have hx1 := hst.whole.cell (i := 1) rfl
        have Hw := Lib.hid hst.whole
        have HrB := Lib.hid hrowB
        have Hnew := Lib.hid (Hti.out.keep Hall.out hH)
        have HhH := Lib.hid hst.heapH
        have HoA := Lib.hid hst.ownA
        have HhA := Lib.hid hst.heapA
        have Hap := Lib.hid hst.apart
        have Hnh2 := Lib.hid (show NewOr w.heap.size vh (.slice (some ⟨g, 0, none⟩) H.length cap) from Hnh.out.mono (by omega))
        have Hgw := Lib.hid (show g = w.heap.size → False from fun h => Hvw.out.2 (by rw [← h]; rfl))
        have Hrun := Lib.hid Hrun2.out
        have Ht := Lib.hid Ht2.out
        have hHz : decide (H.length = 0) = false := by simp only [decide_eq_false_iff_not]; omega
        have hNeq : ∀ n', NewOr w.heap.size vh (.slice (some ⟨g, 0, none⟩) n' cap) := fun _ => Hnh2.out
        have HNeq := Lib.hid hNeq
        clear hst hrowB hH hNeq
        go_wp2_with fail
        refine (emptyB_is X H.length cap _ _ hx1 hHz).mono ?_; rintro e w' ⟨rfl, rfl⟩
        have hgX : g ≠ X := by have := HrB.out.base; omega
        go_wp2_with fail
        refine (popB_any F1 X g cap va1 (.int .i64 ((cntTo l rest i) : Int)) H _ Hw.out HrB.out HhH.out Hnew.out.some_ (by have := Hlen.out; omega) hXF).mono ?_; rintro e w3 ⟨rfl, H3, hh3, hp3, hr3, hw3, ht3⟩
        have hlo := fun k hk => (HoA.out.lt k hk).1
        have hoA3 := own_touch HoA.out ht3 (fun k hk => by rintro (h | h); (have := hlo k hk; omega); exact Hap.out k hk (by rw [h]; rfl))
        have hgt : g ≠ w.heap.size := by rintro rfl; exact Hgw.out rfl
        have hrun3 := Hrun.out.keptT ht3 (by rintro (h | h); omega; exact hgt h.symm)
        have hT3 := Ht.out.step (ht3.own (n := H.length) (c := cap)) (.inr Hnh.out)
        have hd3 := hrun3.cell (i := 1) rfl
        have hl3 := hrun3.lt
        have hs3 := hT3.size
        have Hoa3 := Lib.hid hoA3
        have Hrun3 := Lib.hid hrun3
        have HT3 := Lib.hid hT3
        have Hw3 := Lib.hid hw3
        have Hr3 := Lib.hid hr3
        have Hh3 := Lib.hid hh3
        have Hp3 := Lib.hid hp3
        have Hs3 := Lib.hid ht3.size
        clear hoA3 hrun3 hT3 hw3 hr3 hh3 hp3 ht3 hlo
        generalize htt : (H.getD 0 pl0).2 = tt at *
        have Htt := Lib.hid htt; clear htt
        have hAl : A.length ≤ 50 := by have := Hlen.out; omega
        go_wp2_with fail
        go_region_held3 (fun w' => w'.cell? ⟨w.heap.size, 1, none⟩ = some (.int .i64 b)) (first | (go_keep; done) | exact (ht4.cell hl3 (by rintro (h | h); omega; exact Hva.out h)).trans (by first | assumption | (go_simp; done)))
          (first | (go_at_call 41; refine (pushA_any F1 X va1 (.slice (some ⟨g, 0, none⟩) H3.length cap) (.int .i64 ((cntTo l rest i) : Int)) A tt (b + rest) w3.drew Hw3.out Hoa3.out HhA.out hAl hXF (by have := HT3.out.size; simp; omega)).mono ?_; rintro e w4 ⟨rfl, v4, A4, hh4, hp4, ho4, hw4, hn4, ht4⟩))
        have hgo := TNew.go (s' := a) (p := H.getD 0 pl0) (A' := A4) (H' := H3) Hz.out hi (by rw [Hr.out]; exact Hnew.out) Hp3.out (heap_least HhH.out) (by rw [Htt.out, Hr.out]; exact hp4) (by rw [Hr.out]; exact Int.le_refl _)
        obtain ⟨hg1, hg2⟩ := hgo
        rw [Htt.out] at hg1
        have hcn := hg2.cnt
        have ht4d : Touch (fun k => k = X ∨ va1.ownBlock = some k) w3 w4 := ⟨ht4.os, ht4.tape, ht4.output, ht4.size, ht4.block⟩
        have hr4 := Hr3.out.touch ht4d (by rintro (h | h); exact hgX h; exact Hap.out g h rfl)
        have hap4 : ∀ k, v4.ownBlock = some k → (Value.slice (some ⟨g, 0, none⟩) H3.length cap).ownBlock ≠ some k := fun k hk e => by
          have e' : g = k := by injection e
          rcases hn4 with h | ⟨x, h1, h2⟩
          · exact Hap.out k (by rw [← h]; exact hk) e
          · rw [h1] at hk; injection hk with hk; have h5 := Hr3.out.lt; have h6 : w3.heap.size ≤ x := h2; omega
        have HF := Lib.hid (show SendOut l rest i F1 X va vh w (.returned (.int .i64 tt)) w4 from ⟨by rw [hg1], v4, _, A4, H3, ⟨by rw [← hcn]; exact hw4, ho4, hr4.own, hh4, Hh3.out, hap4⟩, by rw [Hr.out]; rw [← hcn]; exact hg2, (Hna.out.trans hn4 (by have := HT3.out.size; have h6 : w3.heap.size = w3.drew.heap.size := rfl; have := Hsz.out; have := Hs3.out; omega)).mono (by omega), Hnh2.out, (HT3.out.drew).step ht4 (.inl Hna.out)⟩)
        clear hh4 hp4 ho4 hw4 hn4 ht4 hg1 hg2 hcn hr4 hap4
        go_wp2
        go_ret
        exact HF.out
      · have hH0 : H.length = 0 := by omega
        obtain rfl : H = [] := List.eq_nil_of_length_eq_zero hH0
        obtain ⟨adh, caph, hvh⟩ := own_sliceB hst.ownH
        have hx1 : (wr.drewN nq).cell? ⟨X, 1, none⟩ = some (.slice adh 0 caph) := by have := hst.whole.cell (i := 1) rfl; rw [hvh] at this; exact this
        have hx2 := hst.whole.cell (i := 2) rfl
        have hx3 := Hst.out.whole.cell (i := 2) rfl
        have Hfr := Lib.hid (fun H' hp => Hti.out.fresh (H' := H') Hall.out hp)
        have Hw := Lib.hid (show Whole (wr.drewN nq).drew X 60 #[va1, vh1, .int .i64 (cntTo l rest i : Int)] from hst.whole)
        have HoH := Lib.hid (show (wr.drewN nq).drew.ownsRow F1 67 1 vh1 ([] : List Pl).length (encB []) from hst.ownH)
        have HoA := Lib.hid hst.ownA
        have HhA := Lib.hid hst.heapA
        have HhH := Lib.hid hst.heapH
        have Hap := Lib.hid hst.apart
        have Hrun := Lib.hid Hrun2.out
        have Ht := Lib.hid Ht2.out
        have hcb : (cntTo l rest i : Int) ≤ 12 := by have := Hti.out.len.2; omega
        have hc0 : (0 : Int) ≤ (cntTo l rest i : Int) := Int.natCast_nonneg _
        have HFd := Lib.hid hF
        clear hst hH hH0 hvh
        generalize cntTo l rest i = cn at *
        go_wp2_with fail
        refine (emptyB_is X 0 caph _ _ hx1 rfl).mono ?_; rintro e w' ⟨rfl, rfl⟩
        go_wp2_with fail
        go_region_held3 (fun w' => w'.cell? ⟨X, 2, none⟩ = some (.int .i64 (cn : Int))) (first | (go_keep; done) | exact hwP.cell (i := 2) rfl)
          (first | (go_at_call 37; refine (pushB_any F1 X vh1 va1 (.int .i64 (cn : Int)) [] (cn : Int) (wr.drewN nq).drew Hw.out HoH.out HhH.out (by simp) hXF (by have h1 : (wr.drewN nq).drew.heap.size = (wr.drewN nq).heap.size := rfl; have := Hsz.out; omega)).mono ?_; rintro e wP ⟨rfl, vP, HP, hhP, hpP, hoP, hwP, hnP, htP⟩))
        have hx22 := hwP.cell (i := 2) rfl
        have hf22 := hwP.free 2
        have hnew := Hfr.out HP hpP
        have hHP : HP.length = 1 := by have := hpP.length_eq; simpa using this
        have hlo := fun k hk => (HoA.out.lt k hk).1
        have htP2 : Touch (fun k => k = X ∨ vh1.ownBlock = some k) (wr.drewN nq) wP := ⟨htP.os, htP.tape, htP.output, htP.size, htP.block⟩
        have hsP : (wr.drewN nq).heap.size ≤ wP.heap.size := htP2.size
        obtain ⟨g, cap, rfl, hrowB⟩ := own_rowB hoP (by omega)
        have hapP : ∀ k, va1.ownBlock = some k → (Value.slice (some ⟨g, 0, none⟩) HP.length cap).ownBlock ≠ some k := fun k hk e => by
          have hkl := (HoA.out.lt k hk).2
          rcases hnP with h | ⟨x, h1, h2⟩
          · exact Hap.out k hk (by rw [← h]; exact e)
          · have h4 : k = x := by rw [e] at h1; injection h1
            have h3 : (wr.drewN nq).heap.size ≤ x := h2
            omega
        have hgv : g ≠ w.heap.size := by
          rintro rfl
          rcases hnP with h | ⟨x, h1, h2⟩
          · exact Hvw.out.2 (by rw [← h]; rfl)
          · have h4 : w.heap.size = x := by injection h1
            have h3 : (wr.drewN nq).heap.size ≤ x := h2
            have := Hsz.out; omega
        have hgX : g ≠ X := by have := hrowB.base; omega
        have hoA2 := own_touch HoA.out htP2 (fun k hk => by rintro (h | h); (have := hlo k hk; omega); exact Hap.out k hk h)
        have hrun2 := Hrun.out.keptT htP2 (by rintro (h | h); omega; exact Hvw.out.2 h)
        have hT2 := Ht.out.step htP2 (.inr Hnh.out)
        have hnhP : NewOr (w.heap.size + 1) vh (.slice (some ⟨g, 0, none⟩) HP.length cap) := Hnh.out.trans hnP (by have h3 : (wr.drewN nq).drew.heap.size = (wr.drewN nq).heap.size := rfl; have := Hsz.out; omega)
        have tS : ∀ (u : Value), Touch (fun k => k = X) wP (wP.setCell ⟨X, 2, none⟩ u) := fun u => (Touch.refl (fun k => k = X) wP).setCell rfl u
        have HrB := Lib.hid (fun u => hrowB.touch (tS u) hgX)
        have Hw := Lib.hid (hwP.set 2 (.int .i64 ((cn : Int) + 1)))
        have HoA := Lib.hid (fun u => own_touch hoA2 (tS u) (fun k hk h => by have := hlo k hk; omega))
        have Hrun := Lib.hid (fun u => hrun2.keptT (tS u) (by omega))
        have Ht := Lib.hid (fun u => hT2.trans2 (tS u) (fun j hj _ => .inl hj))
        have Hap := Lib.hid hapP
        have Hnh := Lib.hid hnhP
        have Hnh2 := Lib.hid (show NewOr w.heap.size vh (.slice (some ⟨g, 0, none⟩) HP.length cap) from hnhP.mono (by omega))
        have Hgw := Lib.hid (show g = w.heap.size → False from hgv)
        have Hnew := Lib.hid hnew
        have HhH := Lib.hid hhP
        have Hlen := Lib.hid (show A.length + HP.length ≤ 13 from by have := Hlen.out; simp at this; omega)
        have Hsz := Lib.hid (show w.heap.size + 1 ≤ wP.heap.size from by have := Hsz.out; omega)
        clear hnew hHP hlo htP2 hapP hgv hgX hoA2 hrun2 hT2 hnhP tS hrowB hwP hoP htP hnP hpP hhP hx1 hx2 hx3
        have HrB := Lib.hid (HrB.out (.int .i64 ((cn : Int) + 1)))
        have HoA := Lib.hid (HoA.out (.int .i64 ((cn : Int) + 1)))
        have Hrun := Lib.hid (Hrun.out (.int .i64 ((cn : Int) + 1)))
        have Ht := Lib.hid (Ht.out (.int .i64 ((cn : Int) + 1)))
        have hgX : g ≠ X := by have := HrB.out.base; omega
        go_wp2_with fail
        refine (popB_any F1 X g cap va1 (.int .i64 ((cn : Int) + 1)) HP _ Hw.out HrB.out HhH.out Hnew.out.some_ (by have := Hlen.out; omega) hXF).mono ?_; rintro e w3 ⟨rfl, H3, hh3, hp3, hr3, hw3, ht3⟩
        have hlo := fun k hk => (HoA.out.lt k hk).1
        have hoA3 := own_touch HoA.out ht3 (fun k hk => by rintro (h | h); (have := hlo k hk; omega); exact Hap.out k hk (by rw [h]; rfl))
        have hgt : g ≠ w.heap.size := by rintro rfl; exact Hgw.out rfl
        have hrun3 := Hrun.out.keptT ht3 (by rintro (h | h); omega; exact hgt h.symm)
        have hT3 := Ht.out.step (ht3.own (n := HP.length) (c := cap)) (.inr Hnh.out)
        have hd3 := hrun3.cell (i := 1) rfl
        have hl3 := hrun3.lt
        have hs3 := hT3.size
        have Hoa3 := Lib.hid hoA3
        have Hrun3 := Lib.hid hrun3
        have HT3 := Lib.hid hT3
        have Hw3 := Lib.hid hw3
        have Hr3 := Lib.hid hr3
        have Hh3 := Lib.hid hh3
        have Hp3 := Lib.hid hp3
        have Hs3 := Lib.hid ht3.size
        clear hoA3 hrun3 hT3 hw3 hr3 hh3 hp3 ht3 hlo
        generalize htt : (HP.getD 0 pl0).2 = tt at *
        have Htt := Lib.hid htt; clear htt
        have hAl : A.length ≤ 50 := by have := Hlen.out; omega
        go_wp2_with fail
        go_region_held3 (fun w' => w'.cell? ⟨w.heap.size, 1, none⟩ = some (.int .i64 b)) (first | (go_keep; done) | exact (ht4.cell hl3 (by rintro (h | h); omega; exact Hva.out h)).trans (by first | assumption | (go_simp; done)))
          (first | (go_at_call 41; refine (pushA_any F1 X va1 (.slice (some ⟨g, 0, none⟩) H3.length cap) (.int .i64 ((cn : Int) + 1)) A tt (b + rest) w3.drew Hw3.out Hoa3.out HhA.out hAl hXF (by have := HT3.out.size; simp; omega)).mono ?_; rintro e w4 ⟨rfl, v4, A4, hh4, hp4, ho4, hw4, hn4, ht4⟩))
        have hgo := TNew.go (s' := a) (p := HP.getD 0 pl0) (A' := A4) (H' := H3) Hz.out hi (by rw [Hr.out]; exact Hnew.out) Hp3.out (heap_least HhH.out) (by rw [Htt.out, Hr.out]; exact hp4) (by rw [Hr.out]; exact Int.le_refl _)
        obtain ⟨hg1, hg2⟩ := hgo
        rw [Htt.out] at hg1
        have hcn := hg2.cnt
        have ht4d : Touch (fun k => k = X ∨ va1.ownBlock = some k) w3 w4 := ⟨ht4.os, ht4.tape, ht4.output, ht4.size, ht4.block⟩
        have hr4 := Hr3.out.touch ht4d (by rintro (h | h); exact hgX h; exact Hap.out g h rfl)
        have hap4 : ∀ k, v4.ownBlock = some k → (Value.slice (some ⟨g, 0, none⟩) H3.length cap).ownBlock ≠ some k := fun k hk e => by
          have e' : g = k := by injection e
          rcases hn4 with h | ⟨x, h1, h2⟩
          · exact Hap.out k (by rw [← h]; exact hk) e
          · rw [h1] at hk; injection hk with hk; have h5 := Hr3.out.lt; have h6 : w3.heap.size ≤ x := h2; omega
        have HF := Lib.hid (show SendOut l rest i F1 X va vh w (.returned (.int .i64 tt)) w4 from ⟨by rw [hg1], v4, _, A4, H3, ⟨by rw [← hcn]; rw [Int.natCast_add]; exact hw4, ho4, hr4.own, hh4, Hh3.out, hap4⟩, by rw [Hr.out]; rw [← hcn]; exact hg2, (Hna.out.trans hn4 (by have := HT3.out.size; have h6 : w3.heap.size = w3.drew.heap.size := rfl; have := Hsz.out; have := Hs3.out; omega)).mono (by omega), Hnh2.out, (HT3.out.drew).step ht4 (.inl Hna.out)⟩)
        clear hh4 hp4 ho4 hw4 hn4 ht4 hg1 hg2 hcn hr4 hap4
        go_wp2
        go_ret
        exact HF.out

end Go.Proofs.Ytmcapcclnkicbab
