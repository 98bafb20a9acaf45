/- The program's way-bill: its room, a parcel more. -/
import Derived.Test.YtmdcpigobfhckaaFS
import Derived.Test.YtmdcpigobfhckaaFG
import Derived.BigRegion
import Derived.StillTailTactics
namespace Go.Proofs.Ytmdcpigobfhckaa
open Go.RowKit

/-- The greatest of the first k + 1. -/
def maxUp (f : Nat → Int) : Nat → Int
  | 0 => f 0
  | k + 1 => max (maxUp f k) (f (k + 1))
theorem maxUp_mx {l : List Fr} {j : Nat} {a : Int} (h : ∀ g : Int, 0 ≤ load9 l g j) : ∀ (k : Nat), maxUp (fun i => load9 l (a + (i : Nat)) j) k = mxF l j a (k + 1)
  | 0 => by simp only [maxUp, mxF]; have := h (a + (0 : Nat)); omega
  | k + 1 => by rw [maxUp, mxF, maxUp_mx h k]

def MaxRel (f : Nat → Int) (k : Nat) (w : World) (m i : Value) (wr : World) : Prop := ∃ j : Nat, j ≤ k ∧ i = .int .i64 ((j + 1 : Nat) : Int) ∧ m = .int .i64 (maxUp f j) ∧ wr = w

set_option maxHeartbeats 400000 in
theorem max_any (b o k c : Nat) (f : Nat → Int) (w : World) (hk : k < 1000) (hc : ∀ i, i ≤ k → w.cell? ⟨b, o + i, none⟩ = some (.int .i64 (f i))) :
    Calls Try.prog 99 #[.slice (some ⟨b, o, none⟩) (k + 1) c] w (Quiet (.int .i64 (maxUp f k)) w) := by
  have h0 : w.cell? ⟨b, o, none⟩ = some (.int .i64 (f 0)) := by simpa using hc 0 (by omega)
  have Hc := Lib.hid hc; clear hc
  go_enter Try.func99, Try.ntmps99
  go_wp2
  go_loopw [3, 4] (fun m i wr => MaxRel f k w m i wr) (fun _ i _ => k + 1 - (intOf i).toNat)
  case atStart => exact ⟨0, Nat.zero_le _, by go_num, rfl, rfl⟩
  case round =>
    obtain ⟨j, hj, rfl, rfl, rfl⟩ := hrel
    by_cases hlt : j < k
    · have hs : maxUp f (j + 1) = max (maxUp f j) (f (j + 1)) := rfl
      have hcell := Hc.out (j + 1) (by omega)
      have Hs := Lib.hid hs; clear hs
      clear h0
      go_wp2
      exact ⟨⟨j + 1, by omega, by go_num, by rw [Hs.out]; congr 1; split <;> omega, rfl⟩, by simp [intOf]; omega⟩
    · obtain rfl : j = k := by omega
      clear h0
      go_wp2
      go_ret
      exact ⟨rfl, 0, rfl⟩

/-- The way-bill at W with the first j parcels on it. -/
structure WayK (w : World) (W F1 L n : Nat) (pv : Value) (l : List Fr) (j : Nat) : Prop where
  st : Whole w W 80 #[pv, .slice (some ⟨L, 0, none⟩) n n]
  own : OwnK w F1 pv ((List.range j).map (pkF l))
  ld : Whole w L 3 ((loadsL l n j).map (Value.int .i64)).toArray
  lo : F1 ≤ W ∧ F1 ≤ L ∧ L ≠ W
  ap : pv.ownBlock ≠ some L ∧ pv.ownBlock ≠ some W
theorem WayK.below {w w' : World} {W F1 L n : Nat} {pv : Value} {l : List Fr} {j : Nat} (h : WayK w W F1 L n pv l j) (hb : Below w.heap.size w w') : WayK w' W F1 L n pv l j :=
  ⟨h.st.below hb h.st.lt, h.own.below hb, h.ld.below hb h.ld.lt, h.lo, h.ap⟩
theorem WayK.load {w : World} {W F1 L n : Nat} {pv : Value} {l : List Fr} {j : Nat} (h : WayK w W F1 L n pv l j) {g : Nat} (hg : g < n) : w.cell? ⟨L, g, none⟩ = some (.int .i64 (load9 l g j)) :=
  h.ld.cell (by simp [loadsL, hg])

def RoomOut (ok : Bool) (x : Int) (w : World) (e : Ending) (w' : World) : Prop := e = .returned (.tuple #[.int .i64 (if ok then x else 0), .bool ok]) ∧ Below w.heap.size w w'

set_option maxRecDepth 100000 in
set_option maxHeartbeats 2000000 in
theorem room_any (W F1 L n : Nat) (pv : Value) (l : List Fr) (j : Nat) (a b : Int) (w : World) (h : WayK w W F1 L n pv l j) (hn : n ≤ 7) (hj : j ≤ 12) (ho : okFs n l j = true) :
    Calls Try.prog 75 #[.pointer (some ⟨W, 0, none⟩), .agg #[.int .i64 a, .int .i64 b]] w (RoomOut (fitF n a b) (roomF l j a b) w) := by
  have hb0 : Below w.heap.size w (w.alloc (.cells #[.int .i64 a, .int .i64 b] 84)) := (Below.refl _ _).alloc (Nat.le_refl _) _
  have h2 := h.below hb0
  have x1 := h2.st.cell (i := 1) rfl
  have hwl := h.st.lt
  have H2 := Lib.hid h2
  have Hb0 := Lib.hid hb0
  have d0 : (w.alloc (.cells #[.int .i64 a, .int .i64 b] 84)).cell? ⟨w.heap.size, 0, none⟩ = some (.int .i64 a) := by go_simp
  have d1 : (w.alloc (.cells #[.int .i64 a, .int .i64 b] 84)).cell? ⟨w.heap.size, 1, none⟩ = some (.int .i64 b) := by go_simp
  clear h h2 hb0
  go_enter Try.func75, Try.ntmps75
  go_wp2
  generalize w.alloc (.cells #[.int .i64 a, .int .i64 b] 84) = w0 at *
  go_still_tail 6, (by kernel_rfl)
  change wpList _ _ _ _ _ w0.drew
  have Hbd := Lib.hid (Hb0.out.drew)
  have Hd := Lib.hid (show WayK w0.drew W F1 L n pv l j from H2.out.below (Below.refl _ _).drew)
  have d0' : w0.drew.cell? ⟨w.heap.size, 0, none⟩ = some (.int .i64 a) := d0
  have d1' : w0.drew.cell? ⟨w.heap.size, 1, none⟩ = some (.int .i64 b) := d1
  have x1' := Hd.out.st.cell (i := 1) rfl
  clear d0 d1 x1 H2 Hb0
  generalize w0.drew = w2 at *
  go_wp2_with fail
  refine (fits9_any n a b w2).mono ?_; rintro e w3 ⟨rfl, hb3⟩
  have Hd3 := Lib.hid (Hd.out.below hb3)
  have hwl2 := Hbd.out.size
  have Hb3 := Lib.hid (Hbd.out.trans (hb3.mono (by omega)))
  cases hf : fitF n a b with
  | false =>
    have HF := Lib.hid (show RoomOut (fitF n a b) (roomF l j a b) w (.returned (.tuple #[.int .i64 0, .bool false])) w3 by rw [hf]; exact ⟨rfl, Hb3.out⟩)
    clear hf hb3
    go_wp2
    go_ret2
    exact HF.out
  | true =>
    obtain ⟨h0, h1, h2⟩ := fitF_iff.1 hf
    obtain ⟨A, rfl⟩ : ∃ A : Nat, a = A := ⟨a.toNat, by omega⟩
    obtain ⟨k, rfl⟩ : ∃ k : Nat, b = ((A + (k + 1) : Nat) : Int) := ⟨(b - A).toNat - 1, by omega⟩
    have hx := Hd3.out.st.cell (i := 1) rfl
    have hsz := hb3.size
    have d0 : w3.cell? ⟨w.heap.size, 0, none⟩ = some (.int .i64 (A : Int)) := (hb3.cell (p := ⟨w.heap.size, 0, none⟩) (World.block_lt_of_cell? _ _ d0')).trans d0'
    have d1 : w3.cell? ⟨w.heap.size, 1, none⟩ = some (.int .i64 ((A + (k + 1) : Nat) : Int)) := (hb3.cell (p := ⟨w.heap.size, 1, none⟩) (World.block_lt_of_cell? _ _ d1')).trans d1'
    have Hc := Lib.hid (fun (m : Nat) => max_any L A k (n - A) (fun i => load9 l (A + (i : Nat)) j) (w3.drewN m) (by omega) (fun i hi => by
      have := Hd3.out.load (g := A + i) (by omega)
      rw [show ((A + i : Nat) : Int) = (A : Int) + (i : Nat) by omega] at this
      exact this))
    have hmx := maxUp_mx (l := l) (j := j) (a := A) (fun g => (load9_nn ho).1) k
    have hbd := mxF_bd (l := l) (j := j) (a := (A : Int)) (k := k + 1) ho
    have hnn := mxF_nn (l := l) (j := j) (a := (A : Int)) (k := k + 1)
    rw [hmx] at Hc
    have hr : roomF l j A ((A + (k + 1) : Nat) : Int) = 300 - mxF l j A (k + 1) := by unfold roomF; rw [show (((A + (k + 1) : Nat) : Int) - (A : Int)).toNat = k + 1 by omega]
    have Hf := Lib.hid (show ∀ m, RoomOut (fitF n (A : Int) ((A + (k + 1) : Nat) : Int)) (roomF l j A ((A + (k + 1) : Nat) : Int)) w (.returned (.tuple #[.int .i64 (300 - mxF l j A (k + 1)), .bool true])) (w3.drewN m) from fun m => by rw [hf]; exact ⟨by rw [← hr]; rfl, Hb3.out.drewN m⟩)
    clear hmx hr hf hb3 d0' d1' x1' hsz
    generalize mxF l j A (k + 1) = x at *
    have hq0 : (0 : Int) ≤ (A : Int) := Int.natCast_nonneg _
    have e1 : ((A + (k + 1) : Nat) : Int) = (A : Int) + ((k : Int) + 1) := by omega
    rw [e1] at d1 Hf ⊢
    have hsl : ∀ wx, (Instr.slice 29 (.slice (some ⟨L, 0, none⟩) n n) (some (.int .i64 (A : Int))) (some (.int .i64 ((A : Int) + ((k : Int) + 1)))) none).run Try.prog wx = .ok (.slice (some ⟨L, A, none⟩) (k + 1) (n - A)) wx := fun wx => by
      rw [run_slice_lh wx 29 (some ⟨L, 0, none⟩) n n rfl .i64 .i64 (A : Int) ((A : Int) + ((k : Int) + 1)) (by omega) (by omega) (by omega)]
      rw [show ((A : Int) + ((k : Int) + 1)).toNat = A + (k + 1) by omega, Int.toNat_natCast]
      have hs : sliced (some ⟨L, 0, none⟩) A (A + (k + 1)) n 1 = .slice (some ⟨L, A, none⟩) (k + 1) (n - A) := by
        unfold sliced
        rw [if_neg (by omega), Nat.add_sub_cancel_left]
        simp [Addr.add]
        exact fun h => h.symm
      rw [← hs]; rfl
    have hk0 : (0 : Int) ≤ (k : Int) := Int.natCast_nonneg _
    have hkn : (A : Int) + ((k : Int) + 1) ≤ (n : Int) := by omega
    go_wp2_with fail
    go_quiet ((go_at_call 99; exact Calls.hush (Hc.out _)))
    go_wp2
    go_ret2
    exact Hf.out _

end Go.Proofs.Ytmdcpigobfhckaa
