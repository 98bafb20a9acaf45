/- StopsWait: program and model. -/
import Derived.Test.YtmphpbjmpokjjabSC
import Derived.Test.YtmphpbjmpokjjabSD
import Derived.LaidEqlPtr
namespace Go.Proofs.Ytmphpbjmpokjjab
open Go.RowKit

/-- The waits at the stops 1 to k. -/
def waitTo (l : List Rd) : Nat → Int
  | 0 => 0
  | k + 1 => waitTo l k + ((l.getD (k + 1) rd0).m - (l.getD (k + 1) rd0).b)

def waitV (n : Int) (l : List Rd) : Int := if validS n l = true then waitTo l (l.length - 2) else -1

theorem waitTo_bd {n : Int} {l : List Rd} (h : validS n l = true) : ∀ (k : Nat), k + 1 ≤ l.length → 0 ≤ waitTo l k ∧ waitTo l k ≤ 10000 * k
  | 0, _ => ⟨Int.le_refl _, by show (0 : Int) ≤ _; omega⟩
  | k + 1, hk => by
    have h1 := waitTo_bd h k (by omega)
    have h2 := validS_at h (show k + 1 < l.length by omega)
    show 0 ≤ waitTo l k + _ ∧ waitTo l k + _ ≤ _
    omega

theorem neq_ptr_other {P : Program} (w : World) {tp te : TypeId} {j : TypeInfo} {x y : Nat} {cx cy : Array Value} {tx ty : TypeId} (hp : P.underlying tp = some (.pointer te)) (hte : P.info? te = some j) (hsz : j.size ≠ 0)
    (hne : x ≠ y) (hx : Whole w x tx cx) (hy : Whole w y ty cy) :
    (binOp .neq tp (.pointer (some ⟨x, 0, none⟩)) (.pointer (some ⟨y, 0, none⟩))).run P w = .ok (.bool true) w := by
  have hne' : (⟨x, 0, none⟩ : Addr) ≠ ⟨y, 0, none⟩ := fun e => hne (by injection e)
  have h : ∀ d : Nat, (Op.equalIn (d + 1) tp (.pointer (some ⟨x, 0, none⟩)) (.pointer (some ⟨y, 0, none⟩))).run P w = .ok false w := fun d => by
    simp [Op.equalIn, run_underlying hp, sizeOf, typeInfo, hte, hsz, run_sameAddr_other w hne' hx hy]
  simp only [binOp]
  simp [Op.equal, Op.maxDepth, h 9999]

theorem neq_ptr_same {P : Program} (w : World) {tp te : TypeId} {j : TypeInfo} (a : Addr) (hp : P.underlying tp = some (.pointer te)) (hte : P.info? te = some j) :
    (binOp .neq tp (.pointer (some a)) (.pointer (some a))).run P w = .ok (.bool false) w := by
  have h : ∀ d : Nat, (Op.equalIn (d + 1) tp (.pointer (some a)) (.pointer (some a))).run P w = .ok true w := fun d => by
    simp [Op.equalIn, run_underlying hp, sizeOf, typeInfo, hte, run_sameAddr_same]
  simp only [binOp]
  simp [Op.equal, Op.maxDepth, h 9999]

theorem haltInfo : (Try.prog.info? 70).map (fun i => i.size) = some 6 := by kernel_rfl

set_option maxHeartbeats 400000 in
theorem wait_any (g : Nat) (b m : Int) (w : World) (c1 : w.cell? ⟨g, 1, none⟩ = some (.int .i64 b)) (c2 : w.cell? ⟨g, 2, none⟩ = some (.int .i64 m)) (h0 : 0 ≤ b) (h1 : b ≤ m) (h2 : m ≤ 10000) :
    Calls Try.prog 58 #[.pointer (some ⟨g, 0, none⟩)] w fun e w' => e = .returned (.int .i64 (m - b)) ∧ Below w.heap.size w w' := by
  go_enter Try.func58, Try.ntmps58
  go_wp2
  go_quiet (fail)
  go_wp2
  go_ret
  exact ⟨rfl, (Below.refl _ _).drewN _⟩

def W2Rel (l : List Rd) (tb : Nat) (hs : List Nat) (w : World) (gk : Nat) (sv hv : Value) (wr : World) : Prop :=
  ∃ j : Nat, j + 2 + gk = l.length ∧ sv = .int .i64 (waitTo l j) ∧ hv = .pointer (some ⟨hs.getD (j + 1) 0, 0, none⟩) ∧ TT wr tb hs l ∧ Below w.heap.size w wr

set_option maxRecDepth 100000 in
set_option maxHeartbeats 800000 in
theorem wait2_any (n : Int) (v : Value) (l : List Rd) (w : World) (hv : RoadsIn w v l) (hm : l.length ≤ 1048576) :
    Calls Try.prog 26 #[.int .i64 n, v] w (Gives (.int .i64 (waitV n l)) w) := by
  have Hc := Lib.hid (ttOf_any n v l w hv hm)
  clear hv
  obtain ⟨i0, hi, hz1⟩ := Option.map_eq_some_iff.1 haltInfo
  cases hz : validS n l with
  | true =>
    have h2 := (validS_iff.1 hz).1
    obtain ⟨k, hk⟩ : ∃ k, l.length = k + 2 := ⟨l.length - 2, by omega⟩
    have hr : waitV n l = waitTo l k := by
      unfold waitV; rw [if_pos hz, hk]; rfl
    have Hr := Lib.hid hr
    have Hz := Lib.hid hz; clear hz
    have Hk := Lib.hid hk; clear hk hr
    go_enter Try.func26, Try.ntmps26
    go_wp2_with fail
    refine (Hc.out).mono ?_; rintro e w1 ⟨h1, _⟩
    obtain ⟨tb, hs, rfl, htt, _, hb⟩ := h1 Hz.out
    clear h1
    have Htt := Lib.hid htt
    have c0 := htt.first_some (by omega)
    have d0 : w1.cell? ⟨hs.getD 0 0, 5, none⟩ = some (.pointer (some ⟨hs.getD 1 0, 0, none⟩)) := htt.next_some (i := 0) (by omega)
    clear htt
    generalize hs.getD 0 0 = g0 at *
    generalize hg : hs.getD 1 0 = g1 at *
    have Hg := Lib.hid hg; clear hg
    go_wp2
    go_loopg [7, 8] k (fun gk sv hv wr => W2Rel l tb hs w gk sv hv wr)
    case atStart => exact ⟨0, by rw [Hk.out]; omega, rfl, by show _ = Value.pointer (some ⟨hs.getD 1 0, 0, none⟩); rw [Hg.out], Htt.out, hb⟩
    case round =>
      obtain ⟨j, hj, rfl, rfl, htt, hbel⟩ := hrel
      have clast := htt.last_some (k := j + 1 + gk) (by omega)
      obtain ⟨w0, w1'⟩ := waitTo_bd Hz.out j (by omega)
      have hj8 : (j : Int) ≤ 8 := by omega
      by_cases hlt : gk = 0
      · subst hlt
        have hns := neq_ptr_same (P := Try.prog) wr (tp := 66) (te := 70) ⟨hs.getD (j + 1) 0, 0, none⟩ Try.underlying66 hi
        have hjk : j = k := by have := Hk.out; omega
        have Hjk := Lib.hid hjk
        clear htt hjk hj
        simp only [Nat.add_zero] at clast
        generalize hs.getD (j + 1) 0 = gj at *
        generalize hwt : waitTo l j = x at *
        have Hwt := Lib.hid hwt; clear hwt
        go_wp2
        go_ret
        exact ⟨ret_int (by rw [Hr.out, ← Hjk.out]; exact Hwt.out.symm), hbel⟩
      · obtain ⟨gk', rfl⟩ : ∃ g, gk = g + 1 := ⟨gk - 1, by omega⟩
        have hh := htt.halts (j + 1) (by omega)
        have hh2 := htt.halts (j + 1 + (gk' + 1)) (by omega)
        have hinc := htt.inc (j + 1) (j + 1 + (gk' + 1)) (by omega) (by omega)
        have hns := neq_ptr_other (P := Try.prog) wr (tp := 66) (te := 70) Try.underlying66 hi (by rw [hz1]; omega) (Nat.ne_of_lt hinc) hh hh2
        have d1 := htt.arrive (i := j + 1) (by omega)
        have d2 := htt.leave (i := j + 1) (by omega)
        have d5 := htt.next_some (i := j + 1) (by omega)
        obtain ⟨_, _, a1, a2, a3, _⟩ := validS_at Hz.out (show j + 1 < l.length by omega)
        have hsum : waitTo l (j + 1) = waitTo l j + ((l.getD (j + 1) rd0).m - (l.getD (j + 1) rd0).b) := rfl
        have Hsum := Lib.hid hsum; clear hsum
        have Htt2 := Lib.hid htt; clear htt hh hh2 hinc
        have hl1 : hs.getD (j + 1) 0 < wr.heap.size := (Htt2.out.halts (j + 1) (by omega)).lt
        generalize hgj : hs.getD (j + 1) 0 = gj at *
        generalize hs.getD (j + 1 + (gk' + 1)) 0 = gl at *
        generalize hg5 : hs.getD (j + 1 + 1) 0 = g5 at *
        generalize hwt : waitTo l j = x at *
        generalize (l.getD (j + 1) rd0).m = m at *
        generalize (l.getD (j + 1) rd0).b = b at *
        have Hwt := Lib.hid hwt
        have Hgj := Lib.hid hgj
        have Hg5' := Lib.hid hg5
        clear hwt hgj hg5
        go_wp2_with fail
        refine (wait_any gj b m _ d1 d2 a1 a2 a3).mono ?_; rintro e w5 ⟨rfl, hb5⟩
        have d5' : w5.cell? ⟨gj, 5, none⟩ = some (.pointer (some ⟨g5, 0, none⟩)) := keepCell hb5 d5
        have Htt5 := Lib.hid (Htt2.out.below hb5)
        have hbel5 := hbel.trans (hb5.mono hbel.size)
        clear d1 d2 d5 clast hns
        go_wp2
        go_roundg gk'
        case measure => omega
        case rel => exact ⟨j + 1, by omega, by rw [Hsum.out], by rw [Hg5'.out], Htt5.out, hbel5⟩
  | false =>
    have hr : waitV n l = -1 := by unfold waitV; rw [hz]; rfl
    rw [hr]
    have Hz := Lib.hid hz; clear hz hr
    go_enter Try.func26, Try.ntmps26
    go_wp2_with fail
    refine (Hc.out).mono ?_; rintro e w1 ⟨_, h1⟩
    obtain ⟨rfl, hb⟩ := h1 Hz.out
    clear h1
    go_wp2
    go_ret
    exact ⟨rfl, hb⟩

def W1Rel (l : List Rd) (w : World) (sv iv : Value) (wr : World) : Prop :=
  ∃ k j : Nat, k = j + 1 ∧ k + 1 ≤ l.length ∧ iv = .int .i64 k ∧ sv = .int .i64 (waitTo l j) ∧ Below w.heap.size w wr

end Go.Proofs.Ytmphpbjmpokjjab
