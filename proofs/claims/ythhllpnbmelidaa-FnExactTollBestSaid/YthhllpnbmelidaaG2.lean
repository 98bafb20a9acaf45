/- slices.Backward of numbers: its closure gives them one by one, from the last on. -/
import Derived.Test.YthhllpnbmelidaaRG
import Derived.Test.YthhllpnbmelidaaG1
import Derived.Shelf.Abstract
import Derived.Shelf.RegionOpen
import Derived.OwnWalkIn
import Derived.TacticsInMore
import Derived.LoopNIn
import Derived.LoopIn
namespace Go.Proofs.Ythhllpnbmelidaa
open Go.RowKit Go.Shelf
attribute [local go_sem] Oper.semAt_some
set_option linter.unusedVariables false
set_option linter.unusedSimpArgs false

/-- A place and its number. -/
def encB (ps : List Int) (i : Nat) : Array Value := #[.int .i64 (i : Nat), .int .i64 (ps.getD i 0)]
/-- The last j places, from the last on. -/
def revR (n j : Nat) : List Nat := (List.range j).map (fun i => n - 1 - i)
theorem revR_succ (n j : Nat) : revR n (j + 1) = revR n j ++ [n - 1 - j] := by simp [revR, List.range_succ]
theorem revR_pre {n j k : Nat} (h : j ≤ k) : revR n j <+: revR n k := by
  obtain ⟨d, rfl⟩ : ∃ d, k = j + d := ⟨k - j, by omega⟩
  unfold revR
  rw [List.range_add, List.map_append]
  exact List.prefix_append _ _
theorem revR_len (n j : Nat) : (revR n j).length = j := by simp [revR]
theorem revR_pre_eq {n : Nat} {pre : List Nat} (h : pre <+: revR n n) : pre = revR n pre.length ∧ pre.length ≤ n := by
  have hl := h.length_le
  rw [revR_len] at hl
  refine ⟨?_, hl⟩
  have h2 := revR_pre (n := n) hl
  exact (List.prefix_of_prefix_length_le h h2 (by rw [revR_len]; exact Nat.le_refl _)).eq_of_length (by rw [revR_len])

set_option maxHeartbeats 400000 in
theorem backward_any (ad : Option Addr) (n cap : Nat) (w : World) :
    Calls Try.prog 103 #[.slice ad n cap] w fun e w' => e = .returned (.func (.func 109) #[] #[.pointer (some ⟨w.heap.size, 0, none⟩)]) ∧ w' = w.alloc (.cells #[.slice ad n cap] 39) := by
  go_enter Try.func103, Try.ntmps103
  go_wp2
  go_ret
  exact ⟨rfl, rfl⟩

theorem IntAt.keep {w w' : World} {b o : Nat} {l : List Int} {T : Nat → Prop} (h : IntAt w b o l) (hk : Keep T w w') (hb : b < w.heap.size) (hT : T b) : IntAt w' b o l := fun i hi => (hk.cell (p := ⟨b, o + i, none⟩) hb hT).trans (h i hi)
def BkRel (ps : List Int) (bx sb so n0 : Nat) (sv : Value) (T₀ : Nat → Prop) (J : (Nat → Prop) → List Nat → World → Prop) (iv : Value) (wr : World) : Prop :=
  ∃ (k : Nat) (T : Nat → Prop), k ≤ ps.length ∧ iv = .int .i64 ((ps.length : Int) - 1 - k) ∧ (∀ j, T₀ j → T j) ∧ (∀ j, T j → j < wr.heap.size) ∧ J T (revR ps.length k) wr ∧ wr.cell? ⟨bx, 0, none⟩ = some sv ∧ IntAt wr sb so ps ∧ n0 ≤ wr.heap.size

set_option maxRecDepth 100000 in
set_option maxHeartbeats 1000000 in
theorem back_walk (ad : Option Addr) (bx sb so cap : Nat) (ps : List Int) (T₀ : Nat → Prop) (lp : Nat) (J Jx : (Nat → Prop) → List Nat → World → Prop) (W : World) (hbx : W.cell? ⟨bx, 0, none⟩ = some (.slice ad ps.length cap)) (hne : ps ≠ [] → ad = some ⟨sb, so, none⟩) (hb : sb < W.heap.size) (hx : bx < W.heap.size) (hTb : T₀ sb) (hTx : T₀ bx)
    (hTl : ∀ j, T₀ j → j < W.heap.size) (hl : IntAt W sb so ps) (hpl : ps.length ≤ 1000)
    (hY : ∀ (T : Nat → Prop) (pre : List Nat) (x : Nat) (W1 : World), pre ++ [x] <+: revR ps.length ps.length → W.heap.size ≤ W1.heap.size → (∀ j, T j → j < W1.heap.size) → J T pre W1 → YieldAt Fence.wide 9 Try.prog lp (encB ps x) W1 (Took T J Jx (pre ++ [x]) W1))
    (h0 : J T₀ [] W) :
    Calls Try.prog 109 #[.func (.yield lp) #[] #[], .pointer (some ⟨bx, 0, none⟩)] W fun e W' => (∃ v, e = .returned v) ∧ ∃ T, J T (revR ps.length ps.length) W' ∨ ∃ pre, pre <+: revR ps.length ps.length ∧ Jx T pre W' := by
  have HY := Lib.hid hY
  have HT := Lib.hid hTl
  have Hl := Lib.hid hl
  have H0 := Lib.hid h0
  have Hbx := Lib.hid hbx
  clear hY hTl hl h0
  refine (callsIn_wide (n := 10)).1 ?_
  refine callsIn_of_wp Try.func109 rfl trivial ?_ rfl
  simp only [Try.ntmps109, List.size_toArray, List.length_cons, List.length_nil, Nat.reduceAdd, Nat.reduceSub, Array.replicate_succ, Array.replicate_zero, List.push_toArray, List.append_toArray, List.nil_append, List.cons_append]
  gi_wp2
  clear hbx
  gi_loopw [3] (fun iv wr => BkRel ps bx sb so W.heap.size (.slice ad ps.length cap) T₀ J iv wr) (fun iv _ => (intOf iv + 1).toNat)
  case atStart => exact ⟨0, T₀, Nat.zero_le _, by simp, fun _ h => h, HT.out, H0.out, Hbx.out, Hl.out, Nat.le_refl _⟩
  case round =>
    obtain ⟨k, T, hk, rfl, hT0, hTl, hj, hcx, hat, hsz⟩ := hrel
    by_cases hlt : k < ps.length
    · obtain rfl := hne (by intro e; simp [e] at hlt)
      obtain ⟨m, hm⟩ : ∃ m : Nat, m = ps.length - 1 - k := ⟨_, rfl⟩
      have hmi : (ps.length : Int) - 1 - (k : Int) = (m : Int) := by omega
      rw [hmi]
      have hml : m < ps.length := by omega
      have c0 := hat m hml
      obtain ⟨fn, tmps, assign, body, hy, hR⟩ := HY.out T (revR ps.length k) m wr (by rw [hm, ← revR_succ]; exact revR_pre (by omega)) hsz hTl hj
      unfold encB at hy
      have hm0 : (0 : Int) ≤ (m : Int) := Int.natCast_nonneg _
      have hm1 : (m : Int) < (ps.length : Int) := by omega
      have Hm := Lib.hid hm
      have Hy := Lib.hid hR
      have Hat := Lib.hid hat
      have HT0 := Lib.hid hT0
      have HTl := Lib.hid hTl
      have Hmi := Lib.hid hmi
      clear hR hat hT0 hTl hj hm hmi
      generalize ps.getD m 0 = x at *
      gi_wp2
      refine Hy.out.mono ?_
      rintro e W3 ⟨hk3, ⟨rfl, hJ3⟩ | ⟨rfl, hJx3⟩⟩
      · have hs3 := hk3.size
        have hat3 := Hat.out.keep hk3 (HTl.out sb (HT0.out sb hTb)) (HT0.out sb hTb)
        have cx3 := (hk3.cell (p := ⟨bx, 0, none⟩) (HTl.out _ (HT0.out bx hTx)) (HT0.out bx hTx)).trans hcx
        have Hat3 := Lib.hid hat3
        have HJ3 := Lib.hid hJ3
        have HC3 := Lib.hid cx3
        clear hat3 hJ3 cx3 hcx hk3
        gi_wp2
        go_roundw
        case rel => exact ⟨k + 1, T, hlt, by have := Hmi.out; have := Hm.out; go_num, HT0.out, fun j hj => Nat.lt_of_lt_of_le (HTl.out j hj) hs3, by rw [revR_succ, ← Hm.out]; exact HJ3.out, HC3.out, Hat3.out, by omega⟩
        case measure => simp [intOf] <;> omega
      · have HJx3 := Lib.hid hJx3
        clear hJx3 hcx hk3
        gi_wp2
        refine bodyPost_ret (results_none rfl _ _ _) rfl ?_
        exact ⟨⟨_, rfl⟩, T, .inr ⟨_, by rw [Hm.out, ← revR_succ]; exact revR_pre (by omega), HJx3.out⟩⟩
    · obtain rfl : k = ps.length := by omega
      have hmi : (ps.length : Int) - 1 - (ps.length : Int) = -1 := by omega
      rw [hmi]
      have Hj := Lib.hid hj
      clear hj hcx hat hmi
      gi_wp2
      go_end0
      exact ⟨⟨_, rfl⟩, T, .inl Hj.out⟩

/-- What Backward gives: all places, from the last on. -/
theorem back_comes (ad : Option Addr) (bx sb so cap : Nat) (ps : List Int) (T₀ : Nat → Prop) (w : World) (hbx : w.cell? ⟨bx, 0, none⟩ = some (.slice ad ps.length cap)) (hne : ps ≠ [] → ad = some ⟨sb, so, none⟩) (hb : sb < w.heap.size) (hx : bx < w.heap.size) (hTb : T₀ sb) (hTx : T₀ bx)
    (hTl : ∀ j, T₀ j → j < w.heap.size) (hl : IntAt w sb so ps) (hpl : ps.length ≤ 1000) :
    Comes Try.prog 109 #[.pointer (some ⟨bx, 0, none⟩)] (encB ps) T₀ (revR ps.length ps.length) w := fun lp J Jx W hW hJ hJx hY h0 =>
  back_walk ad bx sb so cap ps T₀ lp J Jx W ((hW.cell (p := ⟨bx, 0, none⟩) hx).trans hbx) hne (Nat.lt_of_lt_of_le hb hW.size) (Nat.lt_of_lt_of_le hx hW.size) hTb hTx (fun j hj => Nat.lt_of_lt_of_le (hTl j hj) hW.size) (hl.below hW hb) hpl hY h0

end Go.Proofs.Ythhllpnbmelidaa
