/- milesOf: its closure gives the miles of a road one by one, each with its owner. -/
import Derived.Test.YthdkjjfnockldaaRG
import Derived.Test.YthdkjjfnockldaaQA
import Derived.Test.YthdkjjfnockldaaQW
import Derived.Shelf.Abstract
import Derived.Shelf.RegionOpen
import Derived.OwnWalkIn
import Derived.TacticsInMore
import Derived.LoopNIn
import Derived.LoopIn
namespace Go.Proofs.Ythdkjjfnockldaa
open Go.RowKit Go.Shelf
attribute [local go_sem] Oper.semAt_some

/-- A mile's number and its owner. -/
def encO (own : Nat → Int) (k : Nat) : Array Value := #[.int .i64 (k : Nat), .int .i64 (own k)]

set_option maxHeartbeats 400000 in
theorem milesOf_any (ad : Option Addr) (n cap : Nat) (w : World) :
    Calls Try.prog 51 #[.slice ad n cap] w fun e w' => e = .returned (.func (.func 77) #[] #[.pointer (some ⟨w.heap.size, 0, none⟩)]) ∧ w' = w.alloc (.cells #[.slice ad n cap] 23) := by
  go_enter Try.func51, Try.ntmps51
  go_wp2
  go_ret
  exact ⟨rfl, rfl⟩

def MoRel (l : List Pt) (b o n : Nat) (T₀ : Nat → Prop) (J : (Nat → Prop) → List Nat → World → Prop) (m i : Value) (wr : World) : Prop :=
  ∃ (k : Nat) (T : Nat → Prop), k ≤ l.length ∧ i = .int .i64 k ∧ m = .int .i64 ((ownP (l.take k)).length : Nat) ∧ (∀ j, T₀ j → T j) ∧ (∀ j, T j → j < wr.heap.size) ∧ J T (List.range (ownP (l.take k)).length) wr ∧ PtAt wr b o l ∧ n ≤ wr.heap.size
def MiRel (l : List Pt) (b o n : Nat) (T₀ : Nat → Prop) (J : (Nat → Prop) → List Nat → World → Prop) (base c pk : Nat) (a : Int) (m i : Value) (wr : World) : Prop :=
  ∃ (k : Nat) (T : Nat → Prop), k ≤ c ∧ i = .int .i64 k ∧ m = .int .i64 ((base + k : Nat) : Int) ∧ (∀ j, T₀ j → T j) ∧ (∀ j, T j → j < wr.heap.size) ∧ J T (List.range (base + k)) wr ∧ PtAt wr b o l ∧ n ≤ wr.heap.size ∧ T pk ∧ wr.cell? ⟨pk, 0, none⟩ = some (.int .i64 a)

theorem range_pre {n k : Nat} (h : k < n) : List.range k ++ [k] <+: List.range n := by
  rw [← List.range_succ]
  obtain ⟨d, rfl⟩ : ∃ d, n = (k + 1) + d := ⟨n - (k + 1), by omega⟩
  rw [List.range_add]
  exact List.prefix_append _ _

theorem PtAt.keep {w w' : World} {b o : Nat} {l : List Pt} {T : Nat → Prop} (h : PtAt w b o l) (hk : Keep T w w') (hb : b < w.heap.size) (hT : T b) : PtAt w' b o l :=
  h.kept fun j => hk.cell (p := ⟨b, j, none⟩) hb hT

set_option maxRecDepth 100000 in
set_option maxHeartbeats 1000000 in
theorem miles_walk (pb b o cap : Nat) (l : List Pt) (T₀ : Nat → Prop) (lp : Nat) (J Jx : (Nat → Prop) → List Nat → World → Prop) (W : World) (hpb : W.cell? ⟨pb, 0, none⟩ = some (.slice (some ⟨b, o, none⟩) l.length cap)) (hb : b < W.heap.size) (hTb : T₀ b)
    (hTl : ∀ j, T₀ j → j < W.heap.size) (hz : validP l = true) (hl : PtAt W b o l) (hJ : Abide W.heap.size J) (hJx : Abide W.heap.size Jx)
    (hY : ∀ (T : Nat → Prop) (pre : List Nat) (x : Nat) (W1 : World), pre ++ [x] <+: List.range (ownP l).length → W.heap.size ≤ W1.heap.size → (∀ j, T j → j < W1.heap.size) → J T pre W1 → YieldAt Fence.wide 9 Try.prog lp (encO (ownAt l) x) W1 (Took T J Jx (pre ++ [x]) W1))
    (h0 : J T₀ [] W) :
    Calls Try.prog 77 #[.func (.yield lp) #[] #[], .pointer (some ⟨pb, 0, none⟩)] W fun e W' => (∃ v, e = .returned v) ∧ ∃ T, J T (List.range (ownP l).length) W' ∨ ∃ pre, pre <+: List.range (ownP l).length ∧ Jx T pre W' := by
  have hl12 := (validP_iff.1 hz).2.1
  have Hz := Lib.hid hz
  have HJ := Lib.hid hJ
  have HY := Lib.hid hY
  have HT := Lib.hid hTl
  clear hz hJ hY hTl
  refine (callsIn_wide (n := 10)).1 ?_
  refine callsIn_of_wp Try.func77 rfl trivial ?_ rfl
  simp only [Try.ntmps77, List.size_toArray, List.length_cons, List.length_nil, Nat.reduceAdd, Nat.reduceSub, Array.replicate_succ, Array.replicate_zero, List.push_toArray, List.append_toArray, List.nil_append, List.cons_append]
  gi_wp2
  gi_loopw [3, 8] (fun m i wr => MoRel l b o W.heap.size T₀ J m i wr) (fun _ i _ => l.length - (intOf i).toNat)
  case atStart => exact ⟨0, T₀, Nat.zero_le _, rfl, rfl, fun _ h => h, HT.out, h0, hl, Nat.le_refl _⟩
  case round =>
    obtain ⟨k, T, hk, rfl, rfl, hT0, hTl, hj, hat, hsz⟩ := hrel
    by_cases hlt : k < l.length
    · obtain ⟨wo, rfl⟩ : ∃ wo, wo = wr := ⟨_, rfl⟩
      obtain ⟨c0, c1⟩ := hat k hlt
      have hv := validP_at Hz.out hlt
      have hup := ownP_up hlt
      have hle := ownP_take_le hlt
      have hin := fun j (hj : j < (l.getD k pt0).b.toNat) => ownAt_in hlt hj
      generalize hxa : (l.getD k pt0).a = xa at *
      generalize hxb : (l.getD k pt0).b = xb at *
      generalize hbs : (ownP (l.take k)).length = base at *
      obtain ⟨c, rfl⟩ : ∃ c : Nat, xb = c := ⟨xb.toNat, by omega⟩
      simp only [Int.toNat_natCast] at hup hle hin
      have hc9 : c ≤ 99 := by omega
      have hb9 : base ≤ 1188 := by have := ownP_len Hz.out; omega
      have Hin := Lib.hid hin
      have Hle := Lib.hid hle
      have Hup := Lib.hid hup
      have hbl : b < wo.heap.size := hTl b (hT0 b hTb)
      clear hv hup hle hxa hxb hbs hin
      have hj2 := HJ.out.later (B' := W.heap.size) (Nat.le_refl _) T (fun j => T j ∨ j = wo.heap.size) _ wo (wo.alloc (.cells #[.int .i64 xa, .int .i64 c] 41)) hj
        (Touch.of_below ((Below.refl _ wo).alloc (Nat.le_refl _) _)) (fun j hj => hj.imp id (fun e => by subst e; simp))
      have hat2 : PtAt (wo.alloc (.cells #[.int .i64 xa, .int .i64 c] 41)) b o l := hat.below ((Below.refl _ wo).alloc (Nat.le_refl _) _) hbl
      have Hj2 := Lib.hid hj2
      have Hat2 := Lib.hid hat2
      have HTl := Lib.hid hTl
      have HT0 := Lib.hid hT0
      clear hj hj2 hat2 hat hTl hT0
      gi_wp2
      gi_loopw [3, 14] (fun m i wi => MiRel l b o W.heap.size T₀ J base c wo.heap.size xa m i wi) (fun _ i _ => c - (intOf i).toNat)
      case atStart =>
        refine ⟨0, fun j => T j ∨ j = wo.heap.size, Nat.zero_le _, rfl, rfl, fun j h => .inl (HT0.out j h), fun j h => ?_, Hj2.out, Hat2.out, by simp; omega, .inr rfl, ?_⟩
        · rcases h with h | rfl
          · have := HTl.out j h; simp; omega
          · simp
        · exact news1 wo _ _ 0 _ rfl
      case round =>
        obtain ⟨q, T2, hq, rfl, rfl, hT0, hTl, hj, hat, hsz2, hpk, cpk⟩ := hrel
        by_cases hq2 : q < c
        · obtain ⟨fn, tmps, assign, body, hy, hR⟩ := HY.out T2 (List.range (base + q)) (base + q) wr (range_pre (by have := Hle.out; omega)) hsz2 hTl hj
          rw [show encO (ownAt l) (base + q) = #[.int .i64 ((base : Int) + (q : Int)), .int .i64 xa] by unfold encO; rw [Hin.out q hq2, Int.natCast_add]] at hy
          have hq' : (q : Int) < (c : Int) := by omega
          have Hy := Lib.hid hR
          clear hR
          have Hat := Lib.hid hat
          have HT02 := Lib.hid hT0
          have HTl2 := Lib.hid hTl
          have Hpk := Lib.hid hpk
          clear hat hT0 hTl hpk hj
          gi_wp2
          refine Hy.out.mono ?_
          rintro e W3 ⟨hk3, ⟨rfl, hJ3⟩ | ⟨rfl, hJx3⟩⟩
          · have hs3 := hk3.size
            have hat3 := Hat.out.keep hk3 (HTl2.out b (HT02.out b hTb)) (HT02.out b hTb)
            have cp3 := (hk3.cell (p := ⟨wo.heap.size, 0, none⟩) (HTl2.out _ Hpk.out) Hpk.out).trans cpk
            have Hat3 := Lib.hid hat3
            have HJ3 := Lib.hid hJ3
            have HC3 := Lib.hid cp3
            have hbq : base + q < 1188 := by have := Hle.out; have := ownP_len Hz.out; omega
            clear hat3 hJ3 cp3 cpk hk3
            gi_wp2
            go_roundw
            case rel => exact ⟨q + 1, T2, hq2, by go_num, by go_num, HT02.out, fun j hj => Nat.lt_of_lt_of_le (HTl2.out j hj) hs3, by rw [← Nat.add_assoc, List.range_succ]; exact HJ3.out, Hat3.out, by omega, Hpk.out, HC3.out⟩
            case measure => simp [intOf]; omega
          · have HJx3 := Lib.hid hJx3
            clear hJx3 cpk hk3
            gi_wp2
            refine bodyPost_ret (results_none rfl _ _ _) rfl ?_
            exact ⟨⟨_, rfl⟩, T2, .inr ⟨_, range_pre (by have := Hle.out; omega), HJx3.out⟩⟩
        · obtain rfl : q = c := by omega
          have Hj := Lib.hid hj
          have Hat := Lib.hid hat
          have HT02 := Lib.hid hT0
          have HTl2 := Lib.hid hTl
          clear hj hat hT0 hTl hpk cpk
          gi_wp2
          go_roundw
          case rel => exact ⟨k + 1, T2, hlt, by go_num, by rw [Hup.out], HT02.out, HTl2.out, by rw [Hup.out]; exact Hj.out, Hat.out, hsz2⟩
          case measure => simp [intOf]; omega
    · obtain rfl : k = l.length := by omega
      rw [List.take_length] at hj
      have Hj := Lib.hid hj
      clear hj hat hT0 hTl
      gi_wp2
      go_end0
      exact ⟨⟨_, rfl⟩, T, .inl Hj.out⟩

/-- What milesOf gives, at a road in parts: all its miles in their order. -/
theorem miles_comes (pb b o cap : Nat) (l : List Pt) (T₀ : Nat → Prop) (w : World) (hpb : w.cell? ⟨pb, 0, none⟩ = some (.slice (some ⟨b, o, none⟩) l.length cap)) (hpl : pb < w.heap.size) (hb : b < w.heap.size) (hTb : T₀ b)
    (hTl : ∀ j, T₀ j → j < w.heap.size) (hz : validP l = true) (hl : PtAt w b o l) :
    Comes Try.prog 77 #[.pointer (some ⟨pb, 0, none⟩)] (encO (ownAt l)) T₀ (List.range (ownP l).length) w := fun lp J Jx W hW hJ hJx hY h0 =>
  miles_walk pb b o cap l T₀ lp J Jx W ((hW.cell (p := ⟨pb, 0, none⟩) hpl).trans hpb) (Nat.lt_of_lt_of_le hb hW.size) hTb (fun j hj => Nat.lt_of_lt_of_le (hTl j hj) hW.size) hz (hl.below hW hb) hJ hJx hY h0

end Go.Proofs.Ythdkjjfnockldaa
