/- The law FnClockLocal holds at every input; its row's listed tables are the library's own, tied by the given tie. No condition. -/
import Derived.Test.YtnlhnibhgpelfabDoorCards
import Derived.Test.YtnlhnibhgpelfabDoorTie
import Derived.Deep.DeepHandedRow
import Derived.SevenTiedAt
import Derived.Test.YtnlhnibhgpelfabDoorFT
import Derived.Test.YtnlhnibhgpelfabDoorCC
import Derived.Test.YtnlhnibhgpelfabDoorCE
import Derived.Test.YtnlhnibhgpelfabDoorDCL
import Derived.Test.YtnlhnibhgpelfabDoorDO
namespace Go.Proofs.YtnlhnibhgpelfabDoor.lawFnClockLocal
open Go.ChangeShapes Go.WideShapes Go.ChangeAt Go.RowKit
set_option linter.unusedVariables false

theorem from_clock {m : Nat} (hm : m < 1440) : fromV (clockB m) = (m : Int) ∧ fromOk (clockB m) = true := by
  have h := fromB_some hm (rfl : clockB m = clockB m)
  unfold fromV fromOk
  rw [h]
  exact ⟨rfl, rfl⟩

set_option maxHeartbeats 1000000 in
theorem walk (v : Value) (l : List Int) (w : World) (hv : BytesIn w v l) (hm : l.length ≤ maxLen) :
    Calls Tryd.prog 5 #[v] w fun e w' => e = .returned (.bool true) ∧ Below w.heap.size w w' := by
  have Hv := Lib.hid hv
  obtain ⟨av, cv, rfl, hcv, _, _⟩ := hv
  clear hcv
  by_cases hl : l.length ≤ 1048576
  · have hl' : ¬ (1048576 : Int) < (l.length : Int) := by omega
    go_enter Tryd.func5, Tryd.ntmps5
    go_wp2_with fail
    refine (drawClockLocal_any _ l _ Hv.out hl).mono ?_; rintro e w1 ⟨t, a, rfl, ht0, ht1, ha0, ha1, hb1⟩
    have HB1 := Lib.hid hb1; clear hb1
    have H2 := Lib.hid (fun w' => loc2_any t a w')
    have H1 := Lib.hid (fun w' => loc1_any t a w')
    cases hok : locOk t a with
    | false =>
      have e1 : locV t a = 0 := by unfold locV; rw [hok]; rfl
      rw [e1, hok] at H2 H1
      clear hok e1
      go_wp2_with fail
      refine (H2.out _).mono ?_; rintro e w2 ⟨rfl, rfl⟩
      go_wp2_with fail
      refine (H1.out _).mono ?_; rintro e w3 ⟨rfl, rfl⟩
      go_wp2
      go_ret
      exact ⟨ret_bool (by first | rfl | (simp; done)), HB1.out⟩
    | true =>
      have e1 : locV t a = (t + a) % 1440 := by unfold locV; rw [hok]; rfl
      obtain ⟨hT, hA⟩ : isT t = true ∧ inB a (-720) 720 = true := by simpa [locOk] using hok
      obtain ⟨t0, t1⟩ := (isT_iff t).1 hT
      obtain ⟨a0, a1⟩ := (inB_iff _ _ _).1 hA
      rw [e1, hok] at H2 H1
      obtain ⟨c, hc⟩ : ∃ c : Nat, t % 1440 = (c : Int) := ⟨(t % 1440).toNat, by omega⟩
      have hcl : c < 1440 := by omega
      have ec := clockT_yes t0 t1
      rw [hc, Int.toNat_natCast] at ec
      have hsz : (clockT t).size = 5 := by rw [ec]; exact clockB_size c
      have HF := Lib.hid (show ∀ w', Calls Tryd.prog 9 #[.string (clockT t)] w' (fun e w'' => e = .returned (.tuple #[.int .i64 (c : Int), .bool true]) ∧ Below w'.heap.size w' w'') from fun w' => by
        have h := from2_any (clockT t) w' (by rw [hsz]; decide)
        rw [ec] at h ⊢
        refine h.mono fun e w'' ⟨he, hb⟩ => ⟨?_, hb⟩
        rw [he, (from_clock hcl).1, (from_clock hcl).2])
      have Hnx : (t = 10000 ∧ locOk (t + 1) a = false ∧ locV (t + 1) a = 0) ∨ (t ≠ 10000 ∧ locOk (t + 1) a = true ∧ locV (t + 1) a = ((t + a) % 1440 + 1) % 1440) := by
        by_cases h : t = 10000
        · have hT' : isT (t + 1) = false := Bool.eq_false_iff.2 (fun e => by have := (isT_iff _).1 e; omega)
          have hk : locOk (t + 1) a = false := by unfold locOk; rw [hT']; rfl
          exact .inl ⟨h, hk, by unfold locV; rw [hk]; rfl⟩
        · have hT' : isT (t + 1) = true := (isT_iff _).2 (by omega)
          have hk : locOk (t + 1) a = true := by unfold locOk; rw [hT', hA]; rfl
          refine .inr ⟨h, hk, ?_⟩
          unfold locV; rw [hk]
          show (t + 1 + a) % 1440 = _
          omega
      have hu : untilV (c : Int) ((t + a) % 1440) = a % 1440 := by
        have m1 : isM (c : Int) = true := (isM_iff _).2 (by omega)
        have m2 : isM ((t + a) % 1440) = true := (isM_iff _).2 (by omega)
        unfold untilV; rw [m1, m2]
        show ((t + a) % 1440 - (c : Int)) % 1440 = _
        omega
      have Hu := Lib.hid (fun w' => until2_any (c : Int) ((t + a) % 1440) w')
      rw [hu] at Hu
      have Htx := Lib.hid (fun w' => text2_any t w')
      obtain ⟨r, hr⟩ : ∃ r, a % 1440 = r := ⟨_, rfl⟩
      have hr2 : (a + 1440) % 1440 = r := by omega
      obtain ⟨o, ho⟩ : ∃ o, (t + a) % 1440 = o := ⟨_, rfl⟩
      have ho0 : 0 ≤ o := by omega
      have ho1 : o < 1440 := by omega
      rw [ho] at H2 H1 Hu Hnx
      rw [hr] at Hu
      obtain ⟨nx, hnx⟩ : ∃ nx, (o + 1) % 1440 = nx := ⟨_, rfl⟩
      rw [hnx] at Hnx
      generalize clockT t = s at *
      have hq : (o != o) = false := by simp
      have hrr : (r == r) = true := by simp
      have hqn : (nx == nx) = true := by simp
      clear hok e1 hT hA ec hsz hu hc ho
      go_wp2_with fail
      refine (H2.out _).mono ?_; rintro e w2 ⟨rfl, rfl⟩
      go_wp2_with fail
      refine (H1.out _).mono ?_; rintro e w3 ⟨rfl, rfl⟩
      go_wp2_with fail
      refine (Htx.out _).mono ?_; rintro e w4 ⟨rfl, hb4⟩
      have HB4 := Lib.hid (HB1.out.trans (hb4.mono HB1.out.size)); clear hb4
      go_wp2_with fail
      refine (HF.out _).mono ?_; rintro e w5 ⟨rfl, hb5⟩
      have HB5 := Lib.hid (HB4.out.trans (hb5.mono HB4.out.size)); clear hb5
      rcases Hnx with ⟨x1, x2, x3⟩ | ⟨x1, x2, x3⟩
      · have HN := Lib.hid (show ∀ w', Calls Tryd.prog 13 #[.int .i64 10001, .int .i64 a] w' (fun e w'' => e = .returned (.tuple #[.int .i64 0, .bool false]) ∧ w' = w'') from fun w' => by
          have h := loc2_any (t + 1) a w'
          rw [x2, x3, x1] at h
          exact h)
        have Hr := Lib.hid (And.intro hr hr2)
        clear x2 x3 ht0 ht1 t0 t1 hnx hqn Htx H2 H1 HF hr hr2
        subst x1
        by_cases hn : a < 0
        · have e5 := Hr.out.2
          go_wp2_with fail
          refine (HN.out _).mono ?_; rintro e w6 ⟨rfl, rfl⟩
          go_wp2_with fail
          refine (Hu.out _).mono ?_; rintro e w7 ⟨rfl, rfl⟩
          go_wp2
          go_ret
          exact ⟨ret_bool (by first | rfl | (simp; done)), HB5.out⟩
        · have hn0 : 0 ≤ a := by omega
          have e5 := Hr.out.1
          go_wp2_with fail
          refine (HN.out _).mono ?_; rintro e w6 ⟨rfl, rfl⟩
          go_wp2_with fail
          refine (Hu.out _).mono ?_; rintro e w7 ⟨rfl, rfl⟩
          go_wp2
          go_ret
          exact ⟨ret_bool (by first | rfl | (simp; done)), HB5.out⟩
      · have HN := Lib.hid (show ∀ w', Calls Tryd.prog 13 #[.int .i64 (t + 1), .int .i64 a] w' (fun e w'' => e = .returned (.tuple #[.int .i64 nx, .bool true]) ∧ w' = w'') from fun w' => by
          have h := loc2_any (t + 1) a w'
          rw [x2, x3] at h
          exact h)
        have x1' : (t == 10000) = false := by simpa using x1
        have Hr := Lib.hid (And.intro hr hr2)
        clear x2 x3 Htx H2 H1 HF hr hr2
        by_cases hn : a < 0
        · have e5 := Hr.out.2
          go_wp2_with fail
          refine (HN.out _).mono ?_; rintro e w6 ⟨rfl, rfl⟩
          go_wp2_with fail
          refine (Hu.out _).mono ?_; rintro e w7 ⟨rfl, rfl⟩
          go_wp2
          go_ret
          exact ⟨ret_bool (by first | rfl | (simp; done)), HB5.out⟩
        · have hn0 : 0 ≤ a := by omega
          have e5 := Hr.out.1
          go_wp2_with fail
          refine (HN.out _).mono ?_; rintro e w6 ⟨rfl, rfl⟩
          go_wp2_with fail
          refine (Hu.out _).mono ?_; rintro e w7 ⟨rfl, rfl⟩
          go_wp2
          go_ret
          exact ⟨ret_bool (by first | rfl | (simp; done)), HB5.out⟩
  · have hl' : (1048576 : Int) < (l.length : Int) := by omega
    go_enter Tryd.func5, Tryd.ntmps5
    go_wp2
    go_ret
    exact ⟨rfl, Below.refl _ _⟩

theorem contract (H : Type) (enc : TypeId × Value → H) (W : World) (base : Nat) (args : Array Value) (ds gs : List (DataW H)) (before : List MemPlace)
    (hval0 : ∀ (j : Nat) t v, Tryd.f5.params[j]? = some t → args[j]? = some v → Value.okWide Tryd.prog W .any base t v)
    (hW : DataW.Whole enc Tryd.prog Tryd.f5.params.toList Rows.fnClockLocalSpec.vars false W args.toList ds gs before) :
    Calls Tryd.prog 5 args W fun e W' => ∃ v, e = .returned v ∧ Rows.fnClockLocalSpec.post enc Tryd.prog Tryd.f5 false true false false W args v W' := by
  have hval : ∀ (j : Nat) t v, Tryd.f5.params[j]? = some t → args[j]? = some v → Value.okWide Tryd.prog W .any base t v := hval0
  have hW' := hW
  obtain ⟨p, q, hA0, hV, rfl, hfz, hnd⟩ := hW
  have hA : DataW.TrodAll enc Tryd.prog W 0 (fun _ => true) true Tryd.f5.params.toList args.toList ds p := hA0
  rw [Tryd.params5] at hA hval
  obtain ⟨v0, vs0, d0, ds0, p0, q0, hargs, rfl, rfl, h0, r0⟩ := trodAll_cons hA
  obtain ⟨rfl, rfl, rfl⟩ := trodAll_nil r0
  obtain rfl : args = #[v0] := by cases args; simp_all
  obtain ⟨rfl, rfl⟩ := trodVars_none hV
  obtain ⟨a0, len0, cap0, rfl⟩ := okWide_slice Tryd.underlying22 (hval 0 22 v0 rfl rfl)
  have k0 := h0
  have lt0 : ∀ x ∈ p0, x.block < W.heap.size := by obtain ⟨m, hm⟩ := k0; exact DataW.trod_lt m _ _ _ hm
  obtain ⟨z0, hv0, hm0⟩ := open_byteS h0 rfl
  clear hA0 hval0
  refine (walk _ z0 W hv0 hm0).mono fun e W' ⟨he, bel⟩ => ?_
  subst he
  exact ⟨_, rfl, _, _, _, [], _, [], hW', trodAll_mk1 (shut_bool Tryd.underlying4 _), (trodAll_cons_mk (Below.trod laidOut (by kernel_rfl) (of_decide_eq_true (by kernel_rfl)) k0 bel lt0) trodAll_mk0), rfl, bel.frame _, fun h => by cases h⟩

/-- A world for the witness: the settled one, the listed tables holding what their initialisers lay. -/
noncomputable def laidWorld (os : Os) : World :=
  { World.holding Tryd.prog os ⟨#[], #[], []⟩ with heap := ((((World.holding Tryd.prog os ⟨#[], #[], []⟩).heap.modify 1 fun o => match o with | .cells _ t frozen => .cells #[.int .u8 0, .int .u8 1, .int .u8 28, .int .u8 2, .int .u8 29, .int .u8 14, .int .u8 24, .int .u8 3, .int .u8 30, .int .u8 22, .int .u8 20, .int .u8 15, .int .u8 25, .int .u8 17, .int .u8 4, .int .u8 8, .int .u8 31, .int .u8 27, .int .u8 13, .int .u8 23, .int .u8 21, .int .u8 19, .int .u8 16, .int .u8 7, .int .u8 26, .int .u8 12, .int .u8 18, .int .u8 6, .int .u8 11, .int .u8 5, .int .u8 10, .int .u8 9] t frozen | o => o).modify 2 fun o => match o with | .cells _ t frozen => .cells #[.int .u8 0, .int .u8 1, .int .u8 56, .int .u8 2, .int .u8 57, .int .u8 49, .int .u8 28, .int .u8 3, .int .u8 61, .int .u8 58, .int .u8 42, .int .u8 50, .int .u8 38, .int .u8 29, .int .u8 17, .int .u8 4, .int .u8 62, .int .u8 47, .int .u8 59, .int .u8 36, .int .u8 45, .int .u8 43, .int .u8 51, .int .u8 22, .int .u8 53, .int .u8 39, .int .u8 33, .int .u8 30, .int .u8 24, .int .u8 18, .int .u8 12, .int .u8 5, .int .u8 63, .int .u8 55, .int .u8 48, .int .u8 27, .int .u8 60, .int .u8 41, .int .u8 37, .int .u8 16, .int .u8 46, .int .u8 35, .int .u8 44, .int .u8 21, .int .u8 52, .int .u8 32, .int .u8 23, .int .u8 11, .int .u8 54, .int .u8 26, .int .u8 40, .int .u8 15, .int .u8 34, .int .u8 20, .int .u8 31, .int .u8 10, .int .u8 25, .int .u8 14, .int .u8 19, .int .u8 9, .int .u8 13, .int .u8 8, .int .u8 7, .int .u8 6] t frozen | o => o).modify 0 fun o => match o with | .cells _ t frozen => .cells #[.int .u64 1, .int .u64 10, .int .u64 100, .int .u64 1000, .int .u64 10000, .int .u64 100000, .int .u64 1000000, .int .u64 10000000, .int .u64 100000000, .int .u64 1000000000, .int .u64 10000000000, .int .u64 100000000000, .int .u64 1000000000000, .int .u64 10000000000000, .int .u64 100000000000000, .int .u64 1000000000000000, .int .u64 10000000000000000, .int .u64 100000000000000000, .int .u64 1000000000000000000, .int .u64 10000000000000000000] t frozen | o => o) }
theorem laid_met (os : Os) : laidMet Tryd.prog Rows.fnClockLocalRow.laid ((laidWorld os).forCall (fun _ _ => 0) ⟨#[], #[Value.slice none 0 0], []⟩).memory :=
  laidMet_of_run' 8 (by kernel_rfl) (by kernel_rfl)
theorem reads (os : Os) {H : Type} (enc : TypeId × Value → H) : ∃ places, DataW.whole enc Tryd.prog ((laidWorld os).forCall (fun _ _ => 0) ⟨#[], #[Value.slice none 0 0], []⟩).memory Tryd.f5.params.toList Rows.fnClockLocalSpec.vars false #[Value.slice none 0 0].toList 8 = some ([.nil], [], places) :=
  ⟨[], by kernel_rfl⟩

set_option maxRecDepth 100000 in
theorem lifted (os : Os) (started : os.Started) (H : Type) (enc : TypeId × Value → H) (F : Stop.Interp) :
    ReturnsInHanded {} Tryd.checked os 5 .any ((OpenSpec.ofChange Rows.fnClockLocalSpec).preRow enc Tryd.prog Tryd.f5 Rows.fnClockLocalRow.domain false Rows.fnClockLocalRow.laid) (((OpenSpec.ofChange Rows.fnClockLocalSpec).at F).post enc Tryd.prog Tryd.f5 false true false false) := by
  obtain ⟨places, hx⟩ := reads os enc
  refine returnsInHanded_of_row (C := Tryd.checked) (s := OpenSpec.ofChange Rows.fnClockLocalSpec) own started (by kernel_rfl) Tryd.func5
    (witness_row_at (enc := enc) (C := Tryd.checked) false (laidWorld os) #[Value.slice none 0 0] rfl (by kernel_rfl) (by kernel_rfl) (by kernel_rfl)
      (OpenSpec.preRow_of_cond 8 hx (by kernel_rfl) (fun k hk => by cases hk) (by kernel_rfl) (laid_met os))) ?_
  intro W base args ds gs before hval hW _ _ _ _ _ _
  exact contract H enc W base args ds gs before hval hW

theorem said : Rows.FnClockLocalSaid :=
  OpenClaim.holds_of_cond 5 Tryd.f5 rfl rfl rfl rfl rfl rfl rfl ⟨rfl, rfl, rfl, rfl, rfl⟩ rfl rfl rfl rfl rfl (by kernel_rfl) Tryd.func5 (by kernel_rfl)
    (of_decide_eq_true (by kernel_rfl)) (by unfold Func.isWrapper; first | (rw [if_pos (by decide +kernel)]; kernel_rfl) | (rw [if_neg (by decide +kernel)]; exact ⟨rfl, rfl⟩))
    (fun os started H enc _ F => by rw [OpenClaim.pre_eq_preRow]; exact lifted os started H enc F)

theorem plain (f : FuncId) (fn : Func) (hf : Tryd.pinned.checked.prog.funcNamed Rows.fnClockLocalRow.func = some f) (hfn : Tryd.pinned.checked.prog.funcs[f]? = some fn) :
    false = Tryd.pinned.checked.prog.looks [] ∧ ∀ (j : Nat) t, fn.params[j]? = some t → Tryd.pinned.checked.prog.wantsStandIn t = false := by
  obtain rfl : f = 5 := Option.some.inj ((show Tryd.prog.funcNamed Rows.fnClockLocalRow.func = some 5 by kernel_rfl).symm.trans hf) |>.symm
  obtain rfl : fn = Tryd.f5 := (Option.some.inj (Tryd.func5.symm.trans hfn)).symm
  refine ⟨by kernel_rfl, fun j t ht => ?_⟩
  rw [Tryd.params5] at ht
  have hm := Array.mem_of_getElem? ht
  simp only [List.mem_toArray, List.mem_cons, List.not_mem_nil, or_false] at hm
  rcases hm with rfl
  all_goals first | exact (show Tryd.prog.wantsStandIn 22 = false by kernel_rfl)

theorem proved : Rows.FnClockLocalCardSaid :=
  Claim7.holds_tied_plain_at .later [] _ _ _ _ said (fun _ h => by cases h) (by kernel_rfl) (fun _ h => by cases h) fnClockLocal_row_tie rfl ⟨rfl, rfl⟩ (by kernel_rfl) rfl plain (by kernel_rfl)
#print axioms proved
end Go.Proofs.YtnlhnibhgpelfabDoor.lawFnClockLocal
