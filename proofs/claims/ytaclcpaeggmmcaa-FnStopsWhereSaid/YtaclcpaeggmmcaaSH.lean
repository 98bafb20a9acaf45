/- StopsWhere: program and model. -/
import Derived.Test.YtaclcpaeggmmcaaSC
import Derived.Test.YtaclcpaeggmmcaaSD
import Derived.Deep.RegionHeld3
import Derived.Deep.RegionWith
namespace Go.Proofs.Ytaclcpaeggmmcaa
open Go.RowKit

/-- The last of the first k stops at which the coach has arrived. -/
def whereTo (l : List Rd) (t : Int) : Nat → Nat
  | 0 => 0
  | k + 1 => if (l.getD k rd0).b ≤ t then k else whereTo l t k

def whereOk (n : Int) (l : List Rd) (t : Int) : Bool := validS n l && inB t (l.getD 0 rd0).b (l.getD (l.length - 1) rd0).m
def whereK (n : Int) (l : List Rd) (t : Int) : Nat := if whereOk n l t = true then whereTo l t l.length else 0
def whereT (n : Int) (l : List Rd) (t : Int) : Bool := whereOk n l t && decide (t ≤ (l.getD (whereK n l t) rd0).m)
def whereV (n : Int) (l : List Rd) (t : Int) : Value := .tuple #[.int .i64 (whereK n l t : Int), .bool (whereT n l t), .bool (whereOk n l t)]

theorem whereV_no {n : Int} {l : List Rd} {t : Int} (h : whereOk n l t = false) : whereV n l t = .tuple #[.int .i64 0, .bool false, .bool false] := by
  unfold whereV whereT whereK; rw [h]; rfl
theorem whereV_yes {n : Int} {l : List Rd} {t : Int} {k : Nat} (h : whereOk n l t = true) (hk : whereTo l t l.length = k) : whereV n l t = .tuple #[.int .i64 (k : Int), .bool (decide (t ≤ (l.getD k rd0).m)), .bool true] := by
  have e : whereK n l t = k := by unfold whereK; rw [if_pos h]; exact hk
  unfold whereV whereT; rw [h, e]; rfl

theorem whereTo_lt (l : List Rd) (t : Int) : ∀ k, 0 < k → whereTo l t k < k
  | k + 1, _ => by
    unfold whereTo
    split
    · omega
    · by_cases h : 0 < k
      · have := whereTo_lt l t k h; omega
      · obtain rfl : k = 0 := by omega
        show 0 < 1; omega

theorem valid1_yes (n : Int) (v : Value) (l : List Rd) (w : World) (hv : RoadsIn w v l) (hl : l.length ≤ 1048576) (hz : validS n l = true) :
    Calls Try.prog 32 #[.int .i64 n, v] w (Gives (.bool true) w) := by
  have := valid1_any n v l w hv hl; rwa [hz] at this
theorem valid1_no (n : Int) (v : Value) (l : List Rd) (w : World) (hv : RoadsIn w v l) (hl : l.length ≤ 1048576) (hz : validS n l = false) :
    Calls Try.prog 32 #[.int .i64 n, v] w (Gives (.bool false) w) := by
  have := valid1_any n v l w hv hl; rwa [hz] at this

def H2Rel (l : List Rd) (t : Int) (hs : List Nat) (w : World) (gk : Nat) (hv : Value) (wr : World) : Prop :=
  wr = w ∧ gk < l.length ∧ hv = .pointer (some ⟨hs.getD gk 0, 0, none⟩) ∧ whereTo l t l.length = whereTo l t (gk + 1)



set_option maxRecDepth 100000 in
set_option maxHeartbeats 800000 in
theorem where2_any (n : Int) (v : Value) (l : List Rd) (t : Int) (w : World) (hv : RoadsIn w v l) (hm : l.length ≤ 1048576) :
    Calls Try.prog 23 #[.int .i64 n, v, .int .i64 t] w (Gives (whereV n l t) w) := by
  have Hc := Lib.hid (ttOf_any n v l w hv hm)
  clear hv
  cases hz : validS n l with
  | true =>
    have h2 := (validS_iff.1 hz).1
    obtain ⟨k, hk⟩ : ∃ k, l.length = k + 1 := ⟨l.length - 1, by omega⟩
    have hok : whereOk n l t = inB t (l.getD 0 rd0).b (l.getD k rd0).m := by unfold whereOk; rw [hz, hk]; rfl
    have Hok := Lib.hid hok; clear hok
    have Hz := Lib.hid hz; clear hz
    have Hk := Lib.hid hk
    go_enter Try.func23, Try.ntmps23
    go_wp2_with fail
    refine (Hc.out).mono ?_; rintro e w1 ⟨h1, _⟩
    obtain ⟨tb, hs, rfl, htt, _, hb⟩ := h1 Hz.out
    clear h1
    have Htt := Lib.hid htt
    have c0 := htt.first_some (by omega)
    have c1 := htt.last_some hk
    have d0 := htt.arrive (i := 0) (by omega)
    have d1 := htt.leave (i := k) (by omega)
    clear htt hk
    generalize hs.getD 0 0 = g0 at *
    generalize hgl : hs.getD k 0 = gl at *
    have Hgl := Lib.hid hgl; clear hgl
    generalize hx0 : (l.getD 0 rd0).b = x0 at *
    generalize hx1 : (l.getD k rd0).m = x1 at *
    have Hx0 := Lib.hid hx0; clear hx0 hx1
    by_cases h0 : x0 ≤ t
    · have h0' : decide (t < x0) = false := by simp only [decide_eq_false_iff_not]; omega
      by_cases h1 : t ≤ x1
      · have h1' : decide (x1 < t) = false := by simp only [decide_eq_false_iff_not]; omega
        have hok : whereOk n l t = true := by rw [Hok.out]; exact (inB_iff _ _ _).2 ⟨h0, h1⟩
        have Hok2 := Lib.hid hok; clear hok
        go_wp2
        go_loopg [11] k (fun j hv wr => H2Rel l t hs w1 j hv wr)
        case atStart => exact ⟨rfl, by rw [Hk.out]; omega, by rw [Hgl.out], by rw [Hk.out]⟩
        case round =>
          obtain ⟨rfl, hj, rfl, hw⟩ := hrel
          obtain ⟨j, rfl⟩ : ∃ j, j = gk := ⟨_, rfl⟩
          have Hw := Lib.hid hw; clear hw
          have e1 := Htt.out.arrive hj
          have e2 := Htt.out.leave hj
          have e3 := Htt.out.index hj
          by_cases hq : (l.getD j rd0).b ≤ t
          · have hq' : decide (t < (l.getD j rd0).b) = false := by simp only [decide_eq_false_iff_not]; omega
            have hwj : whereTo l t (j + 1) = j := if_pos hq
            have hv := whereV_yes Hok2.out (Hw.out.trans hwj)
            have Hv := Lib.hid hv; clear hv hwj
            generalize hs.getD j 0 = gj at *
            generalize (l.getD j rd0).b = b at *
            generalize (l.getD j rd0).m = m at *
            go_wp2
            go_quiet (fail)
            go_wp2
            go_ret3
            exact ⟨ret_val Hv.out.symm, hb.drewN _⟩
          · have hq' : decide (t < (l.getD j rd0).b) = true := by simp only [decide_eq_true_eq]; omega
            have hwj : whereTo l t (j + 1) = whereTo l t j := if_neg hq
            have Hwj := Lib.hid hwj; clear hwj
            obtain ⟨i, rfl⟩ : ∃ i, j = i + 1 := ⟨j - 1, by
              have : j ≠ 0 := by rintro rfl; rw [Hx0.out] at hq; exact hq h0
              omega⟩
            have e4 := Htt.out.prev_some hj
            clear e2 e3
            generalize hs.getD (i + 1) 0 = gj at *
            generalize hgi : hs.getD i 0 = gi at *
            have Hgi := Lib.hid hgi; clear hgi
            generalize (l.getD (i + 1) rd0).b = b at *
            go_wp2
            go_roundg i
            case measure => omega
            case rel => exact ⟨rfl, by omega, by rw [Hgi.out], by rw [Hw.out, Hwj.out]⟩
      · have h1' : decide (x1 < t) = true := by simp only [decide_eq_true_eq]; omega
        have hv := whereV_no (n := n) (l := l) (t := t) (by rw [Hok.out, Bool.eq_false_iff]; intro h; exact h1 ((inB_iff _ _ _).1 h).2)
        have Hv := Lib.hid hv; clear hv
        go_wp2
        go_ret3
        exact ⟨ret_val Hv.out.symm, hb⟩
    · have h0' : decide (t < x0) = true := by simp only [decide_eq_true_eq]; omega
      have hv := whereV_no (n := n) (l := l) (t := t) (by rw [Hok.out, Bool.eq_false_iff]; intro h; exact h0 ((inB_iff _ _ _).1 h).1)
      have Hv := Lib.hid hv; clear hv
      go_wp2
      go_ret3
      exact ⟨ret_val Hv.out.symm, hb⟩
  | false =>
    have hv := whereV_no (n := n) (l := l) (t := t) (by unfold whereOk; rw [hz]; rfl)
    have Hv := Lib.hid hv; clear hv
    have Hz := Lib.hid hz; clear hz
    go_enter Try.func23, Try.ntmps23
    go_wp2_with fail
    refine (Hc.out).mono ?_; rintro e w1 ⟨_, h1⟩
    obtain ⟨rfl, hb⟩ := h1 Hz.out
    clear h1
    go_wp2
    go_ret3
    exact ⟨ret_val Hv.out.symm, hb⟩

def H1Rel (l : List Rd) (t : Int) (w : World) (kv iv : Value) (wr : World) : Prop :=
  ∃ k : Nat, k ≤ l.length ∧ iv = .int .i64 k ∧ kv = .int .i64 (whereTo l t k : Int) ∧ Below w.heap.size w wr

theorem take_op {P : Program} {ops : Array Oper} {Q : Exit → Act → World → Prop} {md : Region.Mode} {i : Nat} {d : Tmp} {oi : Oper} {v : Value} {fuel : Nat} {listed : Array Bool} {a : Act} {w : World} (hi : ops[i]? = some oi) (hd : oi.dst = some d)
    (hs : Region.noSelect ops = true) (hf : Region.free md ops listed i = true) (hr : (Region.ready md ops listed).contains i = true)
    (hQ : ∀ c (a : Act) d v w, Q (.panic c) (a.put (some d) v) w → Q (.panic c) a w) (hy : Yields P ops oi v a)
    (h : wpAny P md ops Q fuel (listed.setIfInBounds i true) (a.put (some d) v) w) : wpAny P md ops Q (fuel + 1) listed a w :=
  wpAny_take hi hs hf hr (fun c a w h' => by rw [hd] at h'; exact hQ _ _ _ _ _ h') hy (by rw [hd]; exact h)

theorem with_Q {P : Program} {ops : Array Oper} {Q : Exit → Act → World → Prop} {md : Region.Mode} {fuel : Nat} {listed : Array Bool} {a : Act} {w : World} (hQ : ∀ c (a : Act) d v w, Q (.panic c) (a.put (some d) v) w → Q (.panic c) a w)
    (h : ∀ Q' : Exit → Act → World → Prop, (∀ c (a : Act) d v w, Q' (.panic c) (a.put (some d) v) w → Q' (.panic c) a w) → (∀ a w, Q .normal a w → Q' .normal a w) → wpAny P md ops Q' fuel listed a w) : wpAny P md ops Q fuel listed a w :=
  h Q hQ (fun _ _ h => h)

set_option maxRecDepth 100000 in
set_option maxHeartbeats 2000000 in
theorem where1_no (n : Int) (v : Value) (l : List Rd) (t : Int) (w : World) (hv : RoadsIn w v l) (hm : l.length ≤ 1048576) (hz : validS n l = false) :
    Calls Try.prog 24 #[.int .i64 n, v, .int .i64 t] w (Gives (whereV n l t) w) := by
  have Hv0 := Lib.hid hv
  obtain ⟨a, cap, rfl, ha⟩ := hv
  have Hc := Lib.hid (valid1_no n _ l _ (Hv0.out.below (Below.refl _ _).drew) hm hz)
  have hv := whereV_no (n := n) (l := l) (t := t) (by unfold whereOk; rw [hz]; rfl)
  have Hv := Lib.hid hv; clear hv
  have Hz := Lib.hid hz; clear hz
  have Ha := Lib.hid ha; clear ha Hv0
  go_enter Try.func24, Try.ntmps24
  go_wp2_with fail
  refine wp_region_any (by kernel_rfl) ?_
  change wpAny _ _ _ _ 20 #[false, false, false, false, false, false, false, false, false, false, false, false, false, false, false, false, false, false, false, false] _ (World.drew _)
  refine with_Q (fun _ _ _ _ _ h => h) (fun Q hQ hN => ?_)
  refine take_op (i := 0) (d := 11) (v := .int .i64 n) rfl rfl (by kernel_rfl) (by kernel_rfl) (by kernel_rfl) hQ (Or.inl ⟨by rfl, fun _ => by first | rfl | (go_simp; done) | (go_simp; rfl)⟩) ?_
  simp only [Act.put, List.setIfInBounds_toArray, List.set_cons_zero, List.set_cons_succ]
  refine take_op (i := 1) (d := 12) (v := .slice a l.length cap) rfl rfl (by kernel_rfl) (by kernel_rfl) (by kernel_rfl) hQ (Or.inl ⟨by rfl, fun _ => by first | rfl | (go_simp; done) | (go_simp; rfl)⟩) ?_
  simp only [Act.put, List.setIfInBounds_toArray, List.set_cons_zero, List.set_cons_succ]
  refine wpAny_ready (rs := [2]) (by kernel_rfl) (by simp) ?_
  refine AllReady.cons rfl (fun K hK => ?_) AllReady.nil
  go_simp
  go_at_call 32
  refine (Hc.out).mono ?_; rintro e w1 ⟨rfl, hb1⟩
  refine hK _ _ ?_
  try simp only [Act.put, List.setIfInBounds_toArray, List.set_cons_zero, List.set_cons_succ]
  clear hK K
  refine take_op (i := 3) (d := 14) (v := .bool true) rfl rfl (by kernel_rfl) (by kernel_rfl) (by kernel_rfl) hQ (Or.inl ⟨by rfl, fun _ => by first | rfl | (go_simp; done) | (go_simp; rfl)⟩) ?_
  simp only [Act.put, List.setIfInBounds_toArray, List.set_cons_zero, List.set_cons_succ]
  refine take_op (i := 4) (d := 15) (v := .bool true) rfl rfl (by kernel_rfl) (by kernel_rfl) (by kernel_rfl) hQ (Or.inl ⟨by rfl, fun _ => by first | rfl | (go_simp; done) | (go_simp; rfl)⟩) ?_
  simp only [Act.put, List.setIfInBounds_toArray, List.set_cons_zero, List.set_cons_succ]
  refine take_op (i := 5) (d := 16) (v := undef) rfl rfl (by kernel_rfl) (by kernel_rfl) (by kernel_rfl) hQ (Or.inr ⟨by simp [Region.wanted, yielded], rfl⟩) ?_
  simp only [Act.put, List.setIfInBounds_toArray, List.set_cons_zero, List.set_cons_succ]
  refine take_op (i := 6) (d := 17) (v := undef) rfl rfl (by kernel_rfl) (by kernel_rfl) (by kernel_rfl) hQ (Or.inr ⟨by simp [Region.wanted, yielded], rfl⟩) ?_
  simp only [Act.put, List.setIfInBounds_toArray, List.set_cons_zero, List.set_cons_succ]
  refine take_op (i := 7) (d := 18) (v := undef) rfl rfl (by kernel_rfl) (by kernel_rfl) (by kernel_rfl) hQ (Or.inr ⟨by simp [Region.wanted, yielded], rfl⟩) ?_
  simp only [Act.put, List.setIfInBounds_toArray, List.set_cons_zero, List.set_cons_succ]
  refine take_op (i := 8) (d := 19) (v := undef) rfl rfl (by kernel_rfl) (by kernel_rfl) (by kernel_rfl) hQ (Or.inr ⟨by simp [Region.wanted, yielded], rfl⟩) ?_
  simp only [Act.put, List.setIfInBounds_toArray, List.set_cons_zero, List.set_cons_succ]
  refine take_op (i := 9) (d := 20) (v := undef) rfl rfl (by kernel_rfl) (by kernel_rfl) (by kernel_rfl) hQ (Or.inr ⟨by simp [Region.wanted, yielded], rfl⟩) ?_
  simp only [Act.put, List.setIfInBounds_toArray, List.set_cons_zero, List.set_cons_succ]
  refine take_op (i := 10) (d := 21) (v := undef) rfl rfl (by kernel_rfl) (by kernel_rfl) (by kernel_rfl) hQ (Or.inr ⟨by simp [Region.wanted, yielded], rfl⟩) ?_
  simp only [Act.put, List.setIfInBounds_toArray, List.set_cons_zero, List.set_cons_succ]
  refine take_op (i := 11) (d := 22) (v := undef) rfl rfl (by kernel_rfl) (by kernel_rfl) (by kernel_rfl) hQ (Or.inr ⟨by simp [Region.wanted, yielded], rfl⟩) ?_
  simp only [Act.put, List.setIfInBounds_toArray, List.set_cons_zero, List.set_cons_succ]
  refine take_op (i := 12) (d := 23) (v := undef) rfl rfl (by kernel_rfl) (by kernel_rfl) (by kernel_rfl) hQ (Or.inr ⟨by simp [Region.wanted, yielded], rfl⟩) ?_
  simp only [Act.put, List.setIfInBounds_toArray, List.set_cons_zero, List.set_cons_succ]
  refine take_op (i := 13) (d := 24) (v := undef) rfl rfl (by kernel_rfl) (by kernel_rfl) (by kernel_rfl) hQ (Or.inr ⟨by simp [Region.wanted, yielded], rfl⟩) ?_
  simp only [Act.put, List.setIfInBounds_toArray, List.set_cons_zero, List.set_cons_succ]
  refine take_op (i := 14) (d := 25) (v := undef) rfl rfl (by kernel_rfl) (by kernel_rfl) (by kernel_rfl) hQ (Or.inr ⟨by simp [Region.wanted, yielded], rfl⟩) ?_
  simp only [Act.put, List.setIfInBounds_toArray, List.set_cons_zero, List.set_cons_succ]
  refine take_op (i := 15) (d := 26) (v := undef) rfl rfl (by kernel_rfl) (by kernel_rfl) (by kernel_rfl) hQ (Or.inr ⟨by simp [Region.wanted, yielded], rfl⟩) ?_
  simp only [Act.put, List.setIfInBounds_toArray, List.set_cons_zero, List.set_cons_succ]
  refine take_op (i := 16) (d := 27) (v := undef) rfl rfl (by kernel_rfl) (by kernel_rfl) (by kernel_rfl) hQ (Or.inr ⟨by simp [Region.wanted, yielded], rfl⟩) ?_
  simp only [Act.put, List.setIfInBounds_toArray, List.set_cons_zero, List.set_cons_succ]
  refine take_op (i := 17) (d := 28) (v := undef) rfl rfl (by kernel_rfl) (by kernel_rfl) (by kernel_rfl) hQ (Or.inr ⟨by simp [Region.wanted, yielded], rfl⟩) ?_
  simp only [Act.put, List.setIfInBounds_toArray, List.set_cons_zero, List.set_cons_succ]
  refine take_op (i := 18) (d := 29) (v := undef) rfl rfl (by kernel_rfl) (by kernel_rfl) (by kernel_rfl) hQ (Or.inr ⟨by simp [Region.wanted, yielded], rfl⟩) ?_
  simp only [Act.put, List.setIfInBounds_toArray, List.set_cons_zero, List.set_cons_succ]
  refine take_op (i := 19) (d := 30) (v := .bool true) rfl rfl (by kernel_rfl) (by kernel_rfl) (by kernel_rfl) hQ (Or.inl ⟨by rfl, fun _ => by first | (go_simp; done) | (go_simp; rfl)⟩) ?_
  simp only [Act.put, List.setIfInBounds_toArray, List.set_cons_zero, List.set_cons_succ]
  refine wpAny_done (by kernel_rfl) (hN _ _ ?_) _
  have hb : Below w.heap.size w w1 := ((Below.refl _ _).drew).trans (hb1.mono (Nat.le_refl _))
  go_wp2
  go_ret3
  exact ⟨ret_val Hv.out.symm, hb⟩


set_option maxRecDepth 100000 in
set_option maxHeartbeats 800000 in
theorem where1_any (n : Int) (v : Value) (l : List Rd) (t : Int) (w : World) (hv : RoadsIn w v l) (hm : l.length ≤ 1048576) :
    Calls Try.prog 24 #[.int .i64 n, v, .int .i64 t] w (Gives (whereV n l t) w) := by
  have Hv0 := Lib.hid hv
  obtain ⟨a, cap, rfl, ha⟩ := hv
  cases hz : validS n l with
  | true =>
    have Hc := Lib.hid (valid1_yes n _ l _ (Hv0.out.below (Below.refl _ _).drew) hm hz)
    have h2 := (validS_iff.1 hz).1
    obtain ⟨k, hk⟩ : ∃ k, l.length = k + 1 := ⟨l.length - 1, by omega⟩
    have hok : whereOk n l t = inB t (l.getD 0 rd0).b (l.getD k rd0).m := by unfold whereOk; rw [hz, hk]; rfl
    have Hok := Lib.hid hok; clear hok
    have Hz := Lib.hid hz; clear hz
    obtain ⟨b, o, rfl, hlt0, hrw⟩ := ha (by intro h; rw [h] at hk; simp at hk)
    have Hrw := Lib.hid hrw
    obtain ⟨_, c0, _⟩ := hrw 0 (by omega)
    obtain ⟨_, _, c1⟩ := hrw k (by omega)
    clear hrw ha Hv0
    obtain ⟨_, _, l2, l8⟩ := h2
    have hl0 : (0 : Int) < (l.length : Int) := by omega
    have hk0 : (0 : Int) ≤ (k : Int) := by omega
    have hk1 : (k : Int) < (l.length : Int) := by omega
    have hl0n : 0 < l.length := by omega
    have hk1n : k < l.length := by omega
    have hks : IntKind.i64.wrap ((l.length : Int) - 1) = (k : Int) := by rw [IntWalk.i64_in _ (by omega)]; omega
    have hkk : (l.length : Int) - 1 = (k : Int) := by omega
    have hkw : IntKind.i64.wrap (k : Int) = (k : Int) := IntWalk.i64_in _ (by omega)
    have hl1n : 1 ≤ l.length := by omega
    have Hk := Lib.hid hk; clear hk
    generalize hx0 : (l.getD 0 rd0).b = x0 at *
    generalize hx1 : (l.getD k rd0).m = x1 at *
    have Hx0 := Lib.hid hx0; clear hx0 hx1
    simp only [Nat.zero_mul, Nat.add_zero] at c0
    by_cases hin : x0 ≤ t ∧ t ≤ x1
    · have hin' : inB t x0 x1 = true := (inB_iff _ _ _).2 hin
      have hok : whereOk n l t = true := by rw [Hok.out]; exact hin'
      have Hok2 := Lib.hid hok; clear hok
      have hI := l6In_yes t x0 x1
      have hI' : ∀ w, Calls Try.prog 29 #[.int .i64 t, .int .i64 x0, .int .i64 x1] w fun e w' => e = .returned (.bool true) ∧ w = w' := fun w => hI w hin
      have HI := Lib.hid hI'; clear hI hI' hin'
      go_enter Try.func24, Try.ntmps24
      go_wp2_with fail
      go_region_held3 (fun w' => w'.cell? ⟨b, o + 1, none⟩ = some (.int .i64 x0) ∧ w'.cell? ⟨b, o + k * 3 + 2, none⟩ = some (.int .i64 x1)) (first | (go_keep; done) | (go_split_ands; refine ⟨keepCell hb1 ?_, keepCell hb1 ?_⟩ <;> assumption))
        (first | (go_at_call 32; refine (Hc.out).mono ?_; rintro e w1 ⟨rfl, hb1⟩) | (go_at_call 29; refine (HI.out _).mono ?_; rintro e w' ⟨rfl, rfl⟩))
      have hb : Below w.heap.size w w1 := ((Below.refl _ _).drew).trans (hb1.mono (Nat.le_refl _))
      clear c0 c1 hks hkk hkw hk0 hk1 hk1n
      go_wp2
      go_loopw [9, 10] (fun kv iv wr => H1Rel l t w kv iv wr) (fun _ i _ => l.length - (intOf i).toNat)
      case atStart => exact ⟨0, Nat.zero_le _, rfl, rfl, hb⟩
      case round =>
        obtain ⟨j, hj, rfl, rfl, hbel⟩ := hrel
        by_cases hlt : j < l.length
        · obtain ⟨_, e1, _⟩ := (Hrw.out.below hbel hlt0) j hlt
          have hj0 : (0 : Int) ≤ (j : Int) := Int.natCast_nonneg _
          have hj1 : (j : Int) < (l.length : Int) := by omega
          by_cases hq : (l.getD j rd0).b ≤ t
          · have hw : whereTo l t (j + 1) = j := if_pos hq
            have Hw := Lib.hid hw; clear hw
            generalize (l.getD j rd0).b = y at *
            generalize whereTo l t j = x at *
            go_wp2
            exact ⟨⟨j + 1, hlt, by go_num, by rw [Hw.out], hbel⟩, by simp [intOf]; omega⟩
          · have hw : whereTo l t (j + 1) = whereTo l t j := if_neg hq
            have Hw := Lib.hid hw; clear hw
            have hq' : decide ((l.getD j rd0).b ≤ t) = false := by simp only [decide_eq_false_iff_not]; omega
            clear hq
            generalize (l.getD j rd0).b = y at *
            generalize hx : whereTo l t j = x at *
            have Hx := Lib.hid hx; clear hx
            go_wp2
            exact ⟨⟨j + 1, hlt, by go_num, by rw [Hw.out], hbel⟩, by simp [intOf]; omega⟩
        · obtain rfl : j = l.length := by omega
          have hx := whereTo_lt l t l.length (by omega)
          obtain ⟨_, _, e2⟩ := (Hrw.out.below hbel hlt0) _ hx
          have hv := whereV_yes Hok2.out rfl
          have Hv := Lib.hid hv; clear hv
          have hx0 : (0 : Int) ≤ (whereTo l t l.length : Int) := Int.natCast_nonneg _
          have hx1 : (whereTo l t l.length : Int) < (l.length : Int) := by omega
          generalize whereTo l t l.length = x at *
          generalize (l.getD x rd0).m = y at *
          go_wp2
          go_quiet (fail)
          go_wp2
          go_ret3
          exact ⟨ret_val Hv.out.symm, hbel.drewN _⟩
    · have hin' : inB t x0 x1 = false := Bool.eq_false_iff.2 (fun h => hin ((inB_iff _ _ _).1 h))
      have hv := whereV_no (n := n) (l := l) (t := t) (by rw [Hok.out]; exact hin')
      have Hv := Lib.hid hv; clear hv
      have hI' : ∀ w, Calls Try.prog 29 #[.int .i64 t, .int .i64 x0, .int .i64 x1] w fun e w' => e = .returned (.bool false) ∧ w = w' := fun w => l6In_no t x0 x1 w hin
      have HI := Lib.hid hI'; clear hI' hin' hin
      go_enter Try.func24, Try.ntmps24
      go_wp2_with fail
      go_region_held3 (fun w' => w'.cell? ⟨b, o + 1, none⟩ = some (.int .i64 x0) ∧ w'.cell? ⟨b, o + k * 3 + 2, none⟩ = some (.int .i64 x1)) (first | (go_keep; done) | (go_split_ands; refine ⟨keepCell hb1 ?_, keepCell hb1 ?_⟩ <;> assumption))
        (first | (go_at_call 32; refine (Hc.out).mono ?_; rintro e w1 ⟨rfl, hb1⟩) | (go_at_call 29; refine (HI.out _).mono ?_; rintro e w' ⟨rfl, rfl⟩))
      have hb : Below w.heap.size w w1 := ((Below.refl _ _).drew).trans (hb1.mono (Nat.le_refl _))
      go_wp2
      go_ret3
      exact ⟨ret_val Hv.out.symm, hb⟩
  | false => exact where1_no n _ l t w Hv0.out hm hz

end Go.Proofs.Ytaclcpaeggmmcaa
