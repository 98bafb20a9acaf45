/- StopsWhere: program and model. -/
import Derived.Test.YtfdaaeapfeajjaaSC
import Derived.Test.YtfdaaeapfeajjaaSD
import Derived.Deep.RegionHeld3
import Derived.Deep.RegionWith
namespace Go.Proofs.Ytfdaaeapfeajjaa
open Go.RowKit

/-- The last of the first k stops at which the coach has arrived. -/
def whereTo (l : List Rd) (t : Int) : Nat → Nat
  | 0 => 0
  | k + 1 => if (l.getD k rd0).b ≤ t then k else whereTo l t k

def whereOk (n : Int) (l : List Rd) (t : Int) : Bool := validS n l && inB t (l.getD 0 rd0).b (l.getD (l.length - 1) rd0).m
def whereK (n : Int) (l : List Rd) (t : Int) : Nat := if whereOk n l t = true then whereTo l t l.length else 0
def whereT (n : Int) (l : List Rd) (t : Int) : Bool := whereOk n l t && decide (t ≤ (l.getD (whereK n l t) rd0).m)
def whereV (n : Int) (l : List Rd) (t : Int) : Value := .tuple #[.int .i64 (whereK n l t : Int), .bool (whereT n l t), .bool (whereOk n l t)]

theorem whereV_no {n : Int} {l : List Rd} {t : Int} (h : whereOk n l t = false) : whereV n l t = .tuple #[.int .i64 0, .bool false, .bool false] := by
  unfold whereV whereT whereK; rw [h]; rfl
theorem whereV_yes {n : Int} {l : List Rd} {t : Int} {k : Nat} (h : whereOk n l t = true) (hk : whereTo l t l.length = k) : whereV n l t = .tuple #[.int .i64 (k : Int), .bool (decide (t ≤ (l.getD k rd0).m)), .bool true] := by
  have e : whereK n l t = k := by unfold whereK; rw [if_pos h]; exact hk
  unfold whereV whereT; rw [h, e]; rfl

theorem whereTo_lt (l : List Rd) (t : Int) : ∀ k, 0 < k → whereTo l t k < k
  | k + 1, _ => by
    unfold whereTo
    split
    · omega
    · by_cases h : 0 < k
      · have := whereTo_lt l t k h; omega
      · obtain rfl : k = 0 := by omega
        show 0 < 1; omega

theorem valid1_yes (n : Int) (v : Value) (l : List Rd) (w : World) (hv : RoadsIn w v l) (hl : l.length ≤ 1048576) (hz : validS n l = true) :
    Calls Try.prog 44 #[.int .i64 n, v] w (Gives (.bool true) w) := by
  have := valid1_any n v l w hv hl; rwa [hz] at this
theorem valid1_no (n : Int) (v : Value) (l : List Rd) (w : World) (hv : RoadsIn w v l) (hl : l.length ≤ 1048576) (hz : validS n l = false) :
    Calls Try.prog 44 #[.int .i64 n, v] w (Gives (.bool false) w) := by
  have := valid1_any n v l w hv hl; rwa [hz] at this

def H2Rel (l : List Rd) (t : Int) (hs : List Nat) (w : World) (gk : Nat) (hv : Value) (wr : World) : Prop :=
  wr = w ∧ gk < l.length ∧ hv = .pointer (some ⟨hs.getD gk 0, 0, none⟩) ∧ whereTo l t l.length = whereTo l t (gk + 1)



set_option maxRecDepth 100000 in
set_option maxHeartbeats 800000 in
theorem where2_any (n : Int) (v : Value) (l : List Rd) (t : Int) (w : World) (hv : RoadsIn w v l) (hm : l.length ≤ 1048576) :
    Calls Try.prog 21 #[.int .i64 n, v, .int .i64 t] w (Gives (whereV n l t) w) := by
  have Hc := Lib.hid (ttOf_any n v l w hv hm)
  clear hv
  cases hz : validS n l with
  | true =>
    have h2 := (validS_iff.1 hz).1
    obtain ⟨k, hk⟩ : ∃ k, l.length = k + 1 := ⟨l.length - 1, by omega⟩
    have hok : whereOk n l t = inB t (l.getD 0 rd0).b (l.getD k rd0).m := by unfold whereOk; rw [hz, hk]; rfl
    have Hok := Lib.hid hok; clear hok
    have Hz := Lib.hid hz; clear hz
    have Hk := Lib.hid hk
    go_enter Try.func21, Try.ntmps21
    go_wp2_with fail
    refine (Hc.out).mono ?_; rintro e w1 ⟨h1, _⟩
    obtain ⟨tb, hs, rfl, htt, _, hb⟩ := h1 Hz.out
    clear h1
    have Htt := Lib.hid htt
    have c0 := htt.first_some (by omega)
    have c1 := htt.last_some hk
    have d0 := htt.arrive (i := 0) (by omega)
    have d1 := htt.leave (i := k) (by omega)
    clear htt hk
    generalize hs.getD 0 0 = g0 at *
    generalize hgl : hs.getD k 0 = gl at *
    have Hgl := Lib.hid hgl; clear hgl
    generalize hx0 : (l.getD 0 rd0).b = x0 at *
    generalize hx1 : (l.getD k rd0).m = x1 at *
    have Hx0 := Lib.hid hx0; clear hx0 hx1
    by_cases h0 : x0 ≤ t
    · have h0' : decide (t < x0) = false := by simp only [decide_eq_false_iff_not]; omega
      by_cases h1 : t ≤ x1
      · have h1' : decide (x1 < t) = false := by simp only [decide_eq_false_iff_not]; omega
        have hok : whereOk n l t = true := by rw [Hok.out]; exact (inB_iff _ _ _).2 ⟨h0, h1⟩
        have Hok2 := Lib.hid hok; clear hok
        go_wp2
        go_loopg [11] k (fun j hv wr => H2Rel l t hs w1 j hv wr)
        case atStart => exact ⟨rfl, by rw [Hk.out]; omega, by rw [Hgl.out], by rw [Hk.out]⟩
        case round =>
          obtain ⟨rfl, hj, rfl, hw⟩ := hrel
          obtain ⟨j, rfl⟩ : ∃ j, j = gk := ⟨_, rfl⟩
          have Hw := Lib.hid hw; clear hw
          have e1 := Htt.out.arrive hj
          have e2 := Htt.out.leave hj
          have e3 := Htt.out.index hj
          by_cases hq : (l.getD j rd0).b ≤ t
          · have hq' : decide (t < (l.getD j rd0).b) = false := by simp only [decide_eq_false_iff_not]; omega
            have hwj : whereTo l t (j + 1) = j := if_pos hq
            have hv := whereV_yes Hok2.out (Hw.out.trans hwj)
            have Hv := Lib.hid hv; clear hv hwj
            generalize hs.getD j 0 = gj at *
            generalize (l.getD j rd0).b = b at *
            generalize (l.getD j rd0).m = m at *
            go_wp2
            go_quiet (fail)
            go_wp2
            go_ret3
            exact ⟨ret_val Hv.out.symm, hb.drewN _⟩
          · have hq' : decide (t < (l.getD j rd0).b) = true := by simp only [decide_eq_true_eq]; omega
            have hwj : whereTo l t (j + 1) = whereTo l t j := if_neg hq
            have Hwj := Lib.hid hwj; clear hwj
            obtain ⟨i, rfl⟩ : ∃ i, j = i + 1 := ⟨j - 1, by
              have : j ≠ 0 := by rintro rfl; rw [Hx0.out] at hq; exact hq h0
              omega⟩
            have e4 := Htt.out.prev_some hj
            clear e2 e3
            generalize hs.getD (i + 1) 0 = gj at *
            generalize hgi : hs.getD i 0 = gi at *
            have Hgi := Lib.hid hgi; clear hgi
            generalize (l.getD (i + 1) rd0).b = b at *
            go_wp2
            go_roundg i
            case measure => omega
            case rel => exact ⟨rfl, by omega, by rw [Hgi.out], by rw [Hw.out, Hwj.out]⟩
      · have h1' : decide (x1 < t) = true := by simp only [decide_eq_true_eq]; omega
        have hv := whereV_no (n := n) (l := l) (t := t) (by rw [Hok.out, Bool.eq_false_iff]; intro h; exact h1 ((inB_iff _ _ _).1 h).2)
        have Hv := Lib.hid hv; clear hv
        go_wp2
        go_ret3
        exact ⟨ret_val Hv.out.symm, hb⟩
    · have h0' : decide (t < x0) = true := by simp only [decide_eq_true_eq]; omega
      have hv := whereV_no (n := n) (l := l) (t := t) (by rw [Hok.out, Bool.eq_false_iff]; intro h; exact h0 ((inB_iff _ _ _).1 h).1)
      have Hv := Lib.hid hv; clear hv
      go_wp2
      go_ret3
      exact ⟨ret_val Hv.out.symm, hb⟩
  | false =>
    have hv := whereV_no (n := n) (l := l) (t := t) (by unfold whereOk; rw [hz]; rfl)
    have Hv := Lib.hid hv; clear hv
    have Hz := Lib.hid hz; clear hz
    go_enter Try.func21, Try.ntmps21
    go_wp2_with fail
    refine (Hc.out).mono ?_; rintro e w1 ⟨_, h1⟩
    obtain ⟨rfl, hb⟩ := h1 Hz.out
    clear h1
    go_wp2
    go_ret3
    exact ⟨ret_val Hv.out.symm, hb⟩

def H1Rel (l : List Rd) (t : Int) (w : World) (kv iv : Value) (wr : World) : Prop :=
  ∃ k : Nat, k ≤ l.length ∧ iv = .int .i64 k ∧ kv = .int .i64 (whereTo l t k : Int) ∧ Below w.heap.size w wr

theorem take_op {P : Program} {ops : Array Oper} {Q : Exit → Act → World → Prop} {md : Region.Mode} {i : Nat} {d : Tmp} {oi : Oper} {v : Value} {fuel : Nat} {listed : Array Bool} {a : Act} {w : World} (hi : ops[i]? = some oi) (hd : oi.dst = some d)
    (hs : Region.noSelect ops = true) (hf : Region.free md ops listed i = true) (hr : (Region.ready md ops listed).contains i = true)
    (hQ : ∀ c (a : Act) d v w, Q (.panic c) (a.put (some d) v) w → Q (.panic c) a w) (hy : Yields P ops oi v a)
    (h : wpAny P md ops Q fuel (listed.setIfInBounds i true) (a.put (some d) v) w) : wpAny P md ops Q (fuel + 1) listed a w :=
  wpAny_take hi hs hf hr (fun c a w h' => by rw [hd] at h'; exact hQ _ _ _ _ _ h') hy (by rw [hd]; exact h)

theorem with_Q {P : Program} {ops : Array Oper} {Q : Exit → Act → World → Prop} {md : Region.Mode} {fuel : Nat} {listed : Array Bool} {a : Act} {w : World} (hQ : ∀ c (a : Act) d v w, Q (.panic c) (a.put (some d) v) w → Q (.panic c) a w)
    (h : ∀ Q' : Exit → Act → World → Prop, (∀ c (a : Act) d v w, Q' (.panic c) (a.put (some d) v) w → Q' (.panic c) a w) → (∀ a w, Q .normal a w → Q' .normal a w) → wpAny P md ops Q' fuel listed a w) : wpAny P md ops Q fuel listed a w :=
  h Q hQ (fun _ _ h => h)

end Go.Proofs.Ytfdaaeapfeajjaa
