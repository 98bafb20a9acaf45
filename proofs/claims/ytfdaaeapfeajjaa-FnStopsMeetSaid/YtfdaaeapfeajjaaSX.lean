/- StopsMeet: meetings, plainly; the program's. -/
import Derived.Test.YtfdaaeapfeajjaaSF
import Derived.Lib.Hide
namespace Go.Proofs.Ytfdaaeapfeajjaa
open Go.RowKit

theorem lt_or_leI (a b : Int) : a < b ∨ b ≤ a := by omega
theorem le_or_ltI (a b : Int) : a ≤ b ∨ b < a := by omega

/-- When both begin to stand in the town of the i-th stop of a. -/
def bothAt (a b : List Rd) (i k : Nat) : Int := max (a.getD i rd0).b (b.getD k rd0).b
def meetAt (a b : List Rd) (i : Nat) : Option Int :=
  match atS b (a.getD i rd0).a with
  | none => none
  | some k => if bothAt a b i k ≤ (a.getD i rd0).m ∧ bothAt a b i k ≤ (b.getD k rd0).m then some (bothAt a b i k) else none
/-- The first meeting at one of the first k stops. -/
def meetTo (a b : List Rd) : Nat → Option Int
  | 0 => none
  | k + 1 => match meetTo a b k with | some t => some t | none => meetAt a b k

def meetOf (n : Int) (a b : List Rd) : Option Int := if (validS n a && validS n b) = true then meetTo a b a.length else none
def meetV (o : Option Int) : Value := match o with | some t => .tuple #[.int .i64 t, .bool true] | none => .tuple #[.int .i64 0, .bool false]

theorem meetAt_none {a b : List Rd} {i : Nat} (h : newS b b.length (a.getD i rd0).a = true) : meetAt a b i = none := by
  unfold meetAt; rw [atS_none h]
theorem meetAt_some {a b : List Rd} {i k : Nat} (hk : k < b.length) (hn : newS b k (a.getD i rd0).a = true) (ht : (b.getD k rd0).a = (a.getD i rd0).a) :
    meetAt a b i = if bothAt a b i k ≤ (a.getD i rd0).m ∧ bothAt a b i k ≤ (b.getD k rd0).m then some (bothAt a b i k) else none := by
  unfold meetAt; rw [atS_some hk hn ht]

theorem meetTo_hit {a b : List Rd} {t : Int} {k : Nat} (hn : meetTo a b k = none) (h : meetAt a b k = some t) : ∀ j, k < j → meetTo a b j = some t
  | j + 1, hj => by
    unfold meetTo
    by_cases e : k = j
    · subst e; rw [hn]; exact h
    · rw [meetTo_hit hn h j (by omega)]

theorem meetTo_step {a b : List Rd} {k : Nat} (hn : meetTo a b k = none) (h : meetAt a b k = none) : meetTo a b (k + 1) = none := by
  unfold meetTo; rw [hn]; exact h
theorem meetTo_keep {a b : List Rd} {k : Nat} {t : Int} (hn : meetTo a b k = some t) : meetTo a b (k + 1) = some t := by
  unfold meetTo; rw [hn]

/-- A meeting lies within its stop. -/
theorem meetAt_in {a b : List Rd} {i : Nat} {t : Int} (h : meetAt a b i = some t) : (a.getD i rd0).b ≤ t ∧ t ≤ (a.getD i rd0).m := by
  unfold meetAt at h
  split at h
  · cases h
  · split at h
    · rename_i hc
      injection h with h
      subst h
      refine ⟨?_, hc.1⟩
      unfold bothAt; omega
    · cases h

theorem meetTo_before {n : Int} {a b : List Rd} (hz : validS n a = true) {t : Int} : ∀ {k : Nat}, k < a.length → meetTo a b k = some t → 0 ≤ t ∧ t < (a.getD k rd0).b
  | 0, _, h => by cases h
  | k + 1, hk, h => by
    have h1 := validS_next hz hk
    have h2 := validS_at hz (show k < a.length by omega)
    unfold meetTo at h
    cases hm : meetTo a b k with
    | some u =>
      rw [hm] at h
      injection h with h
      subst h
      have := meetTo_before hz (show k < a.length by omega) hm
      omega
    | none =>
      rw [hm] at h
      have := meetAt_in h
      omega

def M2Rel (a b : List Rd) (hs : List Nat) (w : World) (gk : Nat) (hv : Value) (wr : World) : Prop :=
  ∃ k : Nat, k + gk = a.length ∧ hv = ptB hs[k]? ∧ meetTo a b k = none ∧ (∃ c, wr = w.drewN c)

set_option maxRecDepth 100000 in
set_option maxHeartbeats 1000000 in
theorem meet2_any (n : Int) (va vb : Value) (a b : List Rd) (w : World) (hva : RoadsIn w va a) (hvb : RoadsIn w vb b) (hma : a.length ≤ 1048576) (hmb : b.length ≤ 1048576) :
    Calls Try.prog 24 #[.int .i64 n, va, vb] w (Gives (meetV (meetOf n a b)) w) := by
  have Hc := Lib.hid (ttOf_any n va a w hva hma)
  have Hvb := Lib.hid hvb
  clear hva hvb
  cases hza : validS n a with
  | false =>
    have hv : meetV (meetOf n a b) = .tuple #[.int .i64 0, .bool false] := by unfold meetOf; rw [hza]; rfl
    have Hv := Lib.hid hv; clear hv
    have Hza := Lib.hid hza; clear hza
    go_enter Try.func24, Try.ntmps24
    go_wp2_with fail
    refine (Hc.out).mono ?_; rintro e w1 ⟨_, h1⟩
    obtain ⟨rfl, hb⟩ := h1 Hza.out
    clear h1
    cases hzb : validS n b with
    | false =>
      have Hzb := Lib.hid hzb; clear hzb
      go_wp2_with fail
      refine (ttOf_any n vb b _ (Hvb.out.below hb) hmb).mono ?_; rintro e w2 ⟨_, h2⟩
      obtain ⟨rfl, hb2⟩ := h2 Hzb.out
      clear h2
      go_wp2
      go_ret2
      exact ⟨ret_val Hv.out.symm, hb.trans (hb2.mono hb.size)⟩
    | true =>
      have Hzb := Lib.hid hzb; clear hzb
      go_wp2_with fail
      refine (ttOf_any n vb b _ (Hvb.out.below hb) hmb).mono ?_; rintro e w2 ⟨h2, _⟩
      obtain ⟨tb2, hs2, rfl, _, _, hb2⟩ := h2 Hzb.out
      clear h2
      go_wp2
      go_ret2
      exact ⟨ret_val Hv.out.symm, hb.trans (hb2.mono hb.size)⟩
  | true =>
    have Hza := Lib.hid hza; clear hza
    cases hzb : validS n b with
    | false =>
      have hv : meetV (meetOf n a b) = .tuple #[.int .i64 0, .bool false] := by unfold meetOf; rw [hzb, Bool.and_false]; rfl
      have Hv := Lib.hid hv; clear hv
      have Hzb := Lib.hid hzb; clear hzb
      go_enter Try.func24, Try.ntmps24
      go_wp2_with fail
      refine (Hc.out).mono ?_; rintro e w1 ⟨h1, _⟩
      obtain ⟨tb, hs, rfl, _, _, hb⟩ := h1 Hza.out
      clear h1
      go_wp2_with fail
      refine (ttOf_any n vb b _ (Hvb.out.below hb) hmb).mono ?_; rintro e w2 ⟨_, h2⟩
      obtain ⟨rfl, hb2⟩ := h2 Hzb.out
      clear h2
      go_wp2
      go_ret2
      exact ⟨ret_val Hv.out.symm, hb.trans (hb2.mono hb.size)⟩
    | true =>
      have hv : meetOf n a b = meetTo a b a.length := by unfold meetOf; rw [Hza.out, hzb]; rfl
      have Hv := Lib.hid hv; clear hv
      have Hzb := Lib.hid hzb; clear hzb
      have ha8 := (validS_iff.1 Hza.out).1.2.2.2
      have hb8 := (validS_iff.1 Hzb.out).1.2.2.2
      go_enter Try.func24, Try.ntmps24
      go_wp2_with fail
      refine (Hc.out).mono ?_; rintro e w1 ⟨h1, _⟩
      obtain ⟨tb, hs, rfl, htt, _, hb⟩ := h1 Hza.out
      clear h1
      go_wp2_with fail
      refine (ttOf_any n vb b _ (Hvb.out.below hb) hmb).mono ?_; rintro e w2 ⟨h2, _⟩
      obtain ⟨tb2, hs2, rfl, htt2, _, hb2⟩ := h2 Hzb.out
      clear h2
      have htt1 := htt.below hb2
      have hbb := hb.trans (hb2.mono hb.size)
      have c0 : w2.cell? ⟨tb, 0, none⟩ = some (ptB hs[0]?) := htt1.top.cell rfl
      have Htt := Lib.hid htt1
      have Htt2 := Lib.hid htt2
      have Hbb := Lib.hid hbb
      clear htt htt1 htt2 hb hb2 hbb
      go_wp2
      clear c0
      go_loopg [12] a.length (fun gk hv wr => M2Rel a b hs w2 gk hv wr)
      case atStart => exact ⟨0, by omega, rfl, rfl, 0, rfl⟩
      case round =>
        obtain ⟨k, hk, rfl, hn, c, rfl⟩ := hrel
        have Hn := Lib.hid hn; clear hn
        by_cases hlt : k < a.length
        · have e1 : ptB hs[k]? = .pointer (some ⟨hs.getD k 0, 0, none⟩) := ptB_some (by rw [Htt.out.len]; exact hlt)
          rw [e1]
          have d0 := Htt.out.town hlt
          have d1 := Htt.out.arrive hlt
          have d2 := Htt.out.leave hlt
          have d5 : w2.cell? ⟨hs.getD k 0, 5, none⟩ = some (ptB hs[k + 1]?) := (Htt.out.halts k hlt).cell rfl
          have Hk := Lib.hid hk
          obtain ⟨gk', rfl⟩ : ∃ g, gk = g + 1 := ⟨gk - 1, by omega⟩
          have hlt' : k + 1 ≤ a.length := hlt
          clear e1 hk hlt
          have Hab : Hid (∀ j, bothAt a b k j = max (a.getD k rd0).b (b.getD j rd0).b) := Lib.hid fun _ => rfl
          have Hnone : Hid (newS b b.length (a.getD k rd0).a = true → meetAt a b k = none) := Lib.hid meetAt_none
          have Hsome : Hid (∀ j, j < b.length → newS b j (a.getD k rd0).a = true → (b.getD j rd0).a = (a.getD k rd0).a → meetAt a b k = if bothAt a b k j ≤ (a.getD k rd0).m ∧ bothAt a b k j ≤ (b.getD j rd0).m then some (bothAt a b k j) else none) := Lib.hid fun j => meetAt_some
          generalize (a.getD k rd0).a = xa at *
          generalize (a.getD k rd0).b = xb at *
          generalize (a.getD k rd0).m = xm at *
          generalize hs.getD k 0 = gk2 at *
          go_wp2_with fail
          refine (in_any tb2 hs2 b xa _ (Htt2.out.drewN c) hb8).mono ?_
          rintro e w' ⟨rfl, ⟨j, hj, rfl, hnj, htj⟩ | ⟨rfl, hnj⟩⟩
          · have f1 := Htt2.out.arrive hj
            have f2 := Htt2.out.leave hj
            have hat := Hsome.out j hj hnj htj
            rw [Hab.out j] at hat
            generalize hyb : (b.getD j rd0).b = yb at *
            generalize hym : (b.getD j rd0).m = ym at *
            generalize hs2.getD j 0 = gj at *
            clear hyb hym hnj htj
            have Hat := Lib.hid hat; clear hat
            rcases lt_or_leI xb yb with h1 | h1
            · have hmx : max xb yb = yb := by omega
              have hat := Hat.out
              rw [hmx] at hat
              have Hat2 := Lib.hid hat; clear hat hmx Hat
              rcases le_or_ltI xm ym with h2 | h2
              · by_cases hq : yb ≤ xm
                · have hh := Hat2.out
                  rw [if_pos (by omega)] at hh
                  have hm := meetTo_hit Hn.out hh a.length (by omega)
                  have hvv : meetV (meetOf n a b) = .tuple #[.int .i64 yb, .bool true] := by rw [Hv.out, hm]; rfl
                  have Hvv := Lib.hid hvv
                  clear hh hm hvv
                  go_wp2
                  go_quiet (fail)
                  go_wp2
                  go_quiet (fail)
                  go_wp2
                  go_ret2
                  exact ⟨ret_val Hvv.out.symm, by first | exact Hbb.out.drewN _ | exact (Hbb.out.drewN _).drewN _ | exact ((Hbb.out.drewN _).drewN _).drewN _⟩
                · have hh := Hat2.out
                  rw [if_neg (by omega)] at hh
                  have hq' : decide (yb ≤ xm) = false := by simp only [decide_eq_false_iff_not]; exact hq
                  have hm := meetTo_step Hn.out hh
                  have Hm := Lib.hid hm
                  clear hh hm hq
                  go_wp2
                  go_quiet (fail)
                  go_wp2
                  go_quiet (fail)
                  go_wp2
                  go_roundg gk'
                  case measure => omega
                  case rel => exact ⟨k + 1, by have := Hk.out; omega, rfl, Hm.out, _, rfl⟩
              · by_cases hq : yb ≤ ym
                · have hh := Hat2.out
                  rw [if_pos (by omega)] at hh
                  have hm := meetTo_hit Hn.out hh a.length (by omega)
                  have hvv : meetV (meetOf n a b) = .tuple #[.int .i64 yb, .bool true] := by rw [Hv.out, hm]; rfl
                  have Hvv := Lib.hid hvv
                  clear hh hm hvv
                  go_wp2
                  go_quiet (fail)
                  go_wp2
                  go_quiet (fail)
                  go_wp2
                  go_ret2
                  exact ⟨ret_val Hvv.out.symm, by first | exact Hbb.out.drewN _ | exact (Hbb.out.drewN _).drewN _ | exact ((Hbb.out.drewN _).drewN _).drewN _⟩
                · have hh := Hat2.out
                  rw [if_neg (by omega)] at hh
                  have hq' : decide (yb ≤ ym) = false := by simp only [decide_eq_false_iff_not]; exact hq
                  have hm := meetTo_step Hn.out hh
                  have Hm := Lib.hid hm
                  clear hh hm hq
                  go_wp2
                  go_quiet (fail)
                  go_wp2
                  go_quiet (fail)
                  go_wp2
                  go_roundg gk'
                  case measure => omega
                  case rel => exact ⟨k + 1, by have := Hk.out; omega, rfl, Hm.out, _, rfl⟩
            · have hmx : max xb yb = xb := by omega
              have hat := Hat.out
              rw [hmx] at hat
              have Hat2 := Lib.hid hat; clear hat hmx Hat
              rcases le_or_ltI xm ym with h2 | h2
              · by_cases hq : xb ≤ xm
                · have hh := Hat2.out
                  rw [if_pos (by omega)] at hh
                  have hm := meetTo_hit Hn.out hh a.length (by omega)
                  have hvv : meetV (meetOf n a b) = .tuple #[.int .i64 xb, .bool true] := by rw [Hv.out, hm]; rfl
                  have Hvv := Lib.hid hvv
                  clear hh hm hvv
                  go_wp2
                  go_quiet (fail)
                  go_wp2
                  go_quiet (fail)
                  go_wp2
                  go_ret2
                  exact ⟨ret_val Hvv.out.symm, by first | exact Hbb.out.drewN _ | exact (Hbb.out.drewN _).drewN _ | exact ((Hbb.out.drewN _).drewN _).drewN _⟩
                · have hh := Hat2.out
                  rw [if_neg (by omega)] at hh
                  have hq' : decide (xb ≤ xm) = false := by simp only [decide_eq_false_iff_not]; exact hq
                  have hm := meetTo_step Hn.out hh
                  have Hm := Lib.hid hm
                  clear hh hm hq
                  go_wp2
                  go_quiet (fail)
                  go_wp2
                  go_quiet (fail)
                  go_wp2
                  go_roundg gk'
                  case measure => omega
                  case rel => exact ⟨k + 1, by have := Hk.out; omega, rfl, Hm.out, _, rfl⟩
              · by_cases hq : xb ≤ ym
                · have hh := Hat2.out
                  rw [if_pos (by omega)] at hh
                  have hm := meetTo_hit Hn.out hh a.length (by omega)
                  have hvv : meetV (meetOf n a b) = .tuple #[.int .i64 xb, .bool true] := by rw [Hv.out, hm]; rfl
                  have Hvv := Lib.hid hvv
                  clear hh hm hvv
                  go_wp2
                  go_quiet (fail)
                  go_wp2
                  go_quiet (fail)
                  go_wp2
                  go_ret2
                  exact ⟨ret_val Hvv.out.symm, by first | exact Hbb.out.drewN _ | exact (Hbb.out.drewN _).drewN _ | exact ((Hbb.out.drewN _).drewN _).drewN _⟩
                · have hh := Hat2.out
                  rw [if_neg (by omega)] at hh
                  have hq' : decide (xb ≤ ym) = false := by simp only [decide_eq_false_iff_not]; exact hq
                  have hm := meetTo_step Hn.out hh
                  have Hm := Lib.hid hm
                  clear hh hm hq
                  go_wp2
                  go_quiet (fail)
                  go_wp2
                  go_quiet (fail)
                  go_wp2
                  go_roundg gk'
                  case measure => omega
                  case rel => exact ⟨k + 1, by have := Hk.out; omega, rfl, Hm.out, _, rfl⟩
          · have hh := Hnone.out hnj
            have hm := meetTo_step Hn.out hh
            have Hm := Lib.hid hm
            clear hh hm hnj
            go_wp2
            go_roundg gk'
            case measure => omega
            case rel => exact ⟨k + 1, by have := Hk.out; omega, rfl, Hm.out, _, rfl⟩
        · obtain rfl : k = a.length := by omega
          have e1 : ptB hs[a.length]? = .pointer none := ptB_none (by rw [Htt.out.len]; exact Nat.le_refl _)
          rw [e1]
          have hvv : meetV (meetOf n a b) = .tuple #[.int .i64 0, .bool false] := by rw [Hv.out, Hn.out]; rfl
          have Hvv := Lib.hid hvv
          clear e1 hvv
          go_wp2
          go_ret2
          exact ⟨ret_val Hvv.out.symm, by first | exact Hbb.out.drewN _ | exact (Hbb.out.drewN _).drewN _ | exact ((Hbb.out.drewN _).drewN _).drewN _⟩

end Go.Proofs.Ytfdaaeapfeajjaa
