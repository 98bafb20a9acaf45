/- StopsMeet: the model's. -/
import Derived.Test.YtfdaaeapfeajjaaSX
namespace Go.Proofs.Ytfdaaeapfeajjaa
open Go.RowKit

theorem atS_lt {l : List Rd} {t : Int} {k : Nat} (h : atS l t = some k) : k < l.length := by
  unfold atS at h
  rw [List.findIdx?_eq_some_iff_getElem] at h
  exact h.1

theorem meetV_eq (o : Option Int) : meetV o = .tuple #[.int .i64 (o.getD 0), .bool o.isSome] := by cases o <;> rfl

def bestV (o : Option Int) : Int := match o with | some t => t | none => -1

def M1Rel (n : Int) (a b : List Rd) (w : World) (bv iv : Value) (wr : World) : Prop :=
  ∃ k : Nat, k ≤ a.length ∧ iv = .int .i64 k ∧ bv = .int .i64 (bestV (meetTo a b k)) ∧ (k = 0 ∨ (validS n a = true ∧ validS n b = true)) ∧ Below w.heap.size w wr

theorem valid1_is (n : Int) (v : Value) (l : List Rd) (w : World) (hv : RoadsIn w v l) (hl : l.length ≤ 1048576) {x : Bool} (hz : validS n l = x) :
    Calls Try.prog 44 #[.int .i64 n, v] w (Gives (.bool x) w) := by
  have := valid1_any n v l w hv hl; rwa [hz] at this

set_option maxRecDepth 100000 in
set_option maxHeartbeats 2000000 in
theorem meet1_any (n : Int) (va vb : Value) (a b : List Rd) (w : World) (hva : RoadsIn w va a) (hvb : RoadsIn w vb b) (hma : a.length ≤ 1048576) (hmb : b.length ≤ 1048576) :
    Calls Try.prog 25 #[.int .i64 n, va, vb] w (Gives (meetV (meetOf n a b)) w) := by
  have Hva := Lib.hid hva
  have Hvb := Lib.hid hvb
  obtain ⟨pa, capa, rfl, ha⟩ := hva
  have Ha := Lib.hid ha; clear ha
  obtain ⟨pb, capb, rfl, hb⟩ := hvb
  have Hb := Lib.hid hb; clear hb
  go_enter Try.func25, Try.ntmps25
  go_wp2
  go_loopw [8, 9] (fun bv iv wr => M1Rel n a b w bv iv wr) (fun _ i _ => a.length - (intOf i).toNat)
  case atStart => exact ⟨0, Nat.zero_le _, rfl, rfl, .inl rfl, Below.refl _ _⟩
  case round =>
    obtain ⟨k, hk, rfl, rfl, hval, hbel⟩ := hrel
    by_cases hlt : k < a.length
    · have hlti : (k : Int) < (a.length : Int) := by omega
      have Hlt := Lib.hid hlt
      clear hlt
      cases hza : validS n a with
      | false =>
        have hk0 : k = 0 := by
          rcases hval with h | h
          · exact h
          · rw [hza] at h; cases h.1
        subst hk0
        have hv : meetV (meetOf n a b) = .tuple #[.int .i64 0, .bool false] := by unfold meetOf; rw [hza]; rfl
        have Hv := Lib.hid hv; clear hv
        have Hza := Lib.hid hza; clear hza hval
        have hbest : bestV (meetTo a b 0) = -1 := rfl
        rw [hbest]
        clear hbest
        go_wp2_with fail
        refine (valid1_is n _ a _ (Hva.out.below hbel) hma Hza.out).mono ?_; rintro e w1 ⟨rfl, hb1⟩
        go_wp2
        go_ret2
        exact ⟨ret_val Hv.out.symm, hbel.trans (hb1.mono hbel.size)⟩
      | true =>
        have Hza := Lib.hid hza; clear hza
        cases hzb : validS n b with
        | false =>
          have hk0 : k = 0 := by
            rcases hval with h | h
            · exact h
            · rw [hzb] at h; cases h.2
          subst hk0
          have hv : meetV (meetOf n a b) = .tuple #[.int .i64 0, .bool false] := by unfold meetOf; rw [hzb, Bool.and_false]; rfl
          have Hv := Lib.hid hv; clear hv
          have Hzb := Lib.hid hzb; clear hzb hval
          have hbest : bestV (meetTo a b 0) = -1 := rfl
          rw [hbest]
          clear hbest
          go_wp2_with fail
          refine (valid1_is n _ a _ (Hva.out.below hbel) hma Hza.out).mono ?_; rintro e w1 ⟨rfl, hb1⟩
          have hbel1 := hbel.trans (hb1.mono hbel.size)
          go_wp2_with fail
          refine (valid1_is n _ b _ (Hvb.out.below hbel1) hmb Hzb.out).mono ?_; rintro e w2 ⟨rfl, hb2⟩
          go_wp2
          go_ret2
          exact ⟨ret_val Hv.out.symm, hbel1.trans (hb2.mono hbel1.size)⟩
        | true =>
          have Hzb := Lib.hid hzb; clear hzb hval
          have hv : meetOf n a b = meetTo a b a.length := by unfold meetOf; rw [Hza.out, Hzb.out]; rfl
          have Hv := Lib.hid hv; clear hv
          have hab := validS_at Hza.out Hlt.out
          obtain ⟨_, _, x0, x1, x2, _⟩ := hab
          obtain ⟨oa, ba, rfl, hlta, hrwa⟩ : ∃ o b', pa = some ⟨b', o, none⟩ ∧ b' < w.heap.size ∧ RowAt w b' o a := by
            obtain ⟨b', o, h1, h2, h3⟩ := Ha.out (by intro h; have := Hlt.out; rw [h] at this; simp at this)
            exact ⟨o, b', h1, h2, h3⟩
          have Hrwa := Lib.hid hrwa; clear hrwa
          have hbd : ∀ u, meetTo a b k = some u → 0 ≤ u ∧ u < (a.getD k rd0).b := fun u hu => meetTo_before Hza.out Hlt.out hu
          have Hbd := Lib.hid hbd; clear hbd
          have hmt : meetTo a b (k + 1) = match meetTo a b k with | some t => some t | none => meetAt a b k := rfl
          have Hmt := Lib.hid hmt; clear hmt
          have hat : meetAt a b k = match atS b (a.getD k rd0).a with | none => none | some j => if bothAt a b k j ≤ (a.getD k rd0).m ∧ bothAt a b k j ≤ (b.getD j rd0).m then some (bothAt a b k j) else none := rfl
          have hab2 : ∀ j, bothAt a b k j = max (a.getD k rd0).b (b.getD j rd0).b := fun _ => rfl
          have Hat := Lib.hid hat; clear hat
          have Hab2 := Lib.hid hab2; clear hab2
          have hk0 : (0 : Int) ≤ (k : Int) := Int.natCast_nonneg _
          go_wp2_with fail
          refine (valid1_is n _ a _ (Hva.out.below hbel) hma Hza.out).mono ?_; rintro e w1 ⟨rfl, hb1⟩
          have hbel1 := hbel.trans (hb1.mono hbel.size)
          go_wp2_with fail
          refine (valid1_is n _ b _ (Hvb.out.below hbel1) hmb Hzb.out).mono ?_; rintro e w2 ⟨rfl, hb2⟩
          have hbel2 := hbel1.trans (hb2.mono hbel1.size)
          clear hb1 hb2 hbel hbel1
          obtain ⟨d0, d1, d2⟩ := (Hrwa.out.below hbel2 hlta) k Hlt.out
          generalize (a.getD k rd0).a = xa at *
          generalize (a.getD k rd0).b = xb at *
          generalize (a.getD k rd0).m = xm at *
          go_wp2_with fail
          refine (l2At_any _ b xa _ (Hvb.out.below hbel2) hmb).mono ?_; rintro e w' ⟨rfl, rfl⟩
          cases has : atS b xa with
          | none =>
            have hva2 : atV b xa = -1 := by unfold atV; rw [has]
            rw [hva2]
            have hm : meetTo a b (k + 1) = meetTo a b k := by rw [Hmt.out, Hat.out, has]; cases meetTo a b k <;> rfl
            have Hm := Lib.hid hm; clear hm hva2 has
            generalize hbv : bestV (meetTo a b k) = bv at *
            have Hbv := Lib.hid hbv; clear hbv
            go_wp2
            exact ⟨⟨k + 1, Hlt.out, by go_num, by rw [Hm.out, Hbv.out], .inr ⟨Hza.out, Hzb.out⟩, hbel2⟩, by simp [intOf]; omega⟩
          | some j =>
            have hva2 : atV b xa = j := by unfold atV; rw [has]
            rw [hva2]
            have hjl := atS_lt has
            obtain ⟨ob, bb, rfl, hltb, hrwb⟩ : ∃ o b', pb = some ⟨b', o, none⟩ ∧ b' < w.heap.size ∧ RowAt w b' o b := by
              obtain ⟨b', o, h1, h2, h3⟩ := Hb.out (by intro h; rw [h] at hjl; simp at hjl)
              exact ⟨o, b', h1, h2, h3⟩
            obtain ⟨_, f1, f2⟩ := (hrwb.below hbel2 hltb) j hjl
            have Hrwb := Lib.hid hrwb; clear hrwb
            have hma2 : meetAt a b k = if max xb (b.getD j rd0).b ≤ xm ∧ max xb (b.getD j rd0).b ≤ (b.getD j rd0).m then some (max xb (b.getD j rd0).b) else none := by
              rw [Hat.out, has]; simp only [Hab2.out]
            have Hma2 := Lib.hid hma2; clear hma2 hva2 has Hat Hab2
            have hj0 : (0 : Int) ≤ (j : Int) := Int.natCast_nonneg _
            have hj1 : (j : Int) < (b.length : Int) := by omega
            generalize (b.getD j rd0).b = yb at *
            generalize (b.getD j rd0).m = ym at *
            rcases lt_or_leI xb yb with h1 | h1
            · have hmx : max xb yb = yb := by omega
              have hma3 := Hma2.out
              rw [hmx] at hma3
              have Hma3 := Lib.hid hma3; clear hma3 hmx Hma2
              by_cases hq1 : yb ≤ xm
              · by_cases hq2 : yb ≤ ym
                · have hh := Hma3.out
                  rw [if_pos ⟨hq1, hq2⟩] at hh
                  cases hmk : meetTo a b k with
                  | none =>
                    have hm : meetTo a b (k + 1) = some yb := by rw [Hmt.out, hmk]; exact hh
                    have hbv : bestV (none : Option Int) = -1 := rfl
                    rw [hbv]
                    have Hm := Lib.hid hm; clear hm hh hmk hbv
                    go_wp2
                    go_quiet (fail)
                    go_wp2
                    exact ⟨⟨k + 1, Hlt.out, by go_num, by rw [Hm.out]; rfl, .inr ⟨Hza.out, Hzb.out⟩, hbel2.drewN _⟩, by simp [intOf]; omega⟩
                  | some u =>
                    obtain ⟨u0, u1⟩ := Hbd.out u hmk
                    have hm : meetTo a b (k + 1) = some u := by rw [Hmt.out, hmk]
                    have hbv : bestV (some u) = u := rfl
                    rw [hbv]
                    have hu1 : decide (u < 0) = false := by simp only [decide_eq_false_iff_not]; omega
                    have hu2 : decide (yb < u) = false := by simp only [decide_eq_false_iff_not]; omega
                    have Hm := Lib.hid hm; clear hm hh hmk hbv
                    go_wp2
                    go_quiet (fail)
                    go_wp2
                    exact ⟨⟨k + 1, Hlt.out, by go_num, by rw [Hm.out]; rfl, .inr ⟨Hza.out, Hzb.out⟩, hbel2.drewN _⟩, by simp [intOf]; omega⟩
                · have hh := Hma3.out
                  rw [if_neg (fun h => hq2 h.2)] at hh
                  have hq2' : decide (yb ≤ ym) = false := by simp only [decide_eq_false_iff_not]; exact hq2
                  have hm : meetTo a b (k + 1) = meetTo a b k := by rw [Hmt.out, hh]; cases meetTo a b k <;> rfl
                  have Hm := Lib.hid hm; clear hm hh hq2
                  generalize hbv : bestV (meetTo a b k) = bv at *
                  have Hbv := Lib.hid hbv; clear hbv
                  go_wp2
                  go_quiet (fail)
                  go_wp2
                  exact ⟨⟨k + 1, Hlt.out, by go_num, by rw [Hm.out, Hbv.out], .inr ⟨Hza.out, Hzb.out⟩, hbel2.drewN _⟩, by simp [intOf]; omega⟩
              · have hh := Hma3.out
                rw [if_neg (fun h => hq1 h.1)] at hh
                have hq1' : decide (yb ≤ xm) = false := by simp only [decide_eq_false_iff_not]; exact hq1
                have hm : meetTo a b (k + 1) = meetTo a b k := by rw [Hmt.out, hh]; cases meetTo a b k <;> rfl
                have Hm := Lib.hid hm; clear hm hh hq1
                generalize hbv : bestV (meetTo a b k) = bv at *
                have Hbv := Lib.hid hbv; clear hbv
                go_wp2
                go_quiet (fail)
                go_wp2
                exact ⟨⟨k + 1, Hlt.out, by go_num, by rw [Hm.out, Hbv.out], .inr ⟨Hza.out, Hzb.out⟩, hbel2.drewN _⟩, by simp [intOf]; omega⟩
            · have hmx : max xb yb = xb := by omega
              have hma3 := Hma2.out
              rw [hmx] at hma3
              have Hma3 := Lib.hid hma3; clear hma3 hmx Hma2
              by_cases hq1 : xb ≤ xm
              · by_cases hq2 : xb ≤ ym
                · have hh := Hma3.out
                  rw [if_pos ⟨hq1, hq2⟩] at hh
                  cases hmk : meetTo a b k with
                  | none =>
                    have hm : meetTo a b (k + 1) = some xb := by rw [Hmt.out, hmk]; exact hh
                    have hbv : bestV (none : Option Int) = -1 := rfl
                    rw [hbv]
                    have Hm := Lib.hid hm; clear hm hh hmk hbv
                    go_wp2
                    go_quiet (fail)
                    go_wp2
                    exact ⟨⟨k + 1, Hlt.out, by go_num, by rw [Hm.out]; rfl, .inr ⟨Hza.out, Hzb.out⟩, hbel2.drewN _⟩, by simp [intOf]; omega⟩
                  | some u =>
                    obtain ⟨u0, u1⟩ := Hbd.out u hmk
                    have hm : meetTo a b (k + 1) = some u := by rw [Hmt.out, hmk]
                    have hbv : bestV (some u) = u := rfl
                    rw [hbv]
                    have hu1 : decide (u < 0) = false := by simp only [decide_eq_false_iff_not]; omega
                    have hu2 : decide (xb < u) = false := by simp only [decide_eq_false_iff_not]; omega
                    have Hm := Lib.hid hm; clear hm hh hmk hbv
                    go_wp2
                    go_quiet (fail)
                    go_wp2
                    exact ⟨⟨k + 1, Hlt.out, by go_num, by rw [Hm.out]; rfl, .inr ⟨Hza.out, Hzb.out⟩, hbel2.drewN _⟩, by simp [intOf]; omega⟩
                · have hh := Hma3.out
                  rw [if_neg (fun h => hq2 h.2)] at hh
                  have hq2' : decide (xb ≤ ym) = false := by simp only [decide_eq_false_iff_not]; exact hq2
                  have hm : meetTo a b (k + 1) = meetTo a b k := by rw [Hmt.out, hh]; cases meetTo a b k <;> rfl
                  have Hm := Lib.hid hm; clear hm hh hq2
                  generalize hbv : bestV (meetTo a b k) = bv at *
                  have Hbv := Lib.hid hbv; clear hbv
                  go_wp2
                  go_quiet (fail)
                  go_wp2
                  exact ⟨⟨k + 1, Hlt.out, by go_num, by rw [Hm.out, Hbv.out], .inr ⟨Hza.out, Hzb.out⟩, hbel2.drewN _⟩, by simp [intOf]; omega⟩
              · exact absurd x1 hq1
    · obtain rfl : k = a.length := by omega
      cases hv : meetOf n a b with
      | none =>
        have hm : bestV (meetTo a b a.length) = -1 := by
          rcases hval with h | ⟨h1, h2⟩
          · rw [h]; rfl
          · have : meetOf n a b = meetTo a b a.length := by unfold meetOf; rw [h1, h2]; rfl
            rw [← this, hv]; rfl
        rw [hm]
        clear hm hval
        have Hv := Lib.hid hv; clear hv
        go_wp2
        go_ret2
        exact ⟨ret_val (by rw [Hv.out]; rfl), hbel⟩
      | some t =>
        have Hv := Lib.hid hv
        have h2 : validS n a = true ∧ validS n b = true := by
          unfold meetOf at hv
          split at hv
          · rename_i h; simpa using h
          · cases hv
        have hmm : meetOf n a b = meetTo a b a.length := by unfold meetOf; rw [h2.1, h2.2]; rfl
        rw [hmm] at hv
        have hl2 := (validS_iff.1 h2.1).1.2.2.1
        have ht0 : 0 ≤ t := by
          obtain ⟨m, hm⟩ : ∃ m, a.length = m + 1 := ⟨a.length - 1, by omega⟩
          rw [hm] at hv
          unfold meetTo at hv
          cases hmk : meetTo a b m with
          | some u => rw [hmk] at hv; injection hv with hv; subst hv; exact (meetTo_before h2.1 (by omega) hmk).1
          | none => rw [hmk] at hv; have h3 := meetAt_in hv; have h4 := validS_at h2.1 (show m < a.length by omega); omega
        have hm : bestV (meetTo a b a.length) = t := by rw [hv]; rfl
        rw [hm]
        clear hm hval hv hmm h2
        have ht1 : decide (t < 0) = false := by simp only [decide_eq_false_iff_not]; omega
        go_wp2
        go_ret2
        exact ⟨ret_val (by rw [Hv.out]; rfl), hbel⟩

end Go.Proofs.Ytfdaaeapfeajjaa
