/- The model's l4Meet, l4Least, SeatingMake. -/
import Derived.Test.YtmadfbncoibapaaEN
import Derived.Test.YtmadfbncoibapaaEY
import Derived.Deep.RegionHeld3
namespace Go.Proofs.Ytmadfbncoibapaa
open Go.RowKit

set_option maxHeartbeats 400000 in
theorem meet1_any (r s : Bk) (w : World) :
    Calls Try.prog 60 #[.agg #[.int .i64 r.a, .int .i64 r.b, .bool r.m], .agg #[.int .i64 s.a, .int .i64 s.b, .bool s.m]] w (Gives (.bool (meetK r s)) w) := by
  obtain ⟨ra, rb, rm⟩ := r
  obtain ⟨sa, sb, sm⟩ := s
  have Hb := Lib.hid (((Below.refl w.heap.size w).alloc (Nat.le_refl _) (.cells #[.int .i64 ra, .int .i64 rb, .bool rm] 35)).alloc (by simp) (.cells #[.int .i64 sa, .int .i64 sb, .bool sm] 35))
  have He := Lib.hid (show meetK ⟨ra, rb, rm⟩ ⟨sa, sb, sm⟩ = (rm == sm && decide (ra < sb) && decide (sa < rb)) from rfl)
  cases q0 : (rm == sm) with
  | false =>
    rw [q0] at He
    go_enter Try.func60, Try.ntmps60
    go_wp2
    go_ret
    exact ⟨ret_bool (by rw [He.out]; rfl), Hb.out⟩
  | true =>
    rw [q0] at He
    by_cases q1 : ra < sb
    · go_enter Try.func60, Try.ntmps60
      go_wp2
      go_ret
      exact ⟨ret_bool (by rw [He.out, decide_eq_true q1]; rfl), Hb.out⟩
    · have hd : decide (ra < sb) = false := by simp only [decide_eq_false_iff_not]; omega
      go_enter Try.func60, Try.ntmps60
      go_wp2
      go_ret
      exact ⟨ret_bool (by rw [He.out, hd]; rfl), Hb.out⟩

/-- The seat t is taken for booking i by k. -/
def hitB (l : List Bk) (q : List Int) (i t k : Nat) : Prop := q.getD k 0 = (t : Int) ∧ meetK (l.getD i bk0) (l.getD k bk0) = true

def LeRel (l : List Bk) (q : List Int) (i s : Nat) (w : World) (sv kv : Value) (wr : World) : Prop :=
  ∃ c k : Nat, c ≤ s ∧ k ≤ l.length ∧ sv = .int .i64 c ∧ kv = .int .i64 k ∧ (∀ k', k' < k → ¬ hitB l q i c k') ∧ Below w.heap.size w wr

set_option maxRecDepth 100000 in
set_option maxHeartbeats 2000000 in
theorem least1_any (v vq : Value) (l : List Bk) (q : List Int) (i s : Nat) (w : World) (hv : BkIn w v l) (hq : IntsIn w vq q) (hl : l.length ≤ 16) (hlq : q.length = l.length) (hi : i < l.length) (hs16 : s ≤ 16)
    (hno : ∀ k, k < l.length → ¬ hitB l q i s k) (hlow : ∀ t, t < s → ∃ k, k < l.length ∧ hitB l q i t k) :
    Calls Try.prog 62 #[v, vq, .int .i64 i] w (Gives (.int .i64 s) w) := by
  obtain ⟨a, cap, rfl, hcap, ha⟩ := hv
  obtain ⟨aq, capq, rfl, hcapq, haq⟩ := hq
  clear hcap hcapq
  obtain ⟨b, o, rfl, hb0, hrw⟩ := ha (by intro h; simp [h] at hi)
  obtain ⟨bq, oq, rfl, hbq0, hrq⟩ := haq (by intro h; rw [h] at hlq; simp at hlq; omega)
  have Hrw := Lib.hid hrw; clear hrw ha
  have Hrq := Lib.hid hrq; clear hrq haq
  have Hno := Lib.hid hno; clear hno
  have Hlow := Lib.hid hlow; clear hlow
  rw [hlq]
  go_enter Try.func62, Try.ntmps62
  go_wp2
  go_loopw [7, 8] (fun sv kv wr => LeRel l q i s w sv kv wr) (fun sv kv _ => (s - (intOf sv).toNat) * 32 + (l.length - (intOf kv).toNat))
  case atStart => exact ⟨0, 0, Nat.zero_le _, Nat.zero_le _, rfl, rfl, fun k' h => absurd h (Nat.not_lt_zero _), Below.refl _ _⟩
  case round =>
    obtain ⟨c, k, hc, hk, rfl, rfl, hlo, hbel⟩ := hrel
    have Hlo := Lib.hid hlo; clear hlo
    have HB := Lib.hid hbel
    by_cases hlt : k < l.length
    · obtain ⟨c0, c1, c2⟩ := (Hrw.out.below hbel hb0) i hi
      obtain ⟨d0, d1, d2⟩ := (Hrw.out.below hbel hb0) k hlt
      have e0 := (Hrq.out.below hbel hbq0) k (by omega)
      clear hbel
      have hk' : (k : Int) < (l.length : Int) := by omega
      have hi' : (i : Int) < (l.length : Int) := by omega
      have hk0 : (0 : Int) ≤ (k : Int) := Int.natCast_nonneg _
      have hi0 : (0 : Int) ≤ (i : Int) := Int.natCast_nonneg _
      have hhit : hitB l q i c k ↔ q.getD k 0 = (c : Int) ∧ meetK (l.getD i bk0) (l.getD k bk0) = true := Iff.rfl
      have HM := Lib.hid (fun w => meet1_any (l.getD i bk0) (l.getD k bk0) w)
      generalize q.getD k 0 = y at *
      by_cases hy : y = (c : Int)
      · subst hy
        have hyc : ((c : Int) == (c : Int)) = true := by simp
        cases hm : meetK (l.getD i bk0) (l.getD k bk0) with
        | true =>
          rw [hm] at HM hhit
          have hh := hhit.2 ⟨rfl, rfl⟩
          have hcs : c < s := by
            rcases Nat.lt_or_ge c s with h | h
            · exact h
            · have : c = s := by omega
              subst this
              exact absurd hh (Hno.out k hlt)
          clear hhit hh hm
          generalize (l.getD i bk0).a = ra at *
          generalize (l.getD i bk0).b = rb at *
          generalize (l.getD i bk0).m = rm at *
          generalize (l.getD k bk0).a = sa at *
          generalize (l.getD k bk0).b = sb at *
          generalize (l.getD k bk0).m = sm at *
          go_wp2
          go_region_held3 (fun w' => w'.cell? ⟨b, o + i * 3, none⟩ = some (.int .i64 ra) ∧ w'.cell? ⟨b, o + i * 3 + 1, none⟩ = some (.int .i64 rb) ∧ w'.cell? ⟨b, o + i * 3 + 2, none⟩ = some (.bool rm) ∧ w'.cell? ⟨b, o + k * 3, none⟩ = some (.int .i64 sa) ∧ w'.cell? ⟨b, o + k * 3 + 1, none⟩ = some (.int .i64 sb) ∧ w'.cell? ⟨b, o + k * 3 + 2, none⟩ = some (.bool sm) ∧ w'.cell? ⟨bq, oq + k, none⟩ = some (.int .i64 c)) (first | (go_keep; done) | (go_split_ands; refine ⟨keepCell hb1 ?_, keepCell hb1 ?_, keepCell hb1 ?_, keepCell hb1 ?_, keepCell hb1 ?_, keepCell hb1 ?_, keepCell hb1 ?_⟩ <;> first | assumption | (go_simp; done)))
            (first | (go_at_call 60; refine (HM.out _).mono ?_; rintro e w1 ⟨rfl, hb1⟩))
          have HB1 := Lib.hid (HB.out.trans ((((Below.refl wr.heap.size wr).drew).trans (hb1.mono (Nat.le_refl _))).mono HB.out.size))
          go_wp2
          exact ⟨⟨c + 1, 0, hcs, Nat.zero_le _, by go_num, by go_num, fun k' h => absurd h (Nat.not_lt_zero _), HB1.out⟩, by simp [intOf]; omega⟩
        | false =>
          rw [hm] at HM hhit
          have Hh := Lib.hid (show ¬ hitB l q i c k from fun h => by cases (hhit.1 h).2)
          clear hhit hm
          generalize (l.getD i bk0).a = ra at *
          generalize (l.getD i bk0).b = rb at *
          generalize (l.getD i bk0).m = rm at *
          generalize (l.getD k bk0).a = sa at *
          generalize (l.getD k bk0).b = sb at *
          generalize (l.getD k bk0).m = sm at *
          go_wp2
          go_region_held3 (fun w' => w'.cell? ⟨b, o + i * 3, none⟩ = some (.int .i64 ra) ∧ w'.cell? ⟨b, o + i * 3 + 1, none⟩ = some (.int .i64 rb) ∧ w'.cell? ⟨b, o + i * 3 + 2, none⟩ = some (.bool rm) ∧ w'.cell? ⟨b, o + k * 3, none⟩ = some (.int .i64 sa) ∧ w'.cell? ⟨b, o + k * 3 + 1, none⟩ = some (.int .i64 sb) ∧ w'.cell? ⟨b, o + k * 3 + 2, none⟩ = some (.bool sm) ∧ w'.cell? ⟨bq, oq + k, none⟩ = some (.int .i64 c)) (first | (go_keep; done) | (go_split_ands; refine ⟨keepCell hb1 ?_, keepCell hb1 ?_, keepCell hb1 ?_, keepCell hb1 ?_, keepCell hb1 ?_, keepCell hb1 ?_, keepCell hb1 ?_⟩ <;> first | assumption | (go_simp; done)))
            (first | (go_at_call 60; refine (HM.out _).mono ?_; rintro e w1 ⟨rfl, hb1⟩))
          have HB1 := Lib.hid (HB.out.trans ((((Below.refl wr.heap.size wr).drew).trans (hb1.mono (Nat.le_refl _))).mono HB.out.size))
          go_wp2
          exact ⟨⟨c, k + 1, hc, hlt, rfl, by go_num, fun k' h => by
            rcases Nat.lt_or_ge k' k with h' | h'
            · exact Hlo.out k' h'
            · have : k' = k := by omega
              subst this; exact Hh.out, HB1.out⟩, by simp [intOf]; omega⟩
      · have hyc : (y == (c : Int)) = false := by simpa using hy
        have Hh := Lib.hid (show ¬ hitB l q i c k from fun h => hy (hhit.1 h).1)
        clear hhit c0 c1 c2 d0 d1 d2 HM
        go_wp2
        go_quiet (fail)
        go_wp2
        exact ⟨⟨c, k + 1, hc, hlt, rfl, by go_num, fun k' h => by
            rcases Nat.lt_or_ge k' k with h' | h'
            · exact Hlo.out k' h'
            · have : k' = k := by omega
              subst this; exact Hh.out, HB.out.drewN _⟩, by simp [intOf]; omega⟩
    · obtain rfl : k = l.length := by omega
      have hcs : c = s := by
        rcases Nat.lt_or_ge c s with h | h
        · obtain ⟨k, h1, h2⟩ := Hlow.out c h
          exact absurd h2 (Hlo.out k h1)
        · omega
      subst hcs
      clear hbel
      go_wp2
      go_ret
      exact ⟨rfl, HB.out⟩

end Go.Proofs.Ytmadfbncoibapaa
