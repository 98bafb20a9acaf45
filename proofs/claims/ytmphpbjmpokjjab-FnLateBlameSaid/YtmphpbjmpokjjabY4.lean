/- The model's LateEnd, LateSum, LateFree. -/
import Derived.Test.YtmphpbjmpokjjabY3
import Derived.Test.YtmphpbjmpokjjabYB
import Derived.Test.YtmphpbjmpokjjabIOI
namespace Go.Proofs.Ytmphpbjmpokjjab
open Go.RowKit

set_option maxRecDepth 100000 in
set_option maxHeartbeats 1000000 in
theorem end1_any (n : Int) (v : Value) (l : List Rd) (least start : Int) (v' : Value) (ds : List Int) (w : World) (hv : RoadsIn w v l) (hl : l.length ≤ 1048576) (hv' : IntsIn w v' ds) (hd : ds.length ≤ 1048576) :
    Calls Try.prog 22 #[.int .i64 n, v, .int .i64 least, .int .i64 start, v'] w (Gives (.int .i64 (endX n l least start ds)) w) := by
  have HK := Lib.hid (arrive1_any n v l least start v' ds w hv hl hv' hd)
  clear hv hv' hl hd
  cases hok : okLate n l least start ds with
  | false =>
    rw [hok] at HK
    rw [endX_no hok]
    clear hok
    go_enter Try.func22, Try.ntmps22
    go_wp2_with fail
    refine HK.out.mono ?_; rintro e w1 he
    obtain ⟨v, rfl, _, hb⟩ := okIn he
    clear he
    have HB := Lib.hid hb; clear hb
    go_wp2
    go_ret
    exact ⟨rfl, HB.out⟩
  | true =>
    rw [hok] at HK
    have h2 := okLate_2 hok
    obtain ⟨m, hm⟩ : ∃ m, l.length = m + 1 := ⟨l.length - 1, by omega⟩
    have hlen := arrX_len hok
    have hat := arrX_at hok (k := m) (by omega)
    have hx : endX n l least start ds = (arrX n l least start ds).getD m 0 := by rw [endX_yes hok, hat, hm]; rfl
    rw [hm] at hlen
    have Hx := Lib.hid hx
    have hm8 : m ≤ 7 := by omega
    clear hx hat h2 hok hm
    generalize arrX n l least start ds = xs at *
    go_enter Try.func22, Try.ntmps22
    go_wp2_with fail
    refine HK.out.mono ?_; rintro e w1 he
    obtain ⟨v, rfl, hin, hb⟩ := okIn he
    clear he
    have HB := Lib.hid hb; clear hb
    obtain ⟨a, cap, rfl, hcap, ha⟩ := hin
    obtain ⟨b, o, rfl, hb0, hat⟩ := ha (by rintro rfl; simp at hlen)
    have c0 := hat m (by omega)
    rw [hlen] at hcap ⊢
    have hm0 : (0 : Int) ≤ (m : Int) := Int.natCast_nonneg _
    have hm9 : (m : Int) ≤ 7 := by omega
    generalize xs.getD m 0 = x at *
    clear ha hat hb0 hlen HK
    go_wp2
    go_ret
    rw [Hx.out]
    exact ⟨rfl, HB.out⟩

def SumRel (xs : List Int) (w1 : World) (s i : Value) (wr : World) : Prop := ∃ k : Nat, k ≤ xs.length ∧ i = .int .i64 k ∧ s = .int .i64 (xs.take k).sum ∧ wr = w1

theorem arrX_sum {n : Int} {l : List Rd} {least start : Int} {ds : List Int} (h : okLate n l least start ds = true) (k : Nat) : 0 ≤ ((arrX n l least start ds).take k).sum ∧ ((arrX n l least start ds).take k).sum ≤ 24000 := by
  have h2 := okLate_2 h
  have e : (arrX n l least start ds).take k = arrL l least start ds (min k l.length) := by
    unfold arrX; rw [if_pos h]
    unfold arrL
    rw [← List.map_take, List.take_range]
  rw [e]
  have := arrS_bd h (min k l.length) (by omega)
  omega
theorem take_sum {xs : List Int} {k : Nat} (h : k < xs.length) : (xs.take (k + 1)).sum = (xs.take k).sum + xs.getD k 0 := by
  rw [List.take_succ_eq_append_getElem h, List.sum_append]
  simp [List.getD, h]

def FreeRel (l : List Rd) (least : Int) (w1 : World) (s i : Value) (wr : World) : Prop := ∃ k : Nat, k + 2 ≤ l.length ∧ i = .int .i64 ((k : Int) + 1) ∧ s = .int .i64 (slkSum l least k) ∧ wr = w1

theorem slkX_at {n : Int} {l : List Rd} {least : Int} (h : slkOk n l least = true) {k : Nat} (hk : k < l.length) : (slkX n l least).getD k 0 = slkV l least k := by
  unfold slkX; rw [if_pos h]; simp [slkL, List.getD, hk]
theorem slkX_len {n : Int} {l : List Rd} {least : Int} (h : slkOk n l least = true) : (slkX n l least).length = l.length := by
  unfold slkX; rw [if_pos h, slkL_len]
theorem slkOk_iff {n : Int} {l : List Rd} {least : Int} : slkOk n l least = true ↔ validS n l = true ∧ okDl least = true := by simp [slkOk]
theorem slkV_bd {n : Int} {l : List Rd} {least : Int} (h : slkOk n l least = true) {k : Nat} (hk : k < l.length) : 0 ≤ slkV l least k ∧ slkV l least k ≤ 10000 := by
  obtain ⟨h1, h2⟩ := slkOk_iff.1 h
  have h3 := validS_at h1 hk
  have h4 := okDl_iff.1 h2
  refine ⟨slkV_pos _ _ _, ?_⟩
  unfold slkV; split
  · omega
  · unfold slackOf; omega
theorem slkSum_bd {n : Int} {l : List Rd} {least : Int} (h : slkOk n l least = true) : ∀ k, k < l.length → 0 ≤ slkSum l least k ∧ slkSum l least k ≤ 10000 * k
  | 0, _ => ⟨Int.le_refl _, by show (0 : Int) ≤ _; omega⟩
  | k + 1, hk => by
    have ih := slkSum_bd h k (by omega)
    have := slkV_bd h hk
    show 0 ≤ slkSum l least k + slkV l least (k + 1) ∧ slkSum l least k + slkV l least (k + 1) ≤ _
    omega

set_option maxRecDepth 100000 in
set_option maxHeartbeats 1000000 in
theorem free1_any (n : Int) (v : Value) (l : List Rd) (least : Int) (w : World) (hv : RoadsIn w v l) (hl : l.length ≤ 1048576) :
    Calls Try.prog 29 #[.int .i64 n, v, .int .i64 least] w (Gives (.int .i64 (freeX n l least)) w) := by
  have HK := Lib.hid (slackL1_any n v l least w hv hl)
  clear hv hl
  cases hok : slkOk n l least with
  | false =>
    rw [hok] at HK
    have Hx := Lib.hid (show freeX n l least = -1 by unfold freeX; rw [hok]; rfl)
    clear hok
    go_enter Try.func29, Try.ntmps29
    go_wp2_with fail
    refine HK.out.mono ?_; rintro e w1 he
    obtain ⟨v, rfl, _, hb⟩ := okIn he
    clear he
    have HB := Lib.hid hb; clear hb
    go_wp2
    go_ret
    rw [Hx.out]
    exact ⟨rfl, HB.out⟩
  | true =>
    rw [hok] at HK
    have h2 := (validS_iff.1 (slkOk_iff.1 hok).1).1
    have Hs := Lib.hid (fun k (hk : k < l.length) => slkSum_bd hok k hk)
    have Hv := Lib.hid (fun k (hk : k < l.length) => slkV_bd hok hk)
    have Hat := Lib.hid (fun k (hk : k < l.length) => slkX_at hok hk)
    have hlen := slkX_len hok
    have Hx := Lib.hid (show freeX n l least = min (slkSum l least (l.length - 2)) 300 by unfold freeX; rw [if_pos hok])
    have Hlen := Lib.hid hlen
    obtain ⟨_, _, l2, l8⟩ := h2
    clear hok hlen
    generalize slkX n l least = xs at *
    go_enter Try.func29, Try.ntmps29
    go_wp2_with fail
    refine HK.out.mono ?_; rintro e w1 he
    obtain ⟨v, rfl, hin, hb⟩ := okIn he
    clear he
    have HB := Lib.hid hb; clear hb
    obtain ⟨a, cap, rfl, hcap, ha⟩ := hin
    have Ha := Lib.hid ha
    rw [Hlen.out]
    clear ha hcap HK
    go_wp2
    go_loopw [9, 10] (fun s i wr => FreeRel l least w1 s i wr) (fun _ i _ => l.length - (intOf i).toNat)
    case atStart => exact ⟨0, l2, rfl, rfl, rfl⟩
    case round =>
      obtain ⟨k, hk, rfl, rfl, hw⟩ := hrel
      obtain rfl : w1 = wr := hw.symm
      have s0 := Hs.out k (by omega)
      have hk8 : k ≤ 8 := by omega
      by_cases hlt : k + 2 < l.length
      · obtain ⟨b, o, rfl, hb0, hat⟩ := Ha.out (by intro h; have := Hlen.out; rw [h] at this; simp at this; omega)
        have c0 := hat (k + 1) (by rw [Hlen.out]; omega)
        rw [Hat.out (k + 1) (by omega)] at c0
        have v0 := Hv.out (k + 1) (by omega)
        have Hsu := Lib.hid (show slkSum l least (k + 1) = slkSum l least k + slkV l least (k + 1) from rfl)
        generalize slkSum l least k = s at *
        generalize slkV l least (k + 1) = x at *
        obtain ⟨t0, t1⟩ := s0
        obtain ⟨t2, t3⟩ := v0
        have hkl : (k : Int) + 1 + 1 < (l.length : Int) := by omega
        have hkl1 : (k : Int) + 1 < (l.length : Int) := by omega
        have hk0 : (0 : Int) ≤ (k : Int) := Int.natCast_nonneg _
        have hw1 : wrap64 (s + x) = s + x := by unfold wrap64; omega
        have hw2 : IntKind.i64.wrap (s + x) = s + x := IntWalk.i64_in _ (by omega)
        have Hlt := Lib.hid hlt
        clear hat hb0 hlt hk
        go_wp2
        try go_quiet (fail)
        try go_wp2
        exact ⟨⟨k + 1, Hlt.out, by go_num, by rw [Hsu.out], rfl⟩, by simp [intOf]; omega⟩
      · have hkl : ¬ ((k : Int) + 1 + 1 < (l.length : Int)) := by omega
        have Hx2 := Lib.hid (show freeX n l least = min (slkSum l least k) 300 by rw [Hx.out, show l.length - 2 = k by omega])
        generalize slkSum l least k = s at *
        obtain ⟨t0, t1⟩ := s0
        clear Hx hlt hk
        go_wp2
        all_goals
          go_ret
          rw [Hx2.out]
          exact ⟨by first | rfl | (exact ret_int (by omega)), HB.out⟩

end Go.Proofs.Ytmphpbjmpokjjab
