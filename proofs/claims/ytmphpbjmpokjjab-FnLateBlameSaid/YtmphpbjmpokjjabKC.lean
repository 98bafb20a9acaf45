/- The program's LateArrive, LateLeave, LateEnd, LateSum, LateSlack. -/
import Derived.Test.YtmphpbjmpokjjabKB
import Derived.Test.YtmphpbjmpokjjabY4
namespace Go.Proofs.Ytmphpbjmpokjjab
open Go.RowKit

set_option maxRecDepth 100000 in
set_option maxHeartbeats 1000000 in
theorem arrive2_any (n : Int) (v : Value) (l : List Rd) (least start : Int) (v' : Value) (ds : List Int) (w : World) (hv : RoadsIn w v l) (hl : l.length ≤ 1048576) (hv' : IntsIn w v' ds) (hd : ds.length ≤ 1048576) :
    Calls Try.prog 13 #[.int .i64 n, v, .int .i64 least, .int .i64 start, v'] w (IntsOk (arrX n l least start ds) (okLate n l least start ds) w) := by
  have HK := Lib.hid (late2_any n v l least start v' ds w hv hl hv' hd)
  clear hv hv'
  go_enter Try.func13, Try.ntmps13
  go_wp2_with fail
  refine HK.out.mono ?_; rintro e w1 ⟨u, r, rfl, hu, hr, _, hb⟩
  have HF := Lib.hid (And.intro hu hb)
  clear hu hr hb HK
  go_wp2
  go_ret2
  exact IntsOk.row _ HF.out.1 (Nat.le_refl _) HF.out.2

set_option maxRecDepth 100000 in
set_option maxHeartbeats 1000000 in
theorem leave2_any (n : Int) (v : Value) (l : List Rd) (least start : Int) (v' : Value) (ds : List Int) (w : World) (hv : RoadsIn w v l) (hl : l.length ≤ 1048576) (hv' : IntsIn w v' ds) (hd : ds.length ≤ 1048576) :
    Calls Try.prog 16 #[.int .i64 n, v, .int .i64 least, .int .i64 start, v'] w (IntsOk (leaX n l least start ds) (okLate n l least start ds) w) := by
  have HK := Lib.hid (late2_any n v l least start v' ds w hv hl hv' hd)
  clear hv hv'
  go_enter Try.func16, Try.ntmps16
  go_wp2_with fail
  refine HK.out.mono ?_; rintro e w1 ⟨u, r, rfl, hu, hr, _, hb⟩
  have HF := Lib.hid (And.intro hr hb)
  clear hu hr hb HK
  go_wp2
  go_ret2
  exact IntsOk.row _ HF.out.1 (Nat.le_refl _) HF.out.2

set_option maxRecDepth 100000 in
set_option maxHeartbeats 1000000 in
theorem end2_any (n : Int) (v : Value) (l : List Rd) (least start : Int) (v' : Value) (ds : List Int) (w : World) (hv : RoadsIn w v l) (hl : l.length ≤ 1048576) (hv' : IntsIn w v' ds) (hd : ds.length ≤ 1048576) :
    Calls Try.prog 21 #[.int .i64 n, v, .int .i64 least, .int .i64 start, v'] w (Gives (.int .i64 (endX n l least start ds)) w) := by
  have HK := Lib.hid (arrive2_any n v l least start v' ds w hv hl hv' hd)
  clear hv hv' hl hd
  cases hok : okLate n l least start ds with
  | false =>
    rw [hok] at HK
    rw [endX_no hok]
    clear hok
    go_enter Try.func21, Try.ntmps21
    go_wp2_with fail
    refine HK.out.mono ?_; rintro e w1 he
    obtain ⟨v, rfl, _, hb⟩ := okIn he
    clear he
    have HB := Lib.hid hb; clear hb
    go_wp2
    go_ret
    exact ⟨rfl, HB.out⟩
  | true =>
    rw [hok] at HK
    have h2 := okLate_2 hok
    obtain ⟨m, hm⟩ : ∃ m, l.length = m + 1 := ⟨l.length - 1, by omega⟩
    have hlen := arrX_len hok
    have hat := arrX_at hok (k := m) (by omega)
    have hx : endX n l least start ds = (arrX n l least start ds).getD m 0 := by rw [endX_yes hok, hat, hm]; rfl
    rw [hm] at hlen
    have Hx := Lib.hid hx
    have hm8 : m ≤ 7 := by omega
    clear hx hat h2 hok hm
    generalize arrX n l least start ds = xs at *
    go_enter Try.func21, Try.ntmps21
    go_wp2_with fail
    refine HK.out.mono ?_; rintro e w1 he
    obtain ⟨v, rfl, hin, hb⟩ := okIn he
    clear he
    have HB := Lib.hid hb; clear hb
    obtain ⟨a, cap, rfl, hcap, ha⟩ := hin
    obtain ⟨b, o, rfl, hb0, hat⟩ := ha (by rintro rfl; simp at hlen)
    have c0 := hat m (by omega)
    rw [hlen] at hcap ⊢
    have hm0 : (0 : Int) ≤ (m : Int) := Int.natCast_nonneg _
    have hm9 : (m : Int) ≤ 7 := by omega
    generalize xs.getD m 0 = x at *
    clear ha hat hb0 hlen HK
    go_wp2
    go_ret
    rw [Hx.out]
    exact ⟨rfl, HB.out⟩

def SkRel (l : List Rd) (least : Int) (hs : List Nat) (w1 : World) (gk : Nat) (u hv : Value) (wr : World) : Prop :=
  ∃ k : Nat, k + gk = l.length ∧ hv = ptB hs[k]? ∧ RowI wr w1.heap.size u (slkL l least k) ∧ Below w1.heap.size w1 wr

theorem late_one (w : World) (x : Int) : IntAt (w.alloc (.cells #[.int .i64 x] 3)) w.heap.size 0 [x] := fun i hi => by
  simp at hi
  subst hi; simp

set_option maxRecDepth 100000 in
set_option maxHeartbeats 2000000 in
theorem slackL2_any (n : Int) (v : Value) (l : List Rd) (least : Int) (w : World) (hv : RoadsIn w v l) (hl : l.length ≤ 1048576) :
    Calls Try.prog 17 #[.int .i64 n, v, .int .i64 least] w (IntsOk (slkX n l least) (slkOk n l least) w) := by
  obtain ⟨i0, hi, hz0, hz1, hz2⟩ := info_parts Try.info3
  have HC := Lib.hid (ttOf_any n v l w hv hl)
  clear hv
  have Hok := Lib.hid (show slkOk n l least = (validS n l && okDl least) from rfl)
  have Hno := Lib.hid (fun (h : slkOk n l least = false) => (show slkX n l least = [] by unfold slkX; rw [h]; rfl))
  cases hz : validS n l with
  | false =>
    have ho := Lib.hid (show slkOk n l least = false by rw [Hok.out, hz]; rfl)
    have hx := Lib.hid (Hno.out ho.out)
    have Hz := Lib.hid hz; clear hz Hok Hno
    go_enter Try.func17, Try.ntmps17
    go_wp2_with fail
    refine HC.out.mono ?_; rintro e w1 ⟨_, h1⟩
    obtain ⟨rfl, hb1⟩ := h1 Hz.out
    have HB1 := Lib.hid hb1
    clear h1 hb1 HC
    go_wp2
    go_ret2
    rw [hx.out, ho.out]
    exact IntsOk.no HB1.out.size (by simp) (HB1.out.alloc HB1.out.size _)
  | true =>
    rw [hz, Bool.true_and] at Hok
    obtain ⟨⟨_, _, l2, l8⟩, _⟩ := validS_iff.1 hz
    have Hz := Lib.hid hz; clear hz
    go_enter Try.func17, Try.ntmps17
    go_wp2_with fail
    refine HC.out.mono ?_; rintro e w1 ⟨h1, _⟩
    obtain ⟨tb, hs, rfl, htt, _, hb1⟩ := h1 Hz.out
    have HB1 := Lib.hid hb1
    have HT1 := Lib.hid htt
    have HB2 := Lib.hid (HB1.out.alloc HB1.out.size (.cells #[.int .i64 least] 3))
    have HT2 := Lib.hid (HT1.out.below ((Below.refl _ _).alloc (Nat.le_refl _) (.cells #[.int .i64 least] 3)))
    have HI := Lib.hid (IntsIn.row (cap := 1) (show w1.heap.size < (w1.alloc (.cells #[.int .i64 least] 3)).heap.size by simp) (by simp) (late_one w1 least))
    clear h1 hb1 HC htt HT1
    go_wp2_with fail
    generalize w1.alloc (.cells #[.int .i64 least] 3) = w2 at *
    refine (areDl_any _ [least] _ HI.out (by simp)).mono ?_; rintro e w2 ⟨rfl, rfl⟩
    rw [show allDl [least] = okDl least by simp [allDl]]
    clear HI
    cases hq : okDl least with
    | false =>
      have ho := Lib.hid (show slkOk n l least = false by rw [Hok.out, hq])
      have hx := Lib.hid (Hno.out ho.out)
      clear hq Hok Hno
      go_wp2
      go_ret2
      rw [hx.out, ho.out]
      exact IntsOk.no HB2.out.size (by simp) (HB2.out.alloc HB2.out.size _)
    | true =>
      obtain ⟨l0, l1⟩ := okDl_iff.1 hq
      have ho := Lib.hid (show slkOk n l least = true by rw [Hok.out, hq])
      have hx := Lib.hid (show slkX n l least = slkL l least l.length by unfold slkX; rw [if_pos ho.out])
      have hu0 := Lib.hid (RowI.made w2 w2.heap.size (Nat.le_refl _))
      have hb3 : Below w2.heap.size w2 (w2.alloc (.cells #[] 3)) := (Below.refl _ _).alloc (Nat.le_refl _) _
      have HB3 := Lib.hid hb3
      have c0 := (HT2.out.below hb3).first_some (by omega)
      have Hlen := Lib.hid HT2.out.len
      clear hq Hok Hno hb3
      generalize hg0 : hs.getD 0 0 = g0 at *
      have Hg0 := Lib.hid hg0
      clear hg0
      go_wp2
      go_loopg [10, 11] l.length (fun gk u hv wr => SkRel l least hs w2 gk u hv wr)
      case atStart =>
        refine ⟨0, by omega, ?_, hu0.out, HB3.out⟩
        rw [ptB_some (by rw [Hlen.out]; omega), Hg0.out]
      case round =>
        obtain ⟨k, hkg, rfl, hu, hbel⟩ := hrel
        have HTr := Lib.hid (HT2.out.below hbel)
        by_cases hlt : k < l.length
        · rw [ptB_some (by rw [HTr.out.len]; exact hlt)]
          have c1 := HTr.out.arrive hlt
          have c2 := HTr.out.leave hlt
          have c4 : ∃ pv, wr.cell? ⟨hs.getD k 0, 4, none⟩ = some (.pointer pv) ∧ SlkIs pv (l.getD k rd0).b (l.getD k rd0).m least (slkV l least k) := by
            cases k with
            | zero => exact ⟨none, HTr.out.prev_none (by omega), .inl ⟨rfl, rfl⟩⟩
            | succ j => exact ⟨_, HTr.out.prev_some hlt, .inr ⟨_, rfl, by unfold slkV slackOf; rw [if_neg (by omega)]⟩⟩
          obtain ⟨pv, c4, hsk⟩ := c4
          have hc5 : ∀ w8 : World, Below w2.heap.size wr w8 → w8.cell? ⟨hs.getD k 0, 5, none⟩ = some (ptB hs[k + 1]?) := fun w8 h8 => ((HT2.out.below (hbel.trans h8)).halts k hlt).cell rfl
          obtain ⟨_, _, b0, b1, b2, _⟩ := validS_at Hz.out hlt
          have HN := Lib.hid (slackAt_any (hs.getD k 0) pv (l.getD k rd0).b (l.getD k rd0).m least (slkV l least k) wr c1 c2 c4 b0 b1 b2 l0 l1 hsk)
          have Hsu := Lib.hid (slkL_succ l least k)
          have Hc5 := Lib.hid hc5
          have hz6 := hbel.size
          unfold RowI at hu
          rw [slkL_len] at hu
          have Hu := Lib.hid hu
          have HB := Lib.hid hbel
          have hk8 : k ≤ 7 := by omega
          obtain ⟨gk', rfl⟩ : ∃ g, gk = g + 1 := ⟨gk - 1, by omega⟩
          have Hkg := Lib.hid hkg
          clear c1 c2 c4 hsk hc5 b0 b1 b2 hu hbel hlt hkg
          generalize slkV l least k = x at *
          generalize hs.getD k 0 = hk at *
          go_wp2_with fail
          refine HN.out.mono ?_; rintro e w6 ⟨rfl, hb6⟩
          have hu6 := own_keep Hu.out hb6
          have HB6 := Lib.hid (show Below w2.heap.size wr w6 from hb6.mono hz6)
          have hz7 := HB6.out.size
          clear hb6 HN
          go_wp2_with (at_builtin; refine wpList_append_own _ rfl _ _ 24 rfl w2.heap.size 3 i0 (.int .i64 0) 1 8 Try.underlying24 hi hz0 hz1 hz2 rfl (by decide) _ k _ rfl (World.ownsRow.alloc hu6 _) ⟨w6.heap.size, 0, none⟩ 1 1 [.int .i64 x] rfl rfl (cell_one_new _ _ _) (by simp [Value.oneCell']) (by simp only [maxLen]; omega) (by omega) (by simp; omega) ?_; intro v' w8 hown8 hgrow _; have hb8 : Below w2.heap.size wr w8 := (HB6.out.alloc (by omega) (.cells #[.int .i64 x] 3)).grown hgrow (by simp; omega) (fun q hq => (hu6.lt q hq).1); have c5 := Hc5.out w8 hb8)
          have hown9 : RowI w8 w2.heap.size v' (slkL l least (k + 1)) := by
            rw [Hsu.out]
            refine RowI.snoc ?_
            rw [slkL_len]; exact hown8
          have HF := Lib.hid (And.intro hown9 hb8)
          clear hown8 hown9 hgrow hu6 hb8
          go_roundg gk'
          case measure => omega
          case rel => exact ⟨k + 1, by have := Hkg.out; omega, rfl, HF.out.1, HB.out.trans HF.out.2⟩
        · obtain rfl : k = l.length := by omega
          have HF := Lib.hid (And.intro hu hbel)
          have hpn : ptB hs[l.length]? = .pointer none := ptB_none (by rw [HTr.out.len]; exact Nat.le_refl _)
          rw [hpn]
          clear hu hbel hlt hkg hpn
          go_wp2
          go_ret2
          rw [hx.out, ho.out]
          exact IntsOk.row true HF.out.1 HB2.out.size (HB2.out.trans (HF.out.2.mono HB2.out.size))

end Go.Proofs.Ytmphpbjmpokjjab
