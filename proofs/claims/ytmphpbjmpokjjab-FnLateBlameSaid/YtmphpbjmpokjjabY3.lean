/- The model's LateArrive, LateLeave, LateSlack. -/
import Derived.Test.YtmphpbjmpokjjabY2
import Derived.Test.YtmphpbjmpokjjabIO
namespace Go.Proofs.Ytmphpbjmpokjjab
open Go.RowKit

set_option maxRecDepth 100000 in
set_option maxHeartbeats 1000000 in
theorem arrive1_any (n : Int) (v : Value) (l : List Rd) (least start : Int) (v' : Value) (ds : List Int) (w : World) (hv : RoadsIn w v l) (hl : l.length ≤ 1048576) (hv' : IntsIn w v' ds) (hd : ds.length ≤ 1048576) :
    Calls Try.prog 14 #[.int .i64 n, v, .int .i64 least, .int .i64 start, v'] w (IntsOk (arrX n l least start ds) (okLate n l least start ds) w) := by
  have HK := Lib.hid (lateOk1_any n v l least start v' ds w hv hl hv' hd)
  have HR := Lib.hid (fun (h : okLate n l least start ds = true) (w' : World) (hb : Below w.heap.size w w') => run1_any v n l least start v' ds w' (hv.below hb) (hv'.below hb) h)
  clear hv hv'
  go_enter Try.func14, Try.ntmps14
  go_wp2_with fail
  refine HK.out.mono ?_; rintro e w1 ⟨rfl, hb1⟩
  have HB1 := Lib.hid hb1
  clear hb1 HK
  cases hok : okLate n l least start ds with
  | false =>
    have Hx := Lib.hid (show arrX n l least start ds = [] by unfold arrX; rw [hok]; rfl)
    have Ho := Lib.hid hok
    clear hok HR
    go_wp2
    go_ret2
    rw [Hx.out, Ho.out]
    exact IntsOk.no HB1.out.size (by simp) (HB1.out.alloc HB1.out.size _)
  | true =>
    have Hx := Lib.hid (show arrX n l least start ds = arrL l least start ds l.length by unfold arrX; rw [hok]; rfl)
    have HRk := Lib.hid (HR.out hok w1 HB1.out)
    have Ho := Lib.hid hok
    clear hok HR
    go_wp2_with fail
    refine HRk.out.mono ?_; rintro e w2 ⟨u, r, rfl, hu, hr, hb2⟩
    have HF := Lib.hid (And.intro hu (HB1.out.trans (hb2.mono HB1.out.size)))
    clear hu hr hb2 HRk
    go_wp2
    go_ret2
    rw [Hx.out, Ho.out]
    exact IntsOk.row true HF.out.1 HB1.out.size HF.out.2

set_option maxRecDepth 100000 in
set_option maxHeartbeats 1000000 in
theorem leave1_any (n : Int) (v : Value) (l : List Rd) (least start : Int) (v' : Value) (ds : List Int) (w : World) (hv : RoadsIn w v l) (hl : l.length ≤ 1048576) (hv' : IntsIn w v' ds) (hd : ds.length ≤ 1048576) :
    Calls Try.prog 19 #[.int .i64 n, v, .int .i64 least, .int .i64 start, v'] w (IntsOk (leaX n l least start ds) (okLate n l least start ds) w) := by
  have HK := Lib.hid (lateOk1_any n v l least start v' ds w hv hl hv' hd)
  have HR := Lib.hid (fun (h : okLate n l least start ds = true) (w' : World) (hb : Below w.heap.size w w') => run1_any v n l least start v' ds w' (hv.below hb) (hv'.below hb) h)
  clear hv hv'
  go_enter Try.func19, Try.ntmps19
  go_wp2_with fail
  refine HK.out.mono ?_; rintro e w1 ⟨rfl, hb1⟩
  have HB1 := Lib.hid hb1
  clear hb1 HK
  cases hok : okLate n l least start ds with
  | false =>
    have Hx := Lib.hid (show leaX n l least start ds = [] by unfold leaX; rw [hok]; rfl)
    have Ho := Lib.hid hok
    clear hok HR
    go_wp2
    go_ret2
    rw [Hx.out, Ho.out]
    exact IntsOk.no HB1.out.size (by simp) (HB1.out.alloc HB1.out.size _)
  | true =>
    have Hx := Lib.hid (show leaX n l least start ds = leaL l least start ds l.length by unfold leaX; rw [hok]; rfl)
    have HRk := Lib.hid (HR.out hok w1 HB1.out)
    have Ho := Lib.hid hok
    clear hok HR
    go_wp2_with fail
    refine HRk.out.mono ?_; rintro e w2 ⟨u, r, rfl, hu, hr, hb2⟩
    have HF := Lib.hid (And.intro hr (HB1.out.trans (hb2.mono HB1.out.size)))
    clear hu hr hb2 HRk
    go_wp2
    go_ret2
    rw [Hx.out, Ho.out]
    exact IntsOk.row true HF.out.1 HB1.out.size HF.out.2

theorem slkL_succ (l : List Rd) (least : Int) (n : Nat) : slkL l least (n + 1) = slkL l least n ++ [slkV l least n] := by simp [slkL, List.range_succ]
theorem slkL_len (l : List Rd) (least : Int) (n : Nat) : (slkL l least n).length = n := by simp [slkL]
def SlkRel (l : List Rd) (least : Int) (w : World) (u iv : Value) (wr : World) : Prop :=
  ∃ i : Nat, i ≤ l.length ∧ iv = .int .i64 i ∧ RowI wr w.heap.size u (slkL l least i) ∧ Below w.heap.size w wr

set_option maxRecDepth 100000 in
set_option maxHeartbeats 2000000 in
theorem slackL1_any (n : Int) (v : Value) (l : List Rd) (least : Int) (w : World) (hv : RoadsIn w v l) (hl : l.length ≤ 1048576) :
    Calls Try.prog 25 #[.int .i64 n, v, .int .i64 least] w (IntsOk (slkX n l least) (slkOk n l least) w) := by
  obtain ⟨i0, hi, hz0, hz1, hz2⟩ := info_parts Try.info3
  have hb0 : Below w.heap.size w (w.alloc (.cells #[] 3)) := (Below.refl _ _).alloc (Nat.le_refl _) _
  have HV := Lib.hid (valid1_any n v l _ (hv.below hb0) hl)
  have Hown0 := Lib.hid (RowI.made w w.heap.size (Nat.le_refl _))
  have HB0 := Lib.hid hb0
  obtain ⟨a, cap, rfl, ha⟩ := hv
  have Ha := Lib.hid ha
  clear ha hb0
  have Hok := Lib.hid (show slkOk n l least = (validS n l && okDl least) from rfl)
  have Hno := Lib.hid (fun (h : slkOk n l least = false) => (show slkX n l least = [] by unfold slkX; rw [h]; rfl))
  have Hyes := Lib.hid (fun (h : slkOk n l least = true) => (show slkX n l least = slkL l least l.length by unfold slkX; rw [h]; rfl))
  go_enter Try.func25, Try.ntmps25
  go_wp2_with fail
  refine HV.out.mono ?_; rintro e w1 ⟨rfl, hb1⟩
  have HB1 := Lib.hid (HB0.out.trans (hb1.mono HB0.out.size))
  have Hown1 := Lib.hid (Hown0.out.below hb1)
  have hlt0 : w.heap.size < w1.heap.size := Nat.lt_of_lt_of_le (by simp) hb1.size
  clear hb1 HV HB0 Hown0
  cases hq : validS n l with
  | false =>
    have ho := Lib.hid (show slkOk n l least = false by rw [Hok.out, hq]; rfl)
    have hx := Lib.hid (Hno.out ho.out)
    clear hq Hno Hyes Hok
    go_wp2
    go_ret2
    rw [hx.out, ho.out]
    exact IntsOk.no (Nat.le_refl _) hlt0 HB1.out
  | true =>
    have hvl := hq
    rw [hq] at Hok
    have Hfit := Lib.hid (fun (i : Nat) (hi : i < l.length) => validS_at hvl hi)
    obtain ⟨⟨_, _, h2, h8⟩, _⟩ := validS_iff.1 hvl
    clear hq hvl
    go_wp2_with fail
    refine (l6In_any _ _ _ _).mono ?_; rintro e w' ⟨rfl, rfl⟩
    rw [okDl_in]
    cases hq : okDl least with
    | false =>
      have ho := Lib.hid (show slkOk n l least = false by rw [Hok.out, hq]; rfl)
      have hx := Lib.hid (Hno.out ho.out)
      clear hq Hno Hyes Hok
      go_wp2
      go_ret2
      rw [hx.out, ho.out]
      exact IntsOk.no (Nat.le_refl _) hlt0 HB1.out
    | true =>
      obtain ⟨l0, l1⟩ := okDl_iff.1 hq
      have ho := Lib.hid (show slkOk n l least = true by rw [Hok.out, hq]; rfl)
      have hx := Lib.hid (Hyes.out ho.out)
      clear hq Hno Hyes Hok
      obtain ⟨b, o, rfl, hb, hrw⟩ := Ha.out (by rintro rfl; simp at h2)
      have Hl := Lib.hid (fun (w' : World) (h : Below w.heap.size w w') (i : Nat) (hi : i < l.length) => (hrw.below h hb) i hi)
      clear hb hrw Ha
      go_wp2
      go_loopw [8, 9] (fun u iv wr => SlkRel l least w u iv wr) (fun _ iv _ => l.length - (intOf iv).toNat)
      case atStart => exact ⟨0, Nat.zero_le _, rfl, Hown1.out, HB1.out⟩
      case round =>
        clear HB1 Hown1 hlt0
        obtain ⟨i, hil, rfl, hu, hbel⟩ := hrel
        by_cases hlt : i < l.length
        · obtain ⟨e0, e1, e2⟩ := Hl.out _ hbel i hlt
          have hfit := Hfit.out i hlt
          have hsu := slkL_succ l least i
          have hs1 := slack1_any (l.getD i rd0).a (l.getD i rd0).b (l.getD i rd0).m least
          have hsv : slackOf least (l.getD i rd0) = slackOf least ⟨(l.getD i rd0).a, (l.getD i rd0).b, (l.getD i rd0).m⟩ := rfl
          have hi8 : i ≤ 8 := by omega
          have hi' : (i : Int) < (l.length : Int) := by omega
          have hi0 : (0 : Int) ≤ (i : Int) := Int.natCast_nonneg _
          have hsz := hbel.size
          have HB := Lib.hid hbel
          unfold RowI at hu
          rw [slkL_len] at hu
          by_cases h0 : i = 0
          · subst h0
            have Hsu := Lib.hid (show slkL l least (0 + 1) = slkL l least 0 ++ [0] from hsu)
            clear hsu hs1 hsv hfit e0 e1 e2 hbel hi0
            go_wp2_with (at_builtin; refine wpList_append_own _ rfl _ _ 24 rfl w.heap.size 3 i0 (.int .i64 0) 1 8 Try.underlying24 hi hz0 hz1 hz2 rfl (by decide) _ _ _ rfl (World.ownsRow.alloc hu _) ⟨wr.heap.size, 0, none⟩ 1 1 [.int .i64 0] rfl rfl (cell_one_new _ _ _) (by simp [Value.oneCell']) (by simp only [maxLen]; omega) (by omega) (by simp; omega) ?_; intro v' w8 hown8 hgrow _)
            have hB8 := (HB.out.alloc hsz (.cells #[.int .i64 0] 3)).grown hgrow (by simp; omega) (fun q hq => (hu.lt q hq).1)
            have hown9 : RowI w8 w.heap.size v' (slkL l least (0 + 1)) := by rw [Hsu.out]; exact RowI.snoc hown8
            have HF := Lib.hid (And.intro hown9 hB8)
            clear hown8 hown9 hgrow hu hB8
            go_wp2
            exact ⟨⟨0 + 1, hlt, by go_num, HF.out.1, HF.out.2⟩, by simp [intOf]; omega⟩
          · have hne : ((i : Int) == 0) = false := by simp; omega
            have hsv2 : slkV l least i = slackOf least (l.getD i rd0) := by unfold slkV; rw [if_neg h0]
            rw [hsv2, hsv] at hsu
            have HS := Lib.hid (fun (w' : World) => hs1 w' (by omega) (by omega) (by omega))
            generalize slackOf least ⟨(l.getD i rd0).a, (l.getD i rd0).b, (l.getD i rd0).m⟩ = sl at *
            generalize (l.getD i rd0).a = sa at *
            generalize (l.getD i rd0).b = sb at *
            generalize (l.getD i rd0).m = sm at *
            have Hsu := Lib.hid hsu
            clear hsu hs1 hsv hfit hbel hsv2
            go_wp2_with fail
            refine (HS.out wr).mono ?_; rintro e w3 ⟨rfl, hb3⟩
            have hu3 := own_keep hu hb3
            have hs3 := hb3.size
            have HB3 := Lib.hid (HB.out.trans (hb3.mono HB.out.size))
            have hs9 := HB3.out.size
            clear hb3 hu e0 e1 e2
            go_wp2_with (at_builtin; refine wpList_append_own _ rfl _ _ 24 rfl w.heap.size 3 i0 (.int .i64 0) 1 8 Try.underlying24 hi hz0 hz1 hz2 rfl (by decide) _ _ _ rfl (World.ownsRow.alloc hu3 _) ⟨w3.heap.size, 0, none⟩ 1 1 [.int .i64 sl] rfl rfl (cell_one_new _ _ _) (by simp [Value.oneCell']) (by simp only [maxLen]; omega) (by omega) (by simp; omega) ?_; intro v' w8 hown8 hgrow _)
            have hB8 := (HB3.out.alloc hs9 (.cells #[.int .i64 sl] 3)).grown hgrow (by simp; omega) (fun q hq => (hu3.lt q hq).1)
            have hown9 : RowI w8 w.heap.size v' (slkL l least (i + 1)) := by
              rw [Hsu.out]
              refine RowI.snoc ?_
              rw [slkL_len]; exact hown8
            have HF := Lib.hid (And.intro hown9 hB8)
            clear hown8 hown9 hgrow hu3 hB8
            go_wp2
            exact ⟨⟨i + 1, hlt, by go_num, HF.out.1, HF.out.2⟩, by simp [intOf]; omega⟩
        · obtain rfl : i = l.length := by omega
          have HF := Lib.hid (And.intro hu hbel)
          clear hu hbel hlt hil
          go_wp2
          go_ret2
          rw [hx.out, ho.out]
          exact IntsOk.row true HF.out.1 (Nat.le_refl _) HF.out.2

end Go.Proofs.Ytmphpbjmpokjjab
