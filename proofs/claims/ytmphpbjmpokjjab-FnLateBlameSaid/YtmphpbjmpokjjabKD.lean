/- The program's LateBlame, LateFree. -/
import Derived.Test.YtmphpbjmpokjjabKC
import Derived.Test.YtmphpbjmpokjjabY5
namespace Go.Proofs.Ytmphpbjmpokjjab
open Go.RowKit

set_option maxRecDepth 100000 in
set_option maxHeartbeats 2000000 in
theorem blame2_any (n : Int) (v : Value) (l : List Rd) (least start : Int) (v' : Value) (ds : List Int) (k : Int) (w : World) (hv : RoadsIn w v l) (hl : l.length ≤ 1048576) (hv' : IntsIn w v' ds) (hd : ds.length ≤ 1048576) :
    Calls Try.prog 32 #[.int .i64 n, v, .int .i64 least, .int .i64 start, v', .int .i64 k] w (Gives (.int .i64 (blameX n l least start ds k)) w) := by
  have HE := Lib.hid (end2_any n v l least start v' ds w hv hl hv' hd)
  have HE2 := Lib.hid (fun (w' : World) (h : Below w.heap.size w w') (v2 : Value) (ds2 : List Int) (h2 : IntsIn w' v2 ds2) (h3 : ds2.length ≤ 1048576) => end2_any n v l least start v2 ds2 w' (hv.below h) hl h2 h3)
  obtain ⟨x0, x1⟩ := endX_bd n l least start ds
  obtain ⟨a', cap', rfl, hc', ha'⟩ := hv'
  have Ha' := Lib.hid ha'
  clear ha' hc' hv
  by_cases hE : endX n l least start ds < 0
  · have Hr := Lib.hid (blame_no (n := n) (l := l) (least := least) (start := start) (ds := ds) (k := k) (by omega))
    clear HE2
    generalize endX n l least start ds = E at *
    go_enter Try.func32, Try.ntmps32
    go_wp2_with fail
    refine HE.out.mono ?_; rintro e w1 ⟨rfl, hb1⟩
    have HB1 := Lib.hid hb1
    clear hb1 HE
    go_wp2
    go_ret
    rw [Hr.out]
    exact ⟨rfl, HB1.out⟩
  · by_cases hk : 0 ≤ k ∧ k < ds.length
    · obtain ⟨j, rfl⟩ : ∃ j : Nat, k = (j : Int) := ⟨k.toNat, by omega⟩
      have hj : j < ds.length := by omega
      have hj1 : ¬ ((j : Int) < 0) := by omega
      have hj2 : ¬ ((ds.length : Int) ≤ (j : Int)) := by omega
      have Hr := Lib.hid (blame_yes (n := n) (l := l) (least := least) (start := start) (ds := ds) (by omega) hj)
      obtain ⟨y0, y1⟩ := endX_bd n l least start (ds.set j 0)
      obtain ⟨b, o, rfl, hb0, hat⟩ := Ha'.out (by rintro rfl; simp at hj)
      have Hat := Lib.hid hat
      have Hlen := Lib.hid (show (ds.set j 0).length = ds.length by simp)
      have HE2' := Lib.hid (fun (w' : World) (h : Below w.heap.size w w') (v2 : Value) (h2 : IntsIn w' v2 (ds.set j 0)) => HE2.out w' h v2 (ds.set j 0) h2 (by rw [Hlen.out]; exact hd))
      clear hk hat HE2
      generalize endX n l least start ds = E at *
      generalize endX n l least start (ds.set j 0) = E2 at *
      go_enter Try.func32, Try.ntmps32
      go_wp2_with fail
      refine HE.out.mono ?_; rintro e w1 ⟨rfl, hb1⟩
      have HB1 := Lib.hid hb1
      clear hb1 HE
      go_wp2_with fail
      refine (cloneI_any b o cap' ds w1 (Nat.lt_of_lt_of_le hb0 HB1.out.size) (Hat.out.below HB1.out hb0) hd).mono ?_; rintro e w2 ⟨v2, rfl, hrow, hb3⟩
      obtain ⟨g, cp, rfl, hcp, hat2, hroom, hgB, hgl⟩ := hrow.open2 (by omega)
      have c1 := hat2 j hj
      rw [Nat.zero_add] at c1
      have hfz := hroom.2 j
      have HW := Lib.hid (And.intro (hrow.setAt j 0).in_ ((HB1.out.trans (hb3.mono HB1.out.size)).setCell (p := ⟨g, j, none⟩) (show w.heap.size ≤ g from Nat.le_trans HB1.out.size hgB) (.int .i64 0)))
      clear hrow hb3 hat2 hroom
      go_wp2_with fail
      generalize w2.setCell ⟨g, j, none⟩ (.int .i64 0) = w3 at *
      refine (HE2'.out w3 HW.out.2 _ HW.out.1).mono ?_; rintro e w4 ⟨rfl, hb4⟩
      have HB4 := Lib.hid (HW.out.2.trans (hb4.mono HW.out.2.size))
      have hw4 : wrap64 (E - E2) = E - E2 := by unfold wrap64; omega
      clear hb4 HW HE2' c1 hfz
      go_wp2
      go_ret
      rw [Hr.out]
      exact ⟨rfl, HB4.out⟩
    · have Hr := Lib.hid (blame_no (n := n) (l := l) (least := least) (start := start) (ds := ds) (k := k) (fun q => hk q.2))
      clear HE2
      generalize endX n l least start ds = E at *
      by_cases hk0 : k < 0
      · clear hk
        go_enter Try.func32, Try.ntmps32
        go_wp2_with fail
        refine HE.out.mono ?_; rintro e w1 ⟨rfl, hb1⟩
        have HB1 := Lib.hid hb1
        clear hb1 HE
        go_wp2
        go_ret
        rw [Hr.out]
        exact ⟨rfl, HB1.out⟩
      · have hk1 : (ds.length : Int) ≤ k := by omega
        clear hk
        go_enter Try.func32, Try.ntmps32
        go_wp2_with fail
        refine HE.out.mono ?_; rintro e w1 ⟨rfl, hb1⟩
        have HB1 := Lib.hid hb1
        clear hb1 HE
        go_wp2
        go_ret
        rw [Hr.out]
        exact ⟨rfl, HB1.out⟩

/-- By how much the coach has arrived late at the stop ahead. -/
def lastA (l : List Rd) (least start : Int) (ds : List Int) (k : Nat) : Int := match k with | 0 => 0 | j + 1 => arrV l least start ds j
def FrRel (l : List Rd) (least : Int) (hs : List Nat) (w3 : World) (gl gm : Nat) (gk : Nat) (ev hv : Value) (wr : World) : Prop :=
  ∃ k : Nat, k + gk = l.length ∧ hv = ptB hs[k]? ∧ ev = .int .i64 (lastA l least 300 [] k) ∧ Whole wr gl 3 #[.int .i64 (prevV l least 300 [] k)] ∧ Whole wr gm 3 #[.int .i64 least] ∧ Below w3.heap.size w3 wr

theorem free_bd (l : List Rd) (least : Int) (k : Nat) : 0 ≤ leaV l least 300 [] k ∧ leaV l least 300 [] k ≤ 300 := by
  rw [lea_free l least 300 (by decide) k]
  have := slkSum_pos l least k
  omega

set_option maxRecDepth 100000 in
set_option maxHeartbeats 2000000 in
theorem free2_any (n : Int) (v : Value) (l : List Rd) (least : Int) (w : World) (hv : RoadsIn w v l) (hl : l.length ≤ 1048576) :
    Calls Try.prog 28 #[.int .i64 n, v, .int .i64 least] w (Gives (.int .i64 (freeX n l least)) w) := by
  have HC := Lib.hid (ttOf_any n v l w hv hl)
  clear hv
  have Hok := Lib.hid (show slkOk n l least = (validS n l && okDl least) from rfl)
  have Hno := Lib.hid (fun (h : slkOk n l least = false) => (show freeX n l least = -1 by unfold freeX; rw [h]; rfl))
  cases hz : validS n l with
  | false =>
    have hx := Lib.hid (Hno.out (show slkOk n l least = false by rw [Hok.out, hz]; rfl))
    have Hz := Lib.hid hz; clear hz Hok Hno
    go_enter Try.func28, Try.ntmps28
    go_wp2_with fail
    refine HC.out.mono ?_; rintro e w1 ⟨_, h1⟩
    obtain ⟨rfl, hb1⟩ := h1 Hz.out
    have HB1 := Lib.hid hb1
    clear h1 hb1 HC
    go_wp2
    go_ret
    rw [hx.out]
    exact ⟨rfl, HB1.out⟩
  | true =>
    rw [hz, Bool.true_and] at Hok
    obtain ⟨⟨_, _, l2, l8⟩, _⟩ := validS_iff.1 hz
    have Hz := Lib.hid hz; clear hz
    go_enter Try.func28, Try.ntmps28
    go_wp2_with fail
    refine HC.out.mono ?_; rintro e w1 ⟨h1, _⟩
    obtain ⟨tb, hs, rfl, htt, _, hb1⟩ := h1 Hz.out
    have HB1 := Lib.hid hb1
    have HT1 := Lib.hid htt
    have HB2 := Lib.hid (HB1.out.alloc HB1.out.size (.cells #[.int .i64 least] 3))
    have HT2 := Lib.hid (HT1.out.below ((Below.refl _ _).alloc (Nat.le_refl _) (.cells #[.int .i64 least] 3)))
    have HI := Lib.hid (IntsIn.row (cap := 1) (show w1.heap.size < (w1.alloc (.cells #[.int .i64 least] 3)).heap.size by simp) (by simp) (late_one w1 least))
    clear h1 hb1 HC htt HT1
    go_wp2_with fail
    generalize w1.alloc (.cells #[.int .i64 least] 3) = w2 at *
    refine (areDl_any _ [least] _ HI.out (by simp)).mono ?_; rintro e w2 ⟨rfl, rfl⟩
    rw [show allDl [least] = okDl least by simp [allDl]]
    clear HI
    cases hq : okDl least with
    | false =>
      have hx := Lib.hid (Hno.out (show slkOk n l least = false by rw [Hok.out, hq]))
      clear hq Hok Hno
      go_wp2
      go_ret
      rw [hx.out]
      exact ⟨rfl, HB2.out⟩
    | true =>
      obtain ⟨l0, l1⟩ := okDl_iff.1 hq
      have hx := Lib.hid (free_is (show slkOk n l least = true by rw [Hok.out, hq]) l2)
      clear hq Hok Hno
      go_wp2_with fail
      refine (lateFrom_any 300 least w2).mono ?_; rintro e w5 ⟨rfl, hgm, hgl, hb5, hz5⟩
      have HG := Lib.hid (And.intro hgm hgl)
      have HB5 := Lib.hid hb5
      have HT5 := Lib.hid (HT2.out.below hb5)
      obtain ⟨gm, hgm9⟩ : ∃ g, w2.heap.size = g := ⟨_, rfl⟩
      obtain ⟨gl, hgl9⟩ : ∃ g, w2.heap.size + 1 = g := ⟨_, rfl⟩
      rw [hgl9]
      rw [hgl9] at HG
      have Hgl := Lib.hid hgl9
      have c0 := HT5.out.first_some (by omega)
      have Hlen := Lib.hid HT5.out.len
      clear hgm hgl hb5 hz5 hgl9
      generalize hg0 : hs.getD 0 0 = g0 at *
      have Hg0 := Lib.hid hg0
      clear hg0
      have Hgm := Lib.hid hgm9
      rw [hgm9]
      clear hgm9
      go_wp2
      go_loopg [10, 11] l.length (fun gk ev hv wr => FrRel l least hs w2 gl gm gk ev hv wr)
      case atStart =>
        refine ⟨0, by omega, ?_, rfl, HG.out.2, by rw [← Hgm.out]; exact HG.out.1, HB5.out⟩
        rw [ptB_some (by rw [Hlen.out]; omega), Hg0.out]
      case round =>
        obtain ⟨k, hkg, rfl, rfl, hWl, hWm, hbel⟩ := hrel
        have HTr := Lib.hid (HT2.out.below hbel)
        by_cases hlt : k < l.length
        · rw [ptB_some (by rw [HTr.out.len]; exact hlt)]
          have c1 := HTr.out.arrive hlt
          have c2 := HTr.out.leave hlt
          have c4 : ∃ pv, wr.cell? ⟨hs.getD k 0, 4, none⟩ = some (.pointer pv) ∧ SlkIs pv (l.getD k rd0).b (l.getD k rd0).m least (slkV l least k) := by
            cases k with
            | zero => exact ⟨none, HTr.out.prev_none (by omega), .inl ⟨rfl, rfl⟩⟩
            | succ j => exact ⟨_, HTr.out.prev_some hlt, .inr ⟨_, rfl, by unfold slkV slackOf; rw [if_neg (by omega)]⟩⟩
          obtain ⟨pv, c4, hsk⟩ := c4
          obtain ⟨_, _, b0, b1, b2, _⟩ := validS_at Hz.out hlt
          obtain ⟨hx1, hx2⟩ := late_step l least 300 [] (by decide) k
          have hah : aheadV [] k = 0 := by cases k with
            | zero => rfl
            | succ j => rfl
          rw [hah] at hx1
          have hpv : 0 ≤ prevV l least 300 [] k ∧ prevV l least 300 [] k ≤ 300 := by
            cases k with
            | zero => show (0 : Int) ≤ 300 ∧ (300 : Int) ≤ 300; omega
            | succ j => exact free_bd l least j
          have hsv : 0 ≤ slkV l least k ∧ slkV l least k ≤ 10000 := by
            refine ⟨slkV_pos _ _ _, ?_⟩
            unfold slkV; split
            · omega
            · unfold slackOf; omega
          have HN := Lib.hid (next_any (hs.getD k 0) gl gm pv (l.getD k rd0).b (l.getD k rd0).m least (prevV l least 300 [] k) 0 (slkV l least k) wr c1 c2 c4 b0 b1 b2 l0 l1 hsk hWl (hWm.cell rfl) hpv.1 (by omega) (by omega) (by omega) hsv.1 hsv.2)
          rw [← hx1, ← hx2] at HN
          have Hc5 := Lib.hid (fun (w8 : World) (h8 : Below w2.heap.size wr w8) => ((HT2.out.below (hbel.trans h8)).halts k hlt).cell (i := 5) (v := ptB hs[k + 1]?) rfl)
          have HWm := Lib.hid hWm
          have HB := Lib.hid hbel
          have hz6 := hbel.size
          obtain ⟨gk', rfl⟩ : ∃ g, gk = g + 1 := ⟨gk - 1, by omega⟩
          have Hkg := Lib.hid hkg
          have Hns := Lib.hid (show prevV l least 300 [] (k + 1) = leaV l least 300 [] k ∧ lastA l least 300 [] (k + 1) = arrV l least 300 [] k from ⟨rfl, rfl⟩)
          clear c1 c2 c4 hsk b0 b1 b2 hx1 hx2 hah hpv hsv hWl hWm hbel hlt hkg
          generalize arrV l least 300 [] k = x at *
          generalize leaV l least 300 [] k = y at *
          generalize lastA l least 300 [] k = la at *
          generalize hs.getD k 0 = hk at *
          go_wp2_with fail
          refine HN.out.mono ?_; rintro e w6 ⟨rfl, ht6, hW6⟩
          have hb6 : Below w2.heap.size wr w6 := ht6.below (fun j hj => by rw [hj]; have := Hgl.out; omega) hz6
          have hm6 := HWm.out.touch ht6 (fun e => by have h1 := Hgl.out; have h2 := Hgm.out; omega)
          have c5 := Hc5.out w6 hb6
          have HF := Lib.hid (And.intro hW6 (And.intro hm6 (HB.out.trans hb6)))
          clear ht6 hW6 hm6 hb6 HN
          go_wp2
          go_roundg gk'
          case measure => omega
          case rel => exact ⟨k + 1, by have := Hkg.out; omega, rfl, by rw [Hns.out.2], by rw [Hns.out.1]; exact HF.out.1, HF.out.2.1, HF.out.2.2⟩
        · obtain rfl : k = l.length := by omega
          have HF := Lib.hid (HB2.out.trans (hbel.mono HB2.out.size))
          have hpn : ptB hs[l.length]? = .pointer none := ptB_none (by rw [HTr.out.len]; exact Nat.le_refl _)
          rw [hpn]
          obtain ⟨m, hm⟩ : ∃ m, l.length = m + 2 := ⟨l.length - 2, by omega⟩
          have hla : lastA l least 300 [] l.length = arrV l least 300 [] (l.length - 1) := by rw [hm]; rfl
          have hbd : 0 ≤ arrV l least 300 [] (l.length - 1) ∧ arrV l least 300 [] (l.length - 1) ≤ 300 := by
            rw [hm, show m + 2 - 1 = m + 1 by omega, arrV_succ]
            have := free_bd l least m
            simp only [List.getD_nil]
            omega
          rw [hla]
          obtain ⟨z0, z1⟩ := hbd
          clear hWl hWm hbel hlt hkg hpn hla hm
          generalize arrV l least 300 [] (l.length - 1) = z at *
          have hw9 : wrap64 (300 - z) = 300 - z := by unfold wrap64; omega
          go_wp2
          go_ret
          rw [hx.out]
          exact ⟨rfl, HF.out⟩

end Go.Proofs.Ytmphpbjmpokjjab
