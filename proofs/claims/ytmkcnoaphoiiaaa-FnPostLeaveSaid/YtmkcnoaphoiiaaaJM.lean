/- PostBack: plainly; the program's and the model's. -/
import Derived.Test.YtmkcnoaphoiiaaaJL
import Derived.Test.YtmkcnoaphoiiaaaSNZ
import Derived.Test.YtmkcnoaphoiiaaaSPZ
import Derived.Test.YtmkcnoaphoiiaaaM1
namespace Go.Proofs.Ytmkcnoaphoiiaaa
open Go.RowKit

def bkTo (n t : Int) (net : List (List Rd)) (k : Nat) : Bool := (net.take k).all fun l => backOk n l t
def bkOk (n : Int) (net : List (List Rd)) (t : Int) : Bool := okNet n net && net.all fun l => backOk n l t
def bkM (t : Int) (net : List (List Rd)) (k : Nat) : List (List Rd) := (net.take k).map fun l => backTo l t 0
def bkX (n : Int) (net : List (List Rd)) (t : Int) : List (List Rd) := if bkOk n net t = true then bkM t net net.length else []

theorem bkTo_succ {n t : Int} {net : List (List Rd)} {k : Nat} (h : k < net.length) : bkTo n t net (k + 1) = (bkTo n t net k && backOk n (coach net k) t) := by
  unfold bkTo
  rw [List.take_succ_eq_append_getElem h, coach_eq h]
  simp only [List.all_append, List.all_cons, List.all_nil, Bool.and_true]
theorem bkM_succ {t : Int} {net : List (List Rd)} {k : Nat} (h : k < net.length) : bkM t net (k + 1) = bkM t net k ++ [backTo (coach net k) t 0] := by
  unfold bkM
  rw [List.take_succ_eq_append_getElem h, coach_eq h]
  simp only [List.map_append, List.map_cons, List.map_nil]
theorem bkM_len {t : Int} {net : List (List Rd)} {k : Nat} (h : k ≤ net.length) : (bkM t net k).length = k := by simp [bkM]; omega
theorem bkM_at {t : Int} {net : List (List Rd)} {k i : Nat} (hi : i < k) (h : k ≤ net.length) : coach (bkM t net k) i = backTo (coach net i) t 0 := by
  have : i < net.length := by omega
  simp [coach, bkM, List.getD, hi, this]
theorem bk_no {n t : Int} {net : List (List Rd)} {k : Nat} (h : k < net.length) (hb : backOk n (coach net k) t = false) : bkOk n net t = false := by
  rw [Bool.eq_false_iff]; intro h'
  unfold bkOk at h'
  rw [Bool.and_eq_true, List.all_eq_true] at h'
  have := h'.2 (coach net k) (by rw [coach_eq h]; exact List.getElem_mem h)
  rw [hb] at this; cases this
theorem bk_yes {n t : Int} {net : List (List Rd)} (h : okNet n net = true) (hb : bkTo n t net net.length = true) : bkOk n net t = true := by
  unfold bkTo at hb
  rw [List.take_length] at hb
  unfold bkOk
  rw [h, hb]; rfl
theorem bkX_no {n t : Int} {net : List (List Rd)} (h : bkOk n net t = false) : bkX n net t = [] := by unfold bkX; rw [h]; rfl
theorem bkX_yes {n t : Int} {net : List (List Rd)} (h : bkOk n net t = true) : bkX n net t = bkM t net net.length := by unfold bkX; rw [h]; rfl
theorem backL_yes {n t : Int} {l : List Rd} (h : backOk n l t = true) : backL n l t = backTo l t 0 := by unfold backL; rw [h]; rfl
theorem totTo_eq {a b : List (List Rd)} : ∀ {k : Nat}, (∀ i, i < k → (coach a i).length = (coach b i).length) → totTo a k = totTo b k
  | 0, _ => rfl
  | k + 1, h => by
    show totTo a k + (coach a k).length = totTo b k + (coach b k).length
    rw [totTo_eq fun i hi => h i (by omega), h k (by omega)]
theorem bkX_tot {n t : Int} {net : List (List Rd)} (h : totN net ≤ 1048576) : totN (bkX n net t) ≤ 1048576 := by
  cases hb : bkOk n net t with
  | false => rw [bkX_no hb]; decide
  | true =>
    rw [bkX_yes hb]
    unfold totN at h ⊢
    rw [bkM_len (Nat.le_refl _), totTo_eq (b := net) fun i hi => by rw [bkM_at hi (Nat.le_refl _), backTo_len]; omega]
    exact h

def BkRel (n t : Int) (net : List (List Rd)) (w : World) (v iv : Value) (wr : World) : Prop :=
  ∃ k g cap : Nat, k ≤ net.length ∧ iv = .int .i64 k ∧ v = .slice (some ⟨g, 0, none⟩) k cap ∧ bkTo n t net k = true ∧ GrowN wr w.heap.size g cap (bkM t net k) ∧ Below w.heap.size w wr

theorem slInfo1 : (Try.prog.info? 57).map (fun i => (i.zero, i.size, i.bytes)) = some (some (.slice none 0 0), 1, 24) := by kernel_rfl

set_option maxRecDepth 100000 in
set_option maxHeartbeats 2000000 in
theorem postBack2_any (n : Int) (v : Value) (net : List (List Rd)) (t : Int) (w : World) (hv : NtIn w v net) (hm : totN net ≤ 1048576) (wt : W64 t) :
    Calls Try.prog 45 #[.int .i64 n, v, .int .i64 t] w (NtOut (bkX n net t) (bkOk n net t) w) := by
  have HN := Lib.hid (netValid2_any n v net w hv (Nat.le_succ_of_le hm))
  obtain ⟨a, cap, rfl, hcap, ha⟩ := hv
  clear hcap
  have hl1 : net.length ≤ 1048576 := by unfold totN at hm; omega
  have Hm := Lib.hid hm; clear hm
  have Ha := Lib.hid ha; clear ha
  obtain ⟨i0, hi0, hz0, hz1, hz2⟩ := info_parts slInfo1
  cases hz : okNet n net with
  | false =>
    have Hb := Lib.hid (show bkOk n net t = false by unfold bkOk; rw [hz]; rfl)
    have Hz := Lib.hid hz; clear hz
    go_enter Try.func45, Try.ntmps45
    go_wp2_with fail
    refine HN.out.mono ?_; rintro e w1 ⟨rfl, hb1⟩
    rw [Hz.out]
    have HB1 := Lib.hid hb1; clear hb1
    go_wp2
    go_ret2
    rw [bkX_no Hb.out, Hb.out]
    exact NtOut.no HB1.out.size (by simp) (HB1.out.alloc HB1.out.size _)
  | true =>
    have hn6 := (okNet_iff.1 hz).1.2.2
    have Hz := Lib.hid hz; clear hz
    go_enter Try.func45, Try.ntmps45
    go_wp2_with fail
    refine HN.out.mono ?_; rintro e w1 ⟨rfl, hb1⟩
    rw [Hz.out]
    have HB1 := Lib.hid hb1; clear hb1
    have HG := Lib.hid (GrowN.made w1 w.heap.size HB1.out.size)
    have HB2 := Lib.hid (HB1.out.alloc HB1.out.size (.cells #[] 57))
    clear HN
    go_wp2
    go_loopw [8, 21] (fun v iv wr => BkRel n t net w v iv wr) (fun _ iv _ => net.length - (intOf iv).toNat)
    case atStart => exact ⟨0, _, 0, Nat.zero_le _, rfl, rfl, rfl, HG.out, HB2.out⟩
    case round =>
      obtain ⟨k, g, cap2, hk, rfl, rfl, hok, hgr, hbel⟩ := hrel
      have Hok := Lib.hid hok; clear hok
      have HGr := Lib.hid hgr; clear hgr
      by_cases hlt : k < net.length
      · obtain ⟨b, o, rfl, hb, hrw⟩ := Ha.out (by intro h; simp [h] at hlt)
        obtain ⟨u, c0, hu⟩ := hrw k hlt
        have d0 : wr.cell? ⟨b, o + k, none⟩ = some u := by rw [hbel.cell (p := ⟨b, o + k, none⟩) hb]; exact c0
        have hln : (coach net k).length ≤ 1048576 := by have := totTo_at net hlt; have := Hm.out; unfold totN at this; omega
        have Hc := Lib.hid (back2z_any n u (coach net k) t wr (hu.below hbel).roads hln wt)
        have HB := Lib.hid hbel
        have hsz := hbel.size
        clear hrw c0 hu hbel
        cases hq : backOk n (coach net k) t with
        | false =>
          have Hb := Lib.hid (bk_no hlt hq)
          rw [hq] at Hc
          clear hq
          go_wp2_with fail
          refine Hc.out.mono ?_; rintro e w2 ⟨ad, cp, rfl, _, _, _, hb2⟩
          have HB2 := Lib.hid (HB.out.trans (hb2.mono hsz))
          clear Hc d0 hb2
          go_wp2
          go_ret2
          rw [bkX_no Hb.out, Hb.out]
          exact NtOut.no HB2.out.size (by simp) (HB2.out.alloc HB2.out.size _)
        | true =>
          have Hok2 := Lib.hid (show bkTo n t net (k + 1) = true by rw [bkTo_succ hlt, Hok.out, hq]; rfl)
          have Hm2 := Lib.hid (bkM_succ (t := t) hlt)
          have Hml := Lib.hid (bkM_len (t := t) hk)
          rw [hq, backL_yes hq] at Hc
          clear hq
          generalize backTo (coach net k) t 0 = nl at *
          go_wp2_with fail
          refine Hc.out.mono ?_; rintro e w2 ⟨ad, cp, rfl, hcp, ho, hblk, hb2⟩
          obtain ⟨gB, gS, gC⟩ := HGr.out.own
          obtain ⟨ads, cps, hown, h2, h3⟩ := HGr.out
          rw [Hml.out] at hown
          have hown2 := own_keep hown hb2
          have hsz2 := hb2.size
          have HP := Lib.hid (fun (w8 : World) (g2 cap2 : Nat) => GrowN.push (w8 := w8) (g2 := g2) (cap2 := cap2) (A := .cells #[.slice ad nl.length cp] 57) ⟨gB, gS⟩ h2 h3 hb2 ho hcp hblk)
          rw [Hml.out] at HP
          have HB2 := Lib.hid (HB.out.trans (hb2.mono hsz))
          have hk6 : k < 6 := by omega
          clear hown h2 h3 ho hcp hblk hb2 d0 Hc
          generalize encN ads cps (bkM t net k) = en at *
          go_wp2_with (at_builtin; refine wpList_append_lies _ rfl _ _ 25 rfl w.heap.size 57 i0 _ 1 24 Try.underlying25 hi0 hz0 hz1 hz2 rfl (by decide) _ k en rfl (World.ownsRow.alloc hown2 _) ⟨w2.heap.size, 0, none⟩ 1 1 [.slice ad nl.length cp] rfl rfl (one_news w2 _ _) (by simp [Value.oneCell']) (by decide) (by simp only [maxLen]; omega) (by omega) (by simp; omega) _ rfl ?_; intro g2 cp2 w8 hown8 hgrow8 hlie8 _; have hP8 := HP.out _ _ _ hown8 hgrow8 hlie8; have hB8 := HB2.out.trans (push_below (by omega) gB hgrow8); clear hown8 hgrow8 hlie8 hown2)
          rw [← Hm2.out] at hP8
          exact ⟨⟨k + 1, g2, cp2, hlt, by go_num, rfl, Hok2.out, hP8, hB8⟩, by simp [intOf]; omega⟩
      · obtain rfl : k = net.length := by omega
        have Hb := Lib.hid (bk_yes Hz.out Hok.out)
        have HB := Lib.hid hbel; clear hbel
        have Hml := Lib.hid (bkM_len (t := t) hk)
        go_wp2
        go_ret2
        rw [bkX_yes Hb.out, Hb.out]
        obtain ⟨ads, cps, hN⟩ := HGr.out.done
        exact ⟨g, cap2, ads, cps, by rw [Hml.out]; rfl, HGr.out.own.2.2, hN, HB.out⟩

set_option maxRecDepth 100000 in
set_option maxHeartbeats 2000000 in
theorem postBack1_any (n : Int) (v : Value) (net : List (List Rd)) (t : Int) (w : World) (hv : NtIn w v net) (hm : totN net ≤ 1048576) (wt : W64 t) :
    Calls Try.prog 44 #[.int .i64 n, v, .int .i64 t] w (NtOut (bkX n net t) (bkOk n net t) w) := by
  have HN := Lib.hid (fun (W : World) (h : Below w.heap.size w W) => netValid1_any n v net W (hv.below h) (Nat.le_succ_of_le hm))
  obtain ⟨a, cap, rfl, hcap, ha⟩ := hv
  clear hcap
  have hl1 : net.length ≤ 1048576 := by unfold totN at hm; omega
  have Hm := Lib.hid hm; clear hm
  have Ha := Lib.hid ha; clear ha
  obtain ⟨i0, hi0, hz0, hz1, hz2⟩ := info_parts slInfo1
  have HG := Lib.hid (GrowN.made w w.heap.size (Nat.le_refl _))
  have HB2 := Lib.hid ((Below.refl w.heap.size w).alloc (Nat.le_refl _) (.cells #[] 57))
  cases hz : okNet n net with
  | false =>
    have Hb := Lib.hid (show bkOk n net t = false by unfold bkOk; rw [hz]; rfl)
    rw [hz] at HN
    have Hz := Lib.hid hz; clear hz
    by_cases h0 : net.length = 0
    · have h0' : ¬ ((0 : Int) < (net.length : Int)) := by omega
      have H0 := Lib.hid h0; clear h0
      go_enter Try.func44, Try.ntmps44
      go_wp2
      go_loopw [8, 9] (fun v iv wr => v = .slice (some ⟨w.heap.size, 0, none⟩) 0 0 ∧ iv = .int .i64 0 ∧ wr = w.alloc (.cells #[] 57)) (fun _ _ _ => 0)
      case atStart => exact ⟨rfl, rfl, rfl⟩
      case round =>
        obtain ⟨rfl, rfl, rfl⟩ := hrel
        go_wp2_with fail
        refine (HN.out _ HB2.out).mono ?_; rintro e w1 ⟨rfl, hb1⟩
        have HB3 := Lib.hid (HB2.out.trans (hb1.mono HB2.out.size))
        have hz9 := hb1.size
        clear hb1
        go_wp2
        go_ret2
        rw [bkX_no Hb.out, Hb.out]
        exact NtOut.no (Nat.le_refl _) (by simp at hz9; omega) HB3.out
    · have h0' : (0 : Int) < (net.length : Int) := by omega
      clear h0
      go_enter Try.func44, Try.ntmps44
      go_wp2
      go_loopw [8, 9] (fun v iv wr => v = .slice (some ⟨w.heap.size, 0, none⟩) 0 0 ∧ iv = .int .i64 0 ∧ wr = w.alloc (.cells #[] 57)) (fun _ _ _ => 0)
      case atStart => exact ⟨rfl, rfl, rfl⟩
      case round =>
        obtain ⟨rfl, rfl, rfl⟩ := hrel
        go_wp2_with fail
        refine (HN.out _ HB2.out).mono ?_; rintro e w1 ⟨rfl, hb1⟩
        have HB3 := Lib.hid (HB2.out.trans (hb1.mono HB2.out.size))
        have hz9 := hb1.size
        clear hb1
        go_wp2_with fail
        refine (HN.out _ HB3.out).mono ?_; rintro e w2 ⟨rfl, hb2⟩
        have HB4 := Lib.hid (HB3.out.trans (hb2.mono HB3.out.size))
        have hz8 := hb2.size
        clear hb2
        go_wp2
        go_ret2
        rw [bkX_no Hb.out, Hb.out]
        exact NtOut.no (Nat.le_refl _) (by simp at hz9; omega) HB4.out
  | true =>
    have hn6 := (okNet_iff.1 hz).1.2.2
    rw [hz] at HN
    have Hz := Lib.hid hz; clear hz
    go_enter Try.func44, Try.ntmps44
    go_wp2
    go_loopw [8, 9] (fun v iv wr => BkRel n t net w v iv wr) (fun _ iv _ => net.length - (intOf iv).toNat)
    case atStart => exact ⟨0, _, 0, Nat.zero_le _, rfl, rfl, rfl, HG.out, HB2.out⟩
    case round =>
      obtain ⟨k, g, cap2, hk, rfl, rfl, hok, hgr, hbel⟩ := hrel
      have Hok := Lib.hid hok; clear hok
      have HGr := Lib.hid hgr; clear hgr
      by_cases hlt : k < net.length
      · obtain ⟨b, o, rfl, hb, hrw⟩ := Ha.out (by intro h; simp [h] at hlt)
        obtain ⟨u, c0, hu⟩ := hrw k hlt
        have hln : (coach net k).length ≤ 1048576 := by have := totTo_at net hlt; have := Hm.out; unfold totN at this; omega
        go_wp2_with fail
        refine (HN.out _ hbel).mono ?_; rintro e w1 ⟨rfl, hb1⟩
        have hbel1 := hbel.trans (hb1.mono hbel.size)
        have HGr1 := Lib.hid (HGr.out.below hb1)
        have d0 : w1.cell? ⟨b, o + k, none⟩ = some u := by rw [hbel1.cell (p := ⟨b, o + k, none⟩) hb]; exact c0
        have Hc := Lib.hid (back1z_any n u (coach net k) t w1 (hu.below hbel1).roads hln wt)
        have HB := Lib.hid hbel1
        have hsz := hbel1.size
        clear hrw c0 hu hbel hb1 hbel1 HGr
        cases hq : backOk n (coach net k) t with
        | false =>
          have Hb := Lib.hid (bk_no hlt hq)
          rw [hq] at Hc
          clear hq
          go_wp2_with fail
          refine Hc.out.mono ?_; rintro e w2 ⟨ad, cp, rfl, _, _, _, hb2⟩
          have HB2 := Lib.hid (HB.out.trans (hb2.mono hsz))
          clear Hc d0 hb2
          go_wp2
          go_ret2
          rw [bkX_no Hb.out, Hb.out]
          exact NtOut.no HB2.out.size (by simp) (HB2.out.alloc HB2.out.size _)
        | true =>
          have Hok2 := Lib.hid (show bkTo n t net (k + 1) = true by rw [bkTo_succ hlt, Hok.out, hq]; rfl)
          have Hm2 := Lib.hid (bkM_succ (t := t) hlt)
          have Hml := Lib.hid (bkM_len (t := t) hk)
          rw [hq, backL_yes hq] at Hc
          clear hq
          generalize backTo (coach net k) t 0 = nl at *
          go_wp2_with fail
          refine Hc.out.mono ?_; rintro e w2 ⟨ad, cp, rfl, hcp, ho, hblk, hb2⟩
          obtain ⟨gB, gS, gC⟩ := HGr1.out.own
          obtain ⟨ads, cps, hown, h2, h3⟩ := HGr1.out
          rw [Hml.out] at hown
          have hown2 := own_keep hown hb2
          have hsz2 := hb2.size
          have HP := Lib.hid (fun (w8 : World) (g2 cap2 : Nat) => GrowN.push (w8 := w8) (g2 := g2) (cap2 := cap2) (A := .cells #[.slice ad nl.length cp] 57) ⟨gB, gS⟩ h2 h3 hb2 ho hcp hblk)
          rw [Hml.out] at HP
          have HB2 := Lib.hid (HB.out.trans (hb2.mono hsz))
          have hk6 : k < 6 := by omega
          clear hown h2 h3 ho hcp hblk hb2 d0 Hc
          generalize encN ads cps (bkM t net k) = en at *
          go_wp2_with (at_builtin; refine wpList_append_lies _ rfl _ _ 25 rfl w.heap.size 57 i0 _ 1 24 Try.underlying25 hi0 hz0 hz1 hz2 rfl (by decide) _ k en rfl (World.ownsRow.alloc hown2 _) ⟨w2.heap.size, 0, none⟩ 1 1 [.slice ad nl.length cp] rfl rfl (one_news w2 _ _) (by simp [Value.oneCell']) (by decide) (by simp only [maxLen]; omega) (by omega) (by simp; omega) _ rfl ?_; intro g2 cp2 w8 hown8 hgrow8 hlie8 _; have hP8 := HP.out _ _ _ hown8 hgrow8 hlie8; have hB8 := HB2.out.trans (push_below (by omega) gB hgrow8); clear hown8 hgrow8 hlie8 hown2)
          rw [← Hm2.out] at hP8
          exact ⟨⟨k + 1, g2, cp2, hlt, by go_num, rfl, Hok2.out, hP8, hB8⟩, by simp [intOf]; omega⟩
      · obtain rfl : k = net.length := by omega
        have Hb := Lib.hid (bk_yes Hz.out Hok.out)
        have Hml := Lib.hid (bkM_len (t := t) hk)
        go_wp2_with fail
        refine (HN.out _ hbel).mono ?_; rintro e w1 ⟨rfl, hb1⟩
        have HB := Lib.hid (hbel.trans (hb1.mono hbel.size))
        have HGr1 := Lib.hid (HGr.out.below hb1)
        clear hb1 hbel
        go_wp2
        go_ret2
        rw [bkX_yes Hb.out, Hb.out]
        obtain ⟨ads, cps, hN⟩ := HGr1.out.done
        exact ⟨g, cap2, ads, cps, by rw [Hml.out]; rfl, HGr1.out.own.2.2, hN, HB.out⟩

end Go.Proofs.Ytmkcnoaphoiiaaa
