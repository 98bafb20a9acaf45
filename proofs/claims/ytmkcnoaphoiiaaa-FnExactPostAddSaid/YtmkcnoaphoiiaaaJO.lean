/- PostAdd: plainly; the program's (with slices.Clone) and the model's. -/
import Derived.Test.YtmkcnoaphoiiaaaJL
import Derived.Test.YtmkcnoaphoiiaaaM1
import Derived.Lib.SliceRun
namespace Go.Proofs.Ytmkcnoaphoiiaaa
open Go.RowKit

def adOk (n : Int) (net : List (List Rd)) (l : List Rd) : Bool := okNet n (net ++ [l])
def adX (n : Int) (net : List (List Rd)) (l : List Rd) : List (List Rd) := if adOk n net l = true then net ++ [l] else []
theorem adX_no {n : Int} {net : List (List Rd)} {l : List Rd} (h : adOk n net l = false) : adX n net l = [] := by unfold adX; rw [h]; rfl
theorem adX_yes {n : Int} {net : List (List Rd)} {l : List Rd} (h : adOk n net l = true) : adX n net l = net ++ [l] := by unfold adX; rw [h]; rfl
theorem totTo_small {net : List (List Rd)} (h : ∀ i, i < net.length → (coach net i).length ≤ 8) : ∀ {k : Nat}, k ≤ net.length → totTo net k ≤ 8 * k
  | 0, _ => Nat.le_refl _
  | k + 1, hk => by
    have := totTo_small h (k := k) (by omega)
    have := h k (by omega)
    show totTo net k + (coach net k).length ≤ _
    omega
theorem adX_tot {n : Int} {net : List (List Rd)} {l : List Rd} : totN (adX n net l) ≤ 1048576 := by
  cases h : adOk n net l with
  | false => rw [adX_no h]; decide
  | true =>
    rw [adX_yes h]
    obtain ⟨h1, h2⟩ := okNet_iff.1 h
    have := totTo_small (net := net ++ [l]) (fun i hi => (validS_iff.1 (h2 i hi)).1.2.2.2) (Nat.le_refl _)
    unfold totN
    omega
theorem totTo_add (net : List (List Rd)) (l : List Rd) : ∀ {k : Nat}, k ≤ net.length → totTo (net ++ [l]) k = totTo net k
  | 0, _ => rfl
  | k + 1, h => by
    show totTo (net ++ [l]) k + (coach (net ++ [l]) k).length = totTo net k + (coach net k).length
    rw [totTo_add net l (by omega), coach_snoc_lt net l (by omega)]
theorem totN_add (net : List (List Rd)) (l : List Rd) : totN (net ++ [l]) = totN net + 1 + l.length := by
  have e : totTo (net ++ [l]) (net.length + 1) = totTo (net ++ [l]) net.length + (coach (net ++ [l]) net.length).length := rfl
  unfold totN
  rw [List.length_append, List.length_singleton, e, totTo_add net l (Nat.le_refl _), coach_snoc_eq net l rfl]
  omega

/-- A row of its own, new. -/
def CpTOut (l : List Tz) (w : World) (e : Ending) (w' : World) : Prop :=
  ∃ ad cp, e = .returned (.slice ad l.length cp) ∧ l.length ≤ cp ∧ OwnTz w' ad l ∧ (∀ p, inBlk ad p → w.heap.size ≤ p ∧ p < w'.heap.size) ∧ Below w.heap.size w w'

theorem OwnTz.news {w : World} {ad : Addr} {l : List Tz} (h : OwnTz w (some ad) l) : ∀ j u, (encTz l)[j]? = some u → w.cell? (ad.add j) = some u := by
  intro j u hj
  have hne : l ≠ [] := by rintro rfl; simp [encTz] at hj
  obtain ⟨b, e, _, hat, _⟩ := h hne
  injection e with e
  subst e
  have := hat.news (f := 0) (n := l.length) (by omega) j u (by simpa using hj)
  simpa using this

theorem infoStop : (Try.prog.info? 77).map (fun i => (i.zero, i.size, i.bytes)) = some (some (.agg #[.int .i64 0, .int .i64 0, .int .i64 0]), 3, 24) := by kernel_rfl

set_option maxHeartbeats 400000 in
theorem cloneT_any (ad : Addr) (cap : Nat) (l : List Tz) (w : World) (h : OwnTz w (some ad) l) (hl : l.length ≤ 1048576) :
    Calls Try.prog 85 #[.slice (some ad) l.length cap] w (CpTOut l w) := by
  obtain ⟨i0, hi0, hz0, hz1, hz2⟩ := info_parts infoStop
  have hb1 : Below w.heap.size w (w.alloc (.cells #[] 77)) := (Below.refl _ _).alloc (Nat.le_refl _) _
  have hnews := (h.below hb1).news
  have hown := RowTz.made w w.heap.size (Nat.le_refl _)
  unfold RowTz at hown
  clear h
  have hq := fun (w : World) (a : Option Addr) (n c : Nat) => Lib.run_eql_slice_nil (P := Try.prog) w 57 77 a n c 0 0 Try.underlying57
  go_enter Try.func85, Try.ntmps85
  go_wp2_with (at_builtin; refine wpList_append_own _ rfl _ _ 57 rfl w.heap.size 77 i0 _ 3 24 Try.underlying57 hi0 hz0 hz1 hz2 rfl (by omega) _ _ [] rfl hown ad l.length cap (encTz l) rfl (encTz_len l) hnews (encTz_one l) (by unfold maxLen; simp; omega) (by simp; omega) (by simp) ?_; intro v' w1 hown1 hgrow _)
  have hrow : RowTz w1 w.heap.size v' l := by unfold RowTz; simpa using hown1
  have hbel : Below w.heap.size w w1 := hb1.grown hgrow (by simp) (fun j hj => (hown.lt j hj).1)
  have Hrow := Lib.hid hrow
  clear hrow hown1 hgrow hown hnews
  go_wp2
  go_ret
  obtain ⟨ad2, cp2, rfl, hc, ho, hin⟩ := Hrow.out.row
  exact ⟨ad2, cp2, rfl, hc, ho, hin, hbel⟩

def AdRel7 (net : List (List Rd)) (w : World) (v iv : Value) (wr : World) : Prop :=
  ∃ k g cap : Nat, k ≤ net.length ∧ iv = .int .i64 k ∧ v = .slice (some ⟨g, 0, none⟩) k cap ∧ GrowN wr w.heap.size g cap (net.take k) ∧ Below w.heap.size w wr

theorem slInfo2 : (Try.prog.info? 57).map (fun i => (i.zero, i.size, i.bytes)) = some (some (.slice none 0 0), 1, 24) := by kernel_rfl
theorem take_succC {net : List (List Rd)} {k : Nat} (h : k < net.length) : net.take (k + 1) = net.take k ++ [coach net k] := by
  rw [List.take_succ_eq_append_getElem h, coach_eq h]

set_option maxRecDepth 100000 in
set_option maxHeartbeats 2000000 in
theorem postAdd2_any (n : Int) (A B b cap : Nat) (ads : Nat → Option Addr) (cps : Nat → Nat) (net : List (List Rd)) (b2 cap2 : Nat) (l : List Rd) (w : World) (h : NtOwn w A B b ads cps net) (hs : ∀ i, i < net.length → ∃ ad, ads i = some ad) (h2 : OwnTz w (some ⟨b2, 0, none⟩) l) (hm : totN net + l.length ≤ 1048576) :
    Calls Try.prog 52 #[.int .i64 n, .slice (some ⟨b, 0, none⟩) net.length cap, .slice (some ⟨b2, 0, none⟩) l.length cap2] w (NtOut (adX n net l) (adOk n net l) w) := by
  have hl1 : net.length ≤ 1048576 := by unfold totN at hm; omega
  have Hm := Lib.hid hm
  have hl2 : l.length ≤ 1048576 := by omega
  have H := Lib.hid h
  have Hs := Lib.hid hs
  have H2 := Lib.hid h2
  clear hm h hs h2
  obtain ⟨i0, hi0, hz0, hz1, hz2⟩ := info_parts slInfo2
  have HG := Lib.hid (GrowN.made w w.heap.size (Nat.le_refl _))
  have HB0 := Lib.hid ((Below.refl w.heap.size w).alloc (Nat.le_refl _) (.cells #[] 57))
  go_enter Try.func52, Try.ntmps52
  go_wp2
  go_loopw [8, 14] (fun v iv wr => AdRel7 net w v iv wr) (fun _ iv _ => net.length - (intOf iv).toNat)
  case atStart => exact ⟨0, _, 0, Nat.zero_le _, rfl, rfl, HG.out, HB0.out⟩
  case round =>
    obtain ⟨k, g, cap3, hk, rfl, rfl, hgr, hbel⟩ := hrel
    have HGr := Lib.hid hgr; clear hgr
    by_cases hlt : k < net.length
    · obtain ⟨ad, had⟩ := Hs.out k hlt
      have d0 := (H.out.below hbel).row k hlt
      have ho := (H.out.below hbel).own k hlt
      rw [had] at d0 ho
      have hln : (coach net k).length ≤ 1048576 := by have := totTo_at net hlt; have := Hm.out; unfold totN at this; omega
      have Hc := Lib.hid (cloneT_any ad (cps k) (coach net k) wr ho hln)
      have HB := Lib.hid hbel
      have hsz := hbel.size
      have Hm2 := Lib.hid (take_succC hlt)
      have Hml := Lib.hid (show (net.take k).length = k by simp; omega)
      clear ho had hbel
      generalize coach net k = nl at *
      go_wp2_with fail
      refine Hc.out.mono ?_; rintro e w2 ⟨ad2, cp, rfl, hcp, ho, hblk, hb2⟩
      obtain ⟨gB, gS, gC⟩ := HGr.out.own
      obtain ⟨ads3, cps3, hown, h2, h3⟩ := HGr.out
      rw [Hml.out] at hown
      have hown2 := own_keep hown hb2
      have hsz2 := hb2.size
      have HP := Lib.hid (fun (w8 : World) (g2 cap2 : Nat) => GrowN.push (w8 := w8) (g2 := g2) (cap2 := cap2) (A := .cells #[.slice ad2 nl.length cp] 57) ⟨gB, gS⟩ h2 h3 hb2 ho hcp hblk)
      rw [Hml.out] at HP
      have HB2 := Lib.hid (HB.out.trans (hb2.mono hsz))
      clear hown h2 h3 ho hcp hblk hb2 d0 Hc
      generalize encN ads3 cps3 (net.take k) = en at *
      go_wp2_with (at_builtin; refine wpList_append_lies _ rfl _ _ 25 rfl w.heap.size 57 i0 _ 1 24 Try.underlying25 hi0 hz0 hz1 hz2 rfl (by decide) _ k en rfl (World.ownsRow.alloc hown2 _) ⟨w2.heap.size, 0, none⟩ 1 1 [.slice ad2 nl.length cp] rfl rfl (one_news w2 _ _) (by simp [Value.oneCell']) (by decide) (by simp only [maxLen]; omega) (by omega) (by simp; omega) _ rfl ?_; intro g2 cp2 w8 hown8 hgrow8 hlie8 _; have hP8 := HP.out _ _ _ hown8 hgrow8 hlie8; have hB8 := HB2.out.trans (push_below (by omega) gB hgrow8); clear hown8 hgrow8 hlie8 hown2)
      rw [← Hm2.out] at hP8
      exact ⟨⟨k + 1, g2, cp2, hlt, by go_num, rfl, hP8, hB8⟩, by simp [intOf]; omega⟩
    · obtain rfl : k = net.length := by omega
      have ho := H2.out.below hbel
      have Hc := Lib.hid (cloneT_any ⟨b2, 0, none⟩ cap2 l wr ho hl2)
      have HB := Lib.hid hbel
      have hsz := hbel.size
      rw [List.take_length] at HGr
      clear ho hbel hk hlt
      go_wp2_with fail
      refine Hc.out.mono ?_; rintro e w2 ⟨ad2, cp, rfl, hcp, ho, hblk, hb2⟩
      obtain ⟨gB, gS, gC⟩ := HGr.out.own
      obtain ⟨ads3, cps3, hown, h2, h3⟩ := HGr.out
      have hown2 := own_keep hown hb2
      have hsz2 := hb2.size
      have HP := Lib.hid (fun (w8 : World) (g2 cap2 : Nat) => GrowN.push (w8 := w8) (g2 := g2) (cap2 := cap2) (A := .cells #[.slice ad2 l.length cp] 57) ⟨gB, gS⟩ h2 h3 hb2 ho hcp hblk)
      have HB2 := Lib.hid (HB.out.trans (hb2.mono hsz))
      clear hown h2 h3 ho hcp hblk hb2 Hc
      generalize encN ads3 cps3 net = en at *
      have Ht := Lib.hid (totN_add net l)
      have Hok := Lib.hid (show adOk n net l = okNet n (net ++ [l]) from rfl)
      have Hnl := Lib.hid (show (net ++ [l]).length = net.length + 1 by simp)
      go_wp2_with (at_builtin; refine wpList_append_lies _ rfl _ _ 25 rfl w.heap.size 57 i0 _ 1 24 Try.underlying25 hi0 hz0 hz1 hz2 rfl (by decide) _ net.length en rfl (World.ownsRow.alloc hown2 _) ⟨w2.heap.size, 0, none⟩ 1 1 [.slice ad2 l.length cp] rfl rfl (one_news w2 _ _) (by simp [Value.oneCell']) (by decide) (by simp only [maxLen]; omega) (by omega) (by simp; omega) _ rfl ?_; intro g2 cp2 w8 hown8 hgrow8 hlie8 _; have hP8 := HP.out _ _ _ hown8 hgrow8 hlie8; have HP8 := Lib.hid hP8; have HB8 := Lib.hid (HB2.out.trans (push_below (by omega) gB hgrow8)); clear hown8 hgrow8 hlie8 hown2 hP8)
      obtain ⟨ads8, cps8, hN⟩ := HP8.out.done
      have hN2 := hN.ins HP8.out.own.2.2
      rw [Hnl.out] at hN2
      refine (netValid2_any n _ (net ++ [l]) _ hN2 (by rw [Ht.out]; have := Hm.out; omega)).mono ?_; rintro e w9 ⟨rfl, hb9⟩
      rw [← Hok.out]
      have HB9 := Lib.hid (HB8.out.trans (hb9.mono HB8.out.size))
      have HP9 := Lib.hid (HP8.out.below hb9)
      clear hN hN2 hb9
      cases hq : adOk n net l with
      | false =>
        have Hb := Lib.hid hq; clear hq Hok
        go_wp2
        go_ret2
        rw [adX_no Hb.out, Hb.out]
        exact NtOut.no HB9.out.size (by simp) (HB9.out.alloc HB9.out.size _)
      | true =>
        have Hb := Lib.hid hq; clear hq Hok
        go_wp2
        go_ret2
        rw [adX_yes Hb.out, Hb.out]
        obtain ⟨ads9, cps9, hN9⟩ := HP9.out.done
        exact ⟨g2, cp2, ads9, cps9, by rw [Hnl.out]; rfl, HP9.out.own.2.2, hN9, HB9.out⟩

set_option maxRecDepth 100000 in
set_option maxHeartbeats 2000000 in
theorem postAdd1_any (n : Int) (A B b cap : Nat) (ads : Nat → Option Addr) (cps : Nat → Nat) (net : List (List Rd)) (b2 cap2 : Nat) (l : List Rd) (w : World) (h : NtOwn w A B b ads cps net) (hs : ∀ i, i < net.length → ∃ ad, ads i = some ad) (h2 : OwnTz w (some ⟨b2, 0, none⟩) l) (hm : totN net + l.length ≤ 1048576) :
    Calls Try.prog 50 #[.int .i64 n, .slice (some ⟨b, 0, none⟩) net.length cap, .slice (some ⟨b2, 0, none⟩) l.length cap2] w (NtOut (adX n net l) (adOk n net l) w) := by
  have hl1 : net.length ≤ 1048576 := by unfold totN at hm; omega
  have Hm := Lib.hid hm
  have hl2 : l.length ≤ 1048576 := by omega
  have H := Lib.hid h
  have Hs := Lib.hid hs
  have H2 := Lib.hid h2
  clear hm h hs h2
  obtain ⟨i0, hi0, hz0, hz1, hz2⟩ := info_parts slInfo2
  obtain ⟨j0, hj0, hy0, hy1, hy2⟩ := info_parts infoStop
  have HG := Lib.hid (GrowN.made w w.heap.size (Nat.le_refl _))
  have HB0 := Lib.hid ((Below.refl w.heap.size w).alloc (Nat.le_refl _) (.cells #[] 57))
  go_enter Try.func50, Try.ntmps50
  go_wp2
  go_loopw [8, 9] (fun v iv wr => AdRel7 net w v iv wr) (fun _ iv _ => net.length - (intOf iv).toNat)
  case atStart => exact ⟨0, _, 0, Nat.zero_le _, rfl, rfl, HG.out, HB0.out⟩
  case round =>
    obtain ⟨k, g, cap3, hk, rfl, rfl, hgr, hbel⟩ := hrel
    have HGr := Lib.hid hgr; clear hgr
    by_cases hlt : k < net.length
    · obtain ⟨ad, had⟩ := Hs.out k hlt
      have hb1 : Below wr.heap.size wr (wr.alloc (.cells #[] 77)) := (Below.refl _ _).alloc (Nat.le_refl _) _
      have d0 := ((H.out.below hbel).below hb1).row k hlt
      have d00 := (H.out.below hbel).row k hlt
      have ho := ((H.out.below hbel).below hb1).own k hlt
      rw [had] at d0 d00 ho
      have hnews := ho.news
      have hown0 := RowTz.made wr wr.heap.size (Nat.le_refl _)
      unfold RowTz at hown0
      have hln : (coach net k).length ≤ 1048576 := by have := totTo_at net hlt; have := Hm.out; unfold totN at this; omega
      have HB := Lib.hid hbel
      have hsz := hbel.size
      have Hm2 := Lib.hid (take_succC hlt)
      have Hml := Lib.hid (show (net.take k).length = k by simp; omega)
      obtain ⟨gB, gS, gC⟩ := HGr.out.own
      obtain ⟨ads3, cps3, hown, h2, h3⟩ := HGr.out
      rw [Hml.out] at hown
      have H23 := Lib.hid (And.intro h2 h3)
      have Hb1 := Lib.hid hb1
      clear ho had hbel hb1 h2 h3
      generalize coach net k = nl at *
      obtain ⟨en, hen⟩ : ∃ en, en = encN ads3 cps3 (net.take k) := ⟨_, rfl⟩
      rw [← hen] at hown
      have Hen := Lib.hid hen; clear hen
      go_wp2_with (first | (at_builtin; refine wpList_append_own _ rfl _ _ 57 rfl wr.heap.size 77 j0 _ 3 24 Try.underlying57 hj0 hy0 hy1 hy2 rfl (by omega) _ _ [] rfl hown0 ad nl.length (cps k) (encTz nl) rfl (encTz_len nl) hnews (encTz_one nl) (by unfold maxLen; simp; omega) (by simp; omega) (by simp) ?_; (intro v1 w2 hown1 hgrow1 _; have hb2 : Below wr.heap.size wr w2 := Hb1.out.grown hgrow1 (by simp) (fun j hj => (hown0.lt j hj).1); have hown2 := own_keep hown hb2; have hsz2 := hb2.size; obtain ⟨ad2, cp, rfl, hcp, ho, hblk⟩ := RowTz.row (show RowTz w2 wr.heap.size v1 nl from (by unfold RowTz; simpa using hown1)); have HP := Lib.hid (fun (w8 : World) (g2 cap2 : Nat) => GrowN.push (w8 := w8) (g2 := g2) (cap2 := cap2) (A := .cells #[.slice ad2 nl.length cp] 57) ⟨gB, gS⟩ H23.out.1 H23.out.2 hb2 ho hcp hblk); rw [Hml.out] at HP; rw [← Hen.out] at HP; have HB2 := Lib.hid (HB.out.trans (hb2.mono hsz)); clear hown1 hgrow1 hcp ho hblk hb2)) | (at_builtin; refine wpList_append_lies _ rfl _ _ 25 rfl w.heap.size 57 i0 _ 1 24 Try.underlying25 hi0 hz0 hz1 hz2 rfl (by decide) _ k en rfl (World.ownsRow.alloc hown2 _) ⟨w2.heap.size, 0, none⟩ 1 1 [.slice ad2 nl.length cp] rfl rfl (one_news w2 _ _) (by simp [Value.oneCell']) (by decide) (by simp only [maxLen]; omega) (by omega) (by simp; omega) _ rfl ?_; intro g2 cp2 w8 hown8 hgrow8 hlie8 _; have hP8 := HP.out _ _ _ hown8 hgrow8 hlie8; have hB8 := HB2.out.trans (push_below (by omega) gB hgrow8); clear hown8 hgrow8 hlie8 hown2))
      rw [← Hm2.out] at hP8
      exact ⟨⟨k + 1, g2, cp2, hlt, by go_num, rfl, hP8, hB8⟩, by simp [intOf]; omega⟩
    · obtain rfl : k = net.length := by omega
      have hb1 : Below wr.heap.size wr (wr.alloc (.cells #[] 77)) := (Below.refl _ _).alloc (Nat.le_refl _) _
      have ho := (H2.out.below hbel).below hb1
      have hnews := ho.news
      have hown0 := RowTz.made wr wr.heap.size (Nat.le_refl _)
      unfold RowTz at hown0
      have HB := Lib.hid hbel
      have hsz := hbel.size
      rw [List.take_length] at HGr
      obtain ⟨gB, gS, gC⟩ := HGr.out.own
      obtain ⟨ads3, cps3, hown, h2, h3⟩ := HGr.out
      have H23 := Lib.hid (And.intro h2 h3)
      have Hb1 := Lib.hid hb1
      have Ht := Lib.hid (totN_add net l)
      have Hok := Lib.hid (show adOk n net l = okNet n (net ++ [l]) from rfl)
      have Hnl := Lib.hid (show (net ++ [l]).length = net.length + 1 by simp)
      clear ho hbel hk hlt hb1 h2 h3
      obtain ⟨en, hen⟩ : ∃ en, en = encN ads3 cps3 net := ⟨_, rfl⟩
      rw [← hen] at hown
      have Hen := Lib.hid hen; clear hen
      go_wp2_with (first | (at_builtin; refine wpList_append_own _ rfl _ _ 57 rfl wr.heap.size 77 j0 _ 3 24 Try.underlying57 hj0 hy0 hy1 hy2 rfl (by omega) _ _ [] rfl hown0 ⟨b2, 0, none⟩ l.length cap2 (encTz l) rfl (encTz_len l) hnews (encTz_one l) (by unfold maxLen; simp; omega) (by simp; omega) (by simp) ?_; (intro v1 w2 hown1 hgrow1 _; have hb2 : Below wr.heap.size wr w2 := Hb1.out.grown hgrow1 (by simp) (fun j hj => (hown0.lt j hj).1); have hown2 := own_keep hown hb2; have hsz2 := hb2.size; obtain ⟨ad2, cp, rfl, hcp, ho, hblk⟩ := RowTz.row (show RowTz w2 wr.heap.size v1 l from (by unfold RowTz; simpa using hown1)); have HP := Lib.hid (fun (w8 : World) (g2 cap2 : Nat) => GrowN.push (w8 := w8) (g2 := g2) (cap2 := cap2) (A := .cells #[.slice ad2 l.length cp] 57) ⟨gB, gS⟩ H23.out.1 H23.out.2 hb2 ho hcp hblk); rw [← Hen.out] at HP; have HB2 := Lib.hid (HB.out.trans (hb2.mono hsz)); clear hown1 hgrow1 hcp ho hblk hb2)) | (at_builtin; refine wpList_append_lies _ rfl _ _ 25 rfl w.heap.size 57 i0 _ 1 24 Try.underlying25 hi0 hz0 hz1 hz2 rfl (by decide) _ net.length en rfl (World.ownsRow.alloc hown2 _) ⟨w2.heap.size, 0, none⟩ 1 1 [.slice ad2 l.length cp] rfl rfl (one_news w2 _ _) (by simp [Value.oneCell']) (by decide) (by simp only [maxLen]; omega) (by omega) (by simp; omega) _ rfl ?_; intro g2 cp2 w8 hown8 hgrow8 hlie8 _; have hP8 := HP.out _ _ _ hown8 hgrow8 hlie8; have HP8 := Lib.hid hP8; have HB8 := Lib.hid (HB2.out.trans (push_below (by omega) gB hgrow8)); clear hown8 hgrow8 hlie8 hown2 hP8) | fail)
      obtain ⟨ads8, cps8, hN⟩ := HP8.out.done
      have hN2 := hN.ins HP8.out.own.2.2
      rw [Hnl.out] at hN2
      refine (netValid1_any n _ (net ++ [l]) _ hN2 (by rw [Ht.out]; have := Hm.out; omega)).mono ?_; rintro e w9 ⟨rfl, hb9⟩
      rw [← Hok.out]
      have HB9 := Lib.hid (HB8.out.trans (hb9.mono HB8.out.size))
      have HP9 := Lib.hid (HP8.out.below hb9)
      clear hN hN2 hb9
      cases hq : adOk n net l with
      | false =>
        have Hb := Lib.hid hq; clear hq Hok
        go_wp2
        go_ret2
        rw [adX_no Hb.out, Hb.out]
        exact NtOut.no HB9.out.size (by simp) (HB9.out.alloc HB9.out.size _)
      | true =>
        have Hb := Lib.hid hq; clear hq Hok
        go_wp2
        go_ret2
        rw [adX_yes Hb.out, Hb.out]
        obtain ⟨ads9, cps9, hN9⟩ := HP9.out.done
        exact ⟨g2, cp2, ads9, cps9, by rw [Hnl.out]; rfl, HP9.out.own.2.2, hN9, HB9.out⟩

end Go.Proofs.Ytmkcnoaphoiiaaa
