/- Texts of this law in one: ICL M4 M5 JT M6 IC. -/
import Derived.Test.YtmkcnoaphoiiaaaIKC
import Derived.Lib.SliceRun
import Derived.Test.YtmkcnoaphoiiaaaM3
import Derived.Test.YtmkcnoaphoiiaaaJS
import Derived.Test.YtmkcnoaphoiiaaaJ6
import Derived.Test.YtmkcnoaphoiiaaaOC
import Derived.Test.YtmkcnoaphoiiaaaI
/- slices.Clone of numbers; a number of a row of the call's own is set. -/
namespace Go.Proofs.Ytmkcnoaphoiiaaa
open Go.RowKit

/-- The cells of a part of a row, for an append. -/
theorem IntAt.news {w : World} {b o : Nat} {l : List Int} (h : IntAt w b o l) : ∀ j u, (l.map (Value.int .i64))[j]? = some u → w.cell? ((⟨b, o, none⟩ : Addr).add j) = some u := by
  intro j u hj
  have e : (⟨b, o, none⟩ : Addr).add j = ⟨b, o + j, none⟩ := by
    unfold Addr.add; split
    · rename_i h; rw [h]; simp
    · rfl
  rw [e]
  have hjl : j < l.length := by
    rw [List.getElem?_eq_some_iff] at hj
    obtain ⟨h1, _⟩ := hj
    simpa using h1
  rw [h j hjl]
  simp [List.getElem?_map, List.getElem?_eq_getElem hjl] at hj
  rw [← hj]; simp [List.getD, hjl]

def CpIOut (l : List Int) (w : World) (e : Ending) (w' : World) : Prop := ∃ v, e = .returned v ∧ RowI w' w.heap.size v l ∧ Below w.heap.size w w'

theorem RowI.setAt {w : World} {B g n cap : Nat} {l : List Int} (h : RowI w B (.slice (some ⟨g, 0, none⟩) n cap) l) (i : Nat) (v : Int) :
    RowI (w.setCell ⟨g, i, none⟩ (.int .i64 v)) B (.slice (some ⟨g, 0, none⟩) n cap) (l.set i v) := by
  obtain ⟨hlen, h⟩ := h
  rcases h with ⟨h1, h0⟩ | ⟨g', cap', cur, h1, hB, hh, hcap, hmax, hs, htk⟩
  · cases h1
  · injection h1 with h1 h2 h3
    injection h1 with h1
    injection h1 with h1
    subst h1 h2 h3
    unfold RowI
    rw [List.length_set]
    refine ⟨by simp, .inr ⟨g, cap, _, rfl, hB, Whole.set (show Whole w g _ cur from hh) i (.int .i64 v), hcap, hmax, by rw [Array.size_setIfInBounds]; exact hs, ?_⟩⟩
    rw [Array.toList_setIfInBounds, List.take_set, htk, List.map_set]
theorem RowI.open2 {w : World} {B : Nat} {v : Value} {l : List Int} (h : RowI w B v l) (h0 : 0 < l.length) : ∃ g cap, v = .slice (some ⟨g, 0, none⟩) l.length cap ∧ l.length ≤ cap ∧ IntAt w g 0 l ∧ Room w g l.length ∧ B ≤ g ∧ g < w.heap.size := by
  obtain ⟨ad, cap, rfl, hc, ho, hin⟩ := h.row
  obtain ⟨g, rfl, hlt, hat, hroom⟩ := ho (by rintro rfl; simp at h0)
  exact ⟨g, cap, rfl, hc, hat, hroom, (hin g ⟨0, rfl⟩).1, hlt⟩
theorem RowI.in_ {w : World} {B : Nat} {v : Value} {l : List Int} (h : RowI w B v l) : IntsIn w v l := by
  obtain ⟨ad, cap, rfl, hc, ho, _⟩ := h.row
  exact ho.ints hc

end Go.Proofs.Ytmkcnoaphoiiaaa
/- The model's l7Table. -/
namespace Go.Proofs.Ytmkcnoaphoiiaaa
open Go.RowKit

theorem upX_ok {N : Nat} {T : List Int} {s : Rd} (h : TbOk N T) (ha : 0 ≤ s.a ∧ s.a < N) (hb : 0 ≤ s.b ∧ s.b ≤ 10000) : TbOk N (upX T s) := by
  refine ⟨by rw [upX_len]; exact h.1, fun i hi => ?_⟩
  unfold upX
  split
  · rw [fT_set ha.1 (by rw [h.1]; exact ha.2) (by omega)]
    split
    · omega
    · exact h.2 i hi
  · exact h.2 i hi

def T1Rel (N : Nat) (w : World) (v iv : Value) (wr : World) : Prop := ∃ (k : Nat) (sv : Value), k ≤ N ∧ iv = .int .i64 k ∧ sv = v ∧ RowI wr w.heap.size sv (List.replicate k (-1)) ∧ Below w.heap.size w wr
def T2Rel (N : Nat) (ch f t0 : Int) (net : List (List Rd)) (g : Nat) (w : World) (iv : Value) (wr : World) : Prop := ∃ r : Nat, r ≤ N + 1 ∧ iv = .int .i64 r ∧ TabAt wr g N (itA ch f net (iniX N f t0) r) ∧ Below w.heap.size w wr
def T3Rel (N : Nat) (ch f : Int) (net : List (List Rd)) (T : List Int) (g : Nat) (w : World) (iv : Value) (wr : World) : Prop := ∃ c : Nat, c ≤ net.length ∧ iv = .int .i64 c ∧ TabAt wr g N ((net.take c).foldl (cchG id ch f) T) ∧ Below w.heap.size w wr
def T4Rel (N : Nat) (ch f : Int) (l : List Rd) (T : List Int) (g : Nat) (w : World) (ov iv : Value) (wr : World) : Prop := ∃ (i : Nat) (Ti : List Int) (on : Bool), i ≤ l.length ∧ iv = .int .i64 i ∧ ov = .bool on ∧ (l.take i).foldl (stG id ch f) (T, false) = (Ti, on) ∧ TabAt wr g N Ti ∧ Below w.heap.size w wr

theorem stG_off (rt : List Int → List Int) (ch f : Int) (T : List Int) (s : Rd) : stG rt ch f (T, false) s = (T, rdyX (rt T) ch f s) := rfl
theorem stG_on (rt : List Int → List Int) (ch f : Int) (T : List Int) (s : Rd) : stG rt ch f (T, true) s = (upX T s, true) := rfl

def L7Out (N : Nat) (T : List Int) (w : World) (e : Ending) (w' : World) : Prop :=
  ∃ g cap, e = .returned (.slice (some ⟨g, 0, none⟩) N cap) ∧ N ≤ cap ∧ w.heap.size ≤ g ∧ TabAt w' g N T ∧ Below w.heap.size w w'

set_option maxRecDepth 100000 in
set_option maxHeartbeats 4000000 in
theorem l7Table_any (N : Nat) (v : Value) (net : List (List Rd)) (f t0 ch : Int) (w : World) (hv : NtIn w v net) (hm : totN net ≤ 1048577) (ho : okT7 (N : Int) net f t0 ch = true) :
    Calls Try.prog 65 #[.int .i64 (N : Int), v, .int .i64 f, .int .i64 t0, .int .i64 ch] w (L7Out N (tabA (N : Int) net ch f t0) w) := by
  obtain ⟨o1, ⟨o2, o3⟩, ⟨o4, o5⟩, o6, o7⟩ := okT7_iff.1 ho
  have hn8 := (okNet_iff.1 o1).1.2.1
  have hN : N ≤ 8 := by omega
  have O1 := Lib.hid o1
  have Hfin := Lib.hid (show tabA (N : Int) net ch f t0 = itA ch f net (iniX N f t0) (N + 1) from rfl)
  obtain ⟨i0, hi, hz0, hz1, hz2⟩ := info_parts Try.info3
  obtain ⟨a, cap, rfl, hcap, ha⟩ := hv
  have hl1 : net.length ≤ 6 := (okNet_iff.1 o1).1.2.2
  have Ha := Lib.hid ha
  have Hm := Lib.hid hm
  obtain ⟨F, rfl⟩ : ∃ F : Nat, f = (F : Int) := ⟨f.toNat, by omega⟩
  have hF : F < N := by omega
  have hR0 := Lib.hid (RowI.made w w.heap.size (Nat.le_refl _))
  have hB0 := Lib.hid ((Below.refl w.heap.size w).alloc (Nat.le_refl _) (.cells #[] 3))
  clear ho hcap ha hm o1
  go_enter Try.func65, Try.ntmps65
  go_wp2
  go_loopw [11, 12] (fun v iv wr => T1Rel N w v iv wr) (fun _ iv _ => N - (intOf iv).toNat)
  case atStart => exact ⟨0, _, Nat.zero_le _, rfl, rfl, hR0.out, hB0.out⟩
  case round =>
    obtain ⟨k, sv, hk, rfl, rfl, hrow, hbel⟩ := hrel
    have HB := Lib.hid hbel
    have HR := Lib.hid hrow
    by_cases hlt : k < N
    · have hrow' := hrow
      unfold RowI at hrow'
      rw [List.length_replicate] at hrow'
      obtain ⟨en, hen⟩ : ∃ en, en = (List.replicate k (-1 : Int)).map (Value.int .i64) := ⟨_, rfl⟩
      rw [← hen] at hrow'
      have Hen := Lib.hid hen
      have hsz := hbel.size
      have hlt' : (k : Int) < (N : Int) := by omega
      clear hen hrow hbel
      go_wp2_with (at_builtin; refine wpList_append_own _ rfl _ _ 38 rfl w.heap.size 3 i0 _ 1 8 Try.underlying38 hi hz0 hz1 hz2 rfl (by decide) _ k en rfl (World.ownsRow.alloc hrow' _) ⟨wr.heap.size, 0, none⟩ 1 1 [.int .i64 (-1)] rfl rfl (one_int wr (-1)) (by simp [Value.oneCell']) (by simp only [maxLen]; omega) (by omega) (by simp; omega) ?_; intro v' w8 hown8 hgrow8 _; have HO8 := Lib.hid hown8; have HB8 := Lib.hid ((HB.out.alloc HB.out.size _).grown hgrow8 (by simp; omega) (fun j hj => (hrow'.lt j hj).1)); clear hown8 hgrow8 hrow')
      refine ⟨⟨k + 1, v', hlt, by go_num, rfl, ?_, HB8.out⟩, by simp [intOf]; omega⟩
      rw [List.replicate_succ']
      refine RowI.snoc ?_
      rw [← Hen.out, List.length_replicate]
      exact HO8.out
    · obtain rfl : k = N := by omega
      obtain ⟨g, cp, rfl, hcp, hat, hroom, hg, hgl⟩ := hrow.open2 (by simp; omega)
      rw [List.length_replicate] at hcp hroom ⊢
      have hTab : TabAt wr g k (List.replicate k (-1)) := ⟨⟨by simp, fun i hi => by rw [fT_at]; simp [List.getD, hi]⟩, hgl, hat, hroom⟩
      have hTab2 := hTab.set hF (x := t0) (by omega) o7
      have c0 := hTab.cell hF
      have f0 := hroom.2 F
      have HT2 := Lib.hid hTab2
      have HB2 := Lib.hid (hbel.setCell (p := ⟨g, F, none⟩) hg (.int .i64 t0))
      have Hg := Lib.hid (And.intro hg hcp)
      have hF' : (F : Int) < (k : Int) := by omega
      have hini : (List.replicate k (-1 : Int)).set F t0 = iniX k (F : Int) t0 := rfl
      rw [hini] at HT2
      clear hrow hbel hat hroom hTab hTab2 hini HR hlt hk hgl
      go_wp2
      generalize wr.setCell ⟨g, F, none⟩ (.int .i64 t0) = w2 at *
      clear c0 f0
      go_loopw [13] (fun iv wr => T2Rel k ch (F : Int) t0 net g w iv wr) (fun iv _ => k + 1 - (intOf iv).toNat)
      case atStart => exact ⟨0, Nat.zero_le _, rfl, HT2.out, HB2.out⟩
      case round =>
        obtain ⟨r, hr, rfl, htab, hbel⟩ := hrel
        have HT := Lib.hid htab
        have HB3 := Lib.hid hbel
        clear htab hbel
        by_cases hlt : r ≤ k
        · have hlt' : (r : Int) ≤ (k : Int) := by omega
          have Hitr := Lib.hid (show itA ch (F : Int) net (iniX k (F : Int) t0) (r + 1) = net.foldl (cchG id ch (F : Int)) (itA ch (F : Int) net (iniX k (F : Int) t0) r) from rfl)
          generalize itA ch (F : Int) net (iniX k (F : Int) t0) r = T at *
          go_wp2
          go_loopw [14] (fun iv wr => T3Rel k ch (F : Int) net T g w iv wr) (fun iv _ => net.length - (intOf iv).toNat)
          case atStart => exact ⟨0, Nat.zero_le _, rfl, HT.out, HB3.out⟩
          case round =>
            obtain ⟨c, hc, rfl, htab, hbel⟩ := hrel
            have HT5 := Lib.hid htab
            have HB5 := Lib.hid hbel
            clear htab hbel
            by_cases hltc : c < net.length
            · obtain ⟨b, o, rfl, hb, hrw⟩ := Ha.out (by intro h; simp [h] at hltc)
              obtain ⟨u, hu, hin⟩ := hrw c hltc
              have Hu := Lib.hid (fun (W : World) (h : Below w.heap.size w W) => (h.cell (p := ⟨b, o + c, none⟩) hb).trans hu)
              obtain ⟨a2, cap2, rfl, _, ha2⟩ := hin
              have Ha2 := Lib.hid ha2
              have Hcc := Lib.hid (foldl_take (cchG id ch (F : Int)) T net c [] hltc)
              have hvs := (okNet_iff.1 O1.out).2 c hltc
              have l8 : (coach net c).length ≤ 8 := (validS_iff.1 hvs).1.2.2.2
              have Hvs := Lib.hid hvs
              have hltc' : (c : Int) < (net.length : Int) := by omega
              clear hrw hu ha2 hvs
              generalize (net.take c).foldl (cchG id ch (F : Int)) T = Tc at *
              have Hcch := Lib.hid (show cchG id ch (F : Int) Tc (net.getD c []) = ((coach net c).foldl (stG id ch (F : Int)) (Tc, false)).1 from rfl)
              go_wp2
              go_loopw [15, 16] (fun ov iv wr => T4Rel k ch (F : Int) (coach net c) Tc g w ov iv wr) (fun _ iv _ => (coach net c).length - (intOf iv).toNat)
              case atStart => exact ⟨0, Tc, false, Nat.zero_le _, rfl, rfl, rfl, HT5.out, HB5.out⟩
              case round =>
                obtain ⟨i, Ti, on, hi9, rfl, rfl, hfold, htab, hbel⟩ := hrel
                have c1 := Hu.out wr hbel
                have HT7 := Lib.hid htab
                have HB7 := Lib.hid hbel
                have Hfold := Lib.hid hfold
                clear hfold
                by_cases hlti : i < (coach net c).length
                · obtain ⟨b3, ob3, rfl, hb3, hrow3⟩ := Ha2.out (by intro h; simp [h] at hlti)
                  obtain ⟨d0, d1, d2⟩ := (hrow3.below hbel hb3) i hlti
                  have hva := validS_at Hvs.out hlti
                  have hvn := (fitsS_iff _ _).1 ((okS_iff _ _ _).1 ((validS_iff.1 Hvs.out).2 i hlti)).1
                  have Hst := Lib.hid (foldl_take (stG id ch (F : Int)) (Tc, false) (coach net c) i rd0 hlti)
                  rw [Hfold.out] at Hst
                  obtain ⟨⟨xa, xb, xm⟩, hxr⟩ : ∃ r, (coach net c).getD i tz0 = r := ⟨_, rfl⟩
                  have hxr2 : (coach net c).getD i rd0 = ⟨xa, xb, xm⟩ := hxr
                  rw [hxr] at d0 d1 d2
                  rw [hxr2] at hva hvn Hst
                  simp only at d0 d1 d2 hva hvn
                  obtain ⟨A, rfl⟩ : ∃ A : Nat, xa = (A : Int) := ⟨xa.toNat, by omega⟩
                  have hA : A < k := by omega
                  have hA' : (A : Int) < (k : Int) := by omega
                  have hlti' : (i : Int) < ((coach net c).length : Int) := by omega
                  have hbA : Below wr.heap.size wr (wr.alloc (.cells #[.int .i64 (A : Int), .int .i64 xb, .int .i64 xm] 77)) := (Below.refl _ _).alloc (Nat.le_refl _) _
                  have htab2 := htab.below hbA
                  have hl := Whole.made wr 77 #[.int .i64 (A : Int), .int .i64 xb, .int .i64 xm]
                  have e0 : (wr.alloc (.cells #[.int .i64 (A : Int), .int .i64 xb, .int .i64 xm] 77)).cell? ⟨wr.heap.size, 0, none⟩ = some (.int .i64 (A : Int)) := hl.cell rfl
                  have e1 : (wr.alloc (.cells #[.int .i64 (A : Int), .int .i64 xb, .int .i64 xm] 77)).cell? ⟨wr.heap.size, 1, none⟩ = some (.int .i64 xb) := hl.cell rfl
                  have e2 : (wr.alloc (.cells #[.int .i64 (A : Int), .int .i64 xb, .int .i64 xm] 77)).cell? ⟨wr.heap.size, 2, none⟩ = some (.int .i64 xm) := hl.cell rfl
                  have ct := htab2.cell hA
                  have ft := htab2.room.2 A
                  have hng : g ≠ wr.heap.size := by have := htab.lt; omega
                  have HT8 := Lib.hid htab2
                  have HB8 := Lib.hid (hbel.trans (hbA.mono hbel.size))
                  have HL := Lib.hid hl
                  have hx0 := (htab.ok.2 A hA).1
                  have hx1 := (htab.ok.2 A hA).2
                  have hbb := And.intro hva.2.2.1 (show xb ≤ 10000 by omega)
                  clear hva hvn hrow3 htab hbel hbA htab2 hl hxr hxr2
                  have HT9 := Lib.hid (fun (W : World) (h : Below (wr.alloc (.cells #[.int .i64 (A : Int), .int .i64 xb, .int .i64 xm] 77)).heap.size (wr.alloc (.cells #[.int .i64 (A : Int), .int .i64 xb, .int .i64 xm] 77)) W) => And.intro (HT8.out.below h) (HB8.out.trans (h.mono HB8.out.size)))
                  cases on with
                  | false =>
                    rw [stG_off] at Hst
                    go_wp2
                    go_quiet (fail)
                    go_wp2_with fail
                    refine (l7Ready_any g k cp Ti (F : Int) (A : Int) xb xm ch _ (HT9.out _ (by first | exact (Below.refl _ _).drewN _ | exact ((Below.refl _ _).drewN _).drewN _ | exact (Below.refl _ _).drew | exact Below.refl _ _)).1 ⟨Int.natCast_nonneg A, hA'⟩ o2 o3).mono ?_; rintro e w9 ⟨rfl, hb9⟩
                    have HT10 := Lib.hid (TabAt.below (HT9.out _ (by first | exact (Below.refl _ _).drewN _ | exact ((Below.refl _ _).drewN _).drewN _ | exact (Below.refl _ _).drew | exact Below.refl _ _)).1 hb9)
                    have hB10 := Below.trans (HT9.out _ (by first | exact (Below.refl _ _).drewN _ | exact ((Below.refl _ _).drewN _).drewN _ | exact (Below.refl _ _).drew | exact Below.refl _ _)).2 (Below.mono hb9 (HT9.out _ (by first | exact (Below.refl _ _).drewN _ | exact ((Below.refl _ _).drewN _).drewN _ | exact (Below.refl _ _).drew | exact Below.refl _ _)).2.size)
                    have HB10 := Lib.hid hB10
                    clear hB10
                    clear hb9 ct ft e0 e1 e2 d0 d1 d2
                    go_wp2
                    exact ⟨⟨i + 1, Ti, _, hlti, by go_num, rfl, by rw [Hst.out]; rfl, HT10.out, HB10.out⟩, by simp [intOf]; omega⟩
                  | true =>
                    rw [stG_on] at Hst
                    have Hup := Lib.hid (show upX Ti ⟨(A : Int), xb, xm⟩ = if fT Ti (A : Int) < 0 ∨ xb < fT Ti (A : Int) then Ti.set A xb else Ti from rfl)
                    generalize fT Ti (A : Int) = x at *
                    by_cases h1 : x < 0
                    · have h1' : decide (x < 0) = true := decide_eq_true h1
                      rw [if_pos (.inl h1)] at Hup
                      clear hx1
                      go_wp2
                      go_quiet (fail)
                      go_wp2
                      exact ⟨⟨i + 1, Ti.set A xb, true, hlti, by go_num, rfl, by rw [Hst.out, Hup.out], TabAt.set (HT9.out _ (by first | exact (Below.refl _ _).drewN _ | exact ((Below.refl _ _).drewN _).drewN _ | exact (Below.refl _ _).drew | exact Below.refl _ _)).1 hA (x := xb) (by omega) hbb.2, Below.setCell (HT9.out _ (by first | exact (Below.refl _ _).drewN _ | exact ((Below.refl _ _).drewN _).drewN _ | exact (Below.refl _ _).drew | exact Below.refl _ _)).2 (p := ⟨g, A, none⟩) Hg.out.1 _⟩, by simp [intOf]; omega⟩
                    · by_cases h2 : xb < x
                      · have h1' : decide (x < 0) = false := decide_eq_false h1
                        have h2' : decide (xb < x) = true := decide_eq_true h2
                        rw [if_pos (.inr h2)] at Hup
                        go_wp2
                        go_quiet (fail)
                        go_wp2
                        exact ⟨⟨i + 1, Ti.set A xb, true, hlti, by go_num, rfl, by rw [Hst.out, Hup.out], TabAt.set (HT9.out _ (by first | exact (Below.refl _ _).drewN _ | exact ((Below.refl _ _).drewN _).drewN _ | exact (Below.refl _ _).drew | exact Below.refl _ _)).1 hA (x := xb) (by omega) hbb.2, Below.setCell (HT9.out _ (by first | exact (Below.refl _ _).drewN _ | exact ((Below.refl _ _).drewN _).drewN _ | exact (Below.refl _ _).drew | exact Below.refl _ _)).2 (p := ⟨g, A, none⟩) Hg.out.1 _⟩, by simp [intOf]; omega⟩
                      · have h1' : decide (x < 0) = false := decide_eq_false h1
                        have h2' : decide (xb < x) = false := decide_eq_false h2
                        rw [if_neg (by omega)] at Hup
                        go_wp2
                        go_quiet (fail)
                        go_wp2
                        exact ⟨⟨i + 1, Ti, true, hlti, by go_num, rfl, by rw [Hst.out, Hup.out], (HT9.out _ (by first | exact (Below.refl _ _).drewN _ | exact ((Below.refl _ _).drewN _).drewN _ | exact (Below.refl _ _).drew | exact Below.refl _ _)).1, (HT9.out _ (by first | exact (Below.refl _ _).drewN _ | exact ((Below.refl _ _).drewN _).drewN _ | exact (Below.refl _ _).drew | exact Below.refl _ _)).2⟩, by simp [intOf]; omega⟩
                · obtain rfl : i = (coach net c).length := by omega
                  have hfo := Hfold.out
                  rw [List.take_length] at hfo
                  have Hn := Lib.hid (show (net.take (c + 1)).foldl (cchG id ch (F : Int)) T = Ti by rw [Hcc.out, Hcch.out, hfo])
                  clear hfo hlti hi9 htab hbel
                  go_wp2
                  exact ⟨⟨c + 1, hltc, by go_num, by rw [Hn.out]; exact HT7.out, HB7.out⟩, by simp [intOf]; omega⟩
            · obtain rfl : c = net.length := by omega
              rw [List.take_length] at HT5
              have Hn := Lib.hid (show TabAt wr g k (itA ch (F : Int) net (iniX k (F : Int) t0) (r + 1)) by rw [Hitr.out]; exact HT5.out)
              go_wp2
              exact ⟨⟨r + 1, by omega, by go_num, Hn.out, HB5.out⟩, by simp [intOf]; omega⟩
        · obtain rfl : r = k + 1 := by omega
          go_wp2
          go_ret
          exact ⟨g, cp, rfl, Hg.out.2, Hg.out.1, by rw [Hfin.out]; exact HT.out, HB3.out⟩

end Go.Proofs.Ytmkcnoaphoiiaaa
/- The model's PostTable, PostArrive, PostReach. -/
namespace Go.Proofs.Ytmkcnoaphoiiaaa
open Go.RowKit

theorem TabAt.own {w : World} {g N cap : Nat} {T : List Int} (h : TabAt w g N T) (hc : N ≤ cap) : ∃ (ad : Option Addr) (cp : Nat), (Value.slice (some ⟨g, 0, none⟩) N cap) = .slice ad T.length cp ∧ T.length ≤ cp ∧ OwnI w ad T ∧ ∀ j, inBlk ad j → j = g :=
  ⟨some ⟨g, 0, none⟩, cap, by rw [h.ok.1], by rw [h.ok.1]; exact hc, fun _ => ⟨g, rfl, h.lt, h.at_, by rw [h.ok.1]; exact h.room⟩, fun j hj => by obtain ⟨o, ho⟩ := hj; cases ho; rfl⟩

set_option maxRecDepth 100000 in
set_option maxHeartbeats 1000000 in
theorem postTable1_any (n : Int) (v : Value) (net : List (List Rd)) (f t0 ch : Int) (w : World) (hv : NtIn w v net) (hm : totN net ≤ 1048577) (wn : W64 n) :
    Calls Try.prog 28 #[.int .i64 n, v, .int .i64 f, .int .i64 t0, .int .i64 ch] w (IntsOk (ptX n net f t0 ch) (okT7 n net f t0 ch) w) := by
  have HC := Lib.hid (l7Ok_any n v net f t0 ch w hv hm wn)
  have HV := Lib.hid hv
  have Hm := Lib.hid hm
  clear hv hm
  cases ho : okT7 n net f t0 ch with
  | false =>
    rw [ho] at HC
    have Ho := Lib.hid ho; clear ho
    go_enter Try.func28, Try.ntmps28
    go_wp2_with fail
    refine HC.out.mono ?_; rintro e w1 ⟨rfl, hb⟩
    have HB := Lib.hid hb
    clear HC hb
    go_wp2
    go_ret2
    rw [ptX_no Ho.out]
    exact IntsOk.no HB.out.size (by simp) (HB.out.alloc HB.out.size _)
  | true =>
    rw [ho] at HC
    have Ho := Lib.hid ho
    have n1 := (okNet_iff.1 (okT7_iff.1 ho).1).1.1
    obtain ⟨N, rfl⟩ : ∃ N : Nat, n = (N : Int) := ⟨n.toNat, by omega⟩
    have Hx := Lib.hid (ptX_yes ho)
    clear ho n1
    go_enter Try.func28, Try.ntmps28
    go_wp2_with fail
    refine HC.out.mono ?_; rintro e w1 ⟨rfl, hb⟩
    have HB := Lib.hid hb
    clear HC hb
    go_wp2_with fail
    refine (l7Table_any N v net f t0 ch _ (HV.out.below HB.out) Hm.out Ho.out).mono ?_; rintro e w2 ⟨g, cap, rfl, hcp, hg, htab, hb2⟩
    have HT := Lib.hid (And.intro htab (And.intro hcp hg))
    have HB2 := Lib.hid (HB.out.trans (hb2.mono HB.out.size))
    clear htab hcp hg hb2
    go_wp2
    go_ret2
    rw [Hx.out]
    obtain ⟨ad, cp, e1, e2, e3, e4⟩ := HT.out.1.own HT.out.2.1
    exact ⟨ad, cp, by rw [← e1]; rfl, e2, e3, fun j hj => by rw [e4 j hj]; have := HT.out.2.2; have := HB.out.size; have := HT.out.1.lt; omega, HB2.out⟩

theorem IntsOk.at_ {xs : List Int} {ok : Bool} {w : World} {e : Ending} {w' : World} (h : IntsOk xs ok w e w') (h0 : 0 < xs.length) : ∃ g cap, e = .returned (.tuple #[.slice (some ⟨g, 0, none⟩) xs.length cap, .bool ok]) ∧ g < w'.heap.size ∧ IntAt w' g 0 xs ∧ Below w.heap.size w w' := by
  obtain ⟨ad, cp, rfl, hc, ho, _, hb⟩ := h
  obtain ⟨g, rfl, hlt, hat, _⟩ := ho (by rintro rfl; simp at h0)
  exact ⟨g, cp, rfl, hlt, hat, hb⟩

set_option maxRecDepth 100000 in
set_option maxHeartbeats 1000000 in
theorem postArrive1_any (n : Int) (v : Value) (net : List (List Rd)) (f to t0 ch : Int) (w : World) (hv : NtIn w v net) (hm : totN net ≤ 1048577) (wn : W64 n) :
    Calls Try.prog 34 #[.int .i64 n, v, .int .i64 f, .int .i64 to, .int .i64 t0, .int .i64 ch] w (Gives (.int .i64 (paX n net f to t0 ch)) w) := by
  have HC := Lib.hid (postTable1_any n v net f t0 ch w hv hm wn)
  clear hv hm
  cases ho : okT7 n net f t0 ch with
  | false =>
    rw [ho] at HC
    have Hp := Lib.hid (show paX n net f to t0 ch = -1 by unfold paX; rw [if_neg (by rw [ho]; simp)])
    clear ho
    go_enter Try.func34, Try.ntmps34
    go_wp2_with fail
    refine HC.out.mono ?_; rintro e w1 ⟨ad, cp, rfl, _, _, _, hb⟩
    clear HC
    go_wp2
    go_ret
    exact ⟨ret_int Hp.out.symm, hb⟩
  | true =>
    rw [ho, ptX_yes ho] at HC
    obtain ⟨o1, ⟨o2, o3⟩, ⟨o4, o5⟩, o6, o7⟩ := okT7_iff.1 ho
    have n1 := (okNet_iff.1 o1).1.1
    have n8 := (okNet_iff.1 o1).1.2.1
    obtain ⟨N, rfl⟩ : ∃ N : Nat, n = (N : Int) := ⟨n.toNat, by omega⟩
    have hlen := tabA_len (ch := ch) o1 ⟨o4, o5⟩ ⟨o6, o7⟩
    have Hp := Lib.hid (show paX (N : Int) net f to t0 ch = if isTown (N : Int) to = true then fT (tabA (N : Int) net ch f t0) to else -1 by unfold paX; rw [ho]; simp)
    generalize tabA (N : Int) net ch f t0 = T at *
    have hpos : 0 < T.length := by omega
    have hTN : T.length = N := by omega
    clear ho o1 o2 o3 o4 o5 o6 o7 hlen
    by_cases hto : 0 ≤ to ∧ to ≤ (N : Int) - 1
    · have hin : inB to 0 ((N : Int) - 1) = true := (inB_iff _ _ _).2 hto
      rw [if_pos (isTown_iff.2 ⟨hto.1, by omega⟩)] at Hp
      obtain ⟨t0', ht1⟩ := hto
      obtain ⟨K, rfl⟩ : ∃ K : Nat, to = (K : Int) := ⟨to.toNat, by omega⟩
      have hK : K < T.length := by omega
      go_enter Try.func34, Try.ntmps34
      go_wp2_with fail
      refine HC.out.mono ?_; intro e w1 hx
      obtain ⟨g, cap, rfl, hg, hat, hb⟩ := hx.at_ hpos
      have c0 : w1.cell? ⟨g, K, none⟩ = some (.int .i64 (fT T (K : Int))) := by
        have := hat K hK
        rw [Nat.zero_add] at this
        rw [this, fT_get hK]
      have hK' : (K : Int) < (T.length : Int) := by omega
      have HTN := Lib.hid hTN
      clear hx hat HC hTN
      go_wp2_with fail
      refine (l6In_any _ _ _ _).mono ?_; rintro e w' ⟨rfl, rfl⟩
      rw [hin]
      go_wp2
      go_ret
      exact ⟨ret_int Hp.out.symm, hb⟩
    · have hin : inB to 0 ((N : Int) - 1) = false := Bool.eq_false_iff.2 (fun h => hto ((inB_iff _ _ _).1 h))
      rw [if_neg (by intro h; have := isTown_iff.1 h; omega)] at Hp
      have HTN := Lib.hid hTN
      clear hto hTN
      go_enter Try.func34, Try.ntmps34
      go_wp2_with fail
      refine HC.out.mono ?_; intro e w1 hx
      obtain ⟨g, cap, rfl, hg, hat, hb⟩ := hx.at_ hpos
      clear hx hat HC
      go_wp2_with fail
      refine (l6In_any _ _ _ _).mono ?_; rintro e w' ⟨rfl, rfl⟩
      rw [hin]
      go_wp2
      go_ret
      exact ⟨ret_int Hp.out.symm, hb⟩

def R1Rel (ad : Option Addr) (T : List Int) (u : Int) (B1 : Nat) (w : World) (v iv : Value) (wr : World) : Prop := ∃ (k : Nat) (sv : Value), k ≤ T.length ∧ iv = .int .i64 k ∧ sv = v ∧ RowI wr w.heap.size sv (rchTo T u k) ∧ Below w.heap.size w wr ∧ OwnI wr ad T ∧ (∀ q, sv.ownBlock = some q → q = w.heap.size ∨ B1 ≤ q) ∧ B1 ≤ wr.heap.size

set_option maxRecDepth 100000 in
set_option maxHeartbeats 2000000 in
theorem postReach1_any (n : Int) (v : Value) (net : List (List Rd)) (f t0 ch u : Int) (w : World) (hv : NtIn w v net) (hm : totN net ≤ 1048577) (wn : W64 n) :
    Calls Try.prog 36 #[.int .i64 n, v, .int .i64 f, .int .i64 t0, .int .i64 ch, .int .i64 u] w (IntsOne (rchX n net f t0 ch u) w) := by
  have hb0 : Below w.heap.size w (w.alloc (.cells #[] 3)) := (Below.refl _ _).alloc (Nat.le_refl _) _
  have HC := Lib.hid (postTable1_any n v net f t0 ch _ (hv.below hb0) hm wn)
  have HR := Lib.hid (RowI.made w w.heap.size (Nat.le_refl _))
  have HB0 := Lib.hid hb0
  obtain ⟨i0, hi, hz0, hz1, hz2⟩ := info_parts Try.info3
  clear hv hm hb0
  obtain ⟨T, ok, hT, hrx, hT8⟩ : ∃ T ok, ptX n net f t0 ch = T ∧ rchX n net f t0 ch u = rchTo T u T.length ∧ T.length ≤ 8 := by
    cases ho : okT7 n net f t0 ch with
    | false => exact ⟨[], false, ptX_no ho, by unfold rchX; rw [ho]; rfl, by simp⟩
    | true =>
      obtain ⟨o1, ⟨o2, o3⟩, o4, o6⟩ := okT7_iff.1 ho
      have hl := tabA_len (ch := ch) o1 o4 o6
      have n8 := (okNet_iff.1 o1).1.2.1
      exact ⟨_, true, ptX_yes ho, by unfold rchX; rw [ho, if_pos rfl]; congr 1; omega, by omega⟩
  rw [hT] at HC
  have Hrx := Lib.hid hrx
  clear hT hrx
  go_enter Try.func36, Try.ntmps36
  go_wp2_with fail
  have Hw0 := Lib.hid (show (w.alloc (.cells #[] 3)).heap.size = w.heap.size + 1 by simp)
  generalize w.alloc (.cells #[] 3) = w0 at *
  refine HC.out.mono ?_; rintro e w1 ⟨ad, cap, rfl, hcap, hown, hblk, hb⟩
  have Hblk := Lib.hid (show ∀ j, inBlk ad j → w.heap.size < j ∧ j < w1.heap.size from fun j hj => by have := hblk j hj; have := Hw0.out; omega)
  clear hblk
  have HR1 := Lib.hid (HR.out.below hb)
  have HB1 := Lib.hid (HB0.out.trans (hb.mono HB0.out.size))
  have Hown := Lib.hid hown
  clear HC hb hown hcap
  go_wp2
  go_loopw [13, 16] (fun v iv wr => R1Rel ad T u w1.heap.size w v iv wr) (fun _ iv _ => T.length - (intOf iv).toNat)
  case atStart => exact ⟨0, _, Nat.zero_le _, rfl, rfl, HR1.out, HB1.out, Hown.out, fun q hq => .inl (Option.some.inj hq).symm, Nat.le_refl _⟩
  case round =>
    obtain ⟨k, sv, hk, rfl, rfl, hrow, hbel, hown, hq, hB1⟩ := hrel
    have HQ := Lib.hid hq
    have HB1' := Lib.hid hB1
    have HO := Lib.hid hown
    have HRr := Lib.hid hrow
    have HBr := Lib.hid hbel
    have hsz := hbel.size
    by_cases hlt : k < T.length
    · obtain ⟨g, rfl, hg, hat, _⟩ := hown (by rintro rfl; simp at hlt)
      have c0 : wr.cell? ⟨g, k, none⟩ = some (.int .i64 (fT T (k : Int))) := by
        have := hat k hlt
        rw [Nat.zero_add] at this
        rw [this, fT_get hlt]
      have Htk := Lib.hid (rchTo_succ T u k)
      have Hl := Lib.hid (rchTo_len T u k)
      have hlt' : (k : Int) < (T.length : Int) := by omega
      clear hat hbel
      by_cases h0 : 0 ≤ fT T (k : Int)
      · have hd0 : decide (0 ≤ fT T (k : Int)) = true := decide_eq_true h0
        by_cases hu : fT T (k : Int) ≤ u
        · have Hyes := Lib.hid (show rchB T u k = true by unfold rchB; simp [h0, hu])
          rw [Hyes.out, if_pos rfl] at Htk
          have hrow' := hrow
          unfold RowI at hrow'
          have hd : decide (fT T (k : Int) ≤ u) = true := decide_eq_true hu
          generalize fT T (k : Int) = x at *
          obtain ⟨en, hen⟩ : ∃ en, en = (rchTo T u k).map (Value.int .i64) := ⟨_, rfl⟩
          rw [← hen] at hrow'
          have Hen := Lib.hid hen
          obtain ⟨m, hm⟩ : ∃ m, m = (rchTo T u k).length := ⟨_, rfl⟩
          rw [← hm] at hrow'
          have hm8 : m ≤ 8 := by have := Hl.out; omega
          have Hm := Lib.hid hm
          have hgne : ∀ q, sv.ownBlock = some q → w.heap.size ≤ q := fun q hq => (hrow'.lt q hq).1
          clear hen hm hrow
          go_wp2_with (at_builtin; refine wpList_append_lies _ rfl _ _ 38 rfl w.heap.size 3 i0 _ 1 8 Try.underlying38 hi hz0 hz1 hz2 rfl (by decide) _ m en rfl (World.ownsRow.alloc hrow' _) ⟨wr.heap.size, 0, none⟩ 1 1 [.int .i64 (k : Int)] rfl rfl (one_int wr (k : Int)) (by simp [Value.oneCell']) (by decide) (by simp only [maxLen]; omega) (by omega) (by simp; omega) _ rfl ?_; intro g2 cp2 w8 hown8 hgrow8 hlie8 _; have HO8 := Lib.hid hown8; have HG8 := Lib.hid hgrow8; have HL8 := Lib.hid hlie8; have HB8 := Lib.hid ((HBr.out.alloc HBr.out.size _).grown hgrow8 (by simp; omega) (fun j hj => (hrow'.lt j hj).1)); clear hown8 hgrow8 hlie8 hrow')
          have hg8 := HG8.out
          have hT : Touch (fun q => sv.ownBlock = some q) wr w8 := ⟨by rw [hg8.os]; rfl, by rw [hg8.tape]; rfl, by rw [hg8.output]; rfl, by have := hg8.size; simp at this; omega, fun j hj hS => (hg8.block j (by simp; omega) (fun e => hS e.symm)).trans (((Below.refl wr.heap.size wr).alloc (Nat.le_refl _) _).block j hj)⟩
          refine ⟨⟨k + 1, .slice (some ⟨g2, 0, none⟩) (m + 1) cp2, hlt, by go_num, rfl, ?_, HB8.out, ?_, fun q hq => ?_, ?_⟩, by simp [intOf]; omega⟩
          · rw [Htk.out]
            refine RowI.snoc ?_
            rw [← Hen.out, ← Hm.out]
            exact HO8.out
          · exact HO.out.touch hT (fun j hj hS => by have := Hblk.out j hj; rcases HQ.out j hS with h | h <;> omega)
          · have hq2 : some g2 = some q := hq
            injection hq2 with hq2
            rcases HL8.out with h | h
            · exact HQ.out q (by rw [← hq2]; exact h)
            · right; have := HB1'.out; simp at h; omega
          · have := hT.size; have := HB1'.out; omega
        · have Hno := Lib.hid (show rchB T u k = false by unfold rchB; simp [hu])
          rw [Hno.out, if_neg (by simp), List.append_nil] at Htk
          have hd : decide (fT T (k : Int) ≤ u) = false := decide_eq_false hu
          clear hrow
          go_wp2
          exact ⟨⟨k + 1, sv, hlt, by go_num, rfl, by rw [Htk.out]; exact HRr.out, HBr.out, HO.out, HQ.out, HB1'.out⟩, by simp [intOf]; omega⟩
      · have Hno := Lib.hid (show rchB T u k = false by unfold rchB; simp [h0])
        rw [Hno.out, if_neg (by simp), List.append_nil] at Htk
        have hd0 : decide (0 ≤ fT T (k : Int)) = false := decide_eq_false h0
        clear hrow
        go_wp2
        exact ⟨⟨k + 1, sv, hlt, by go_num, rfl, by rw [Htk.out]; exact HRr.out, HBr.out, HO.out, HQ.out, HB1'.out⟩, by simp [intOf]; omega⟩
    · obtain rfl : k = T.length := by omega
      clear hrow hbel
      go_wp2
      go_ret
      rw [Hrx.out]
      exact IntsOne.row HRr.out (Nat.le_refl _) HBr.out

end Go.Proofs.Ytmkcnoaphoiiaaa
/- PostLeave: the program's and the model's. -/
namespace Go.Proofs.Ytmkcnoaphoiiaaa
open Go.RowKit

theorem leX_no {n : Int} {net : List (List Rd)} {f to t ch : Int} (h : okT7 n net f t ch = false) : leX n net f to t ch = -1 := by unfold leX; rw [if_neg (by rw [h]; simp)]
theorem leX_no2 {n : Int} {net : List (List Rd)} {f to t ch : Int} (h : isTown n to = false) : leX n net f to t ch = -1 := by unfold leX; rw [if_neg (by rw [h]; simp)]

/-- TimeMax less a time is a time, and less any other number is none. -/
theorem isT_back {t : Int} (wt : W64 t) : isT (wrap64 (10000 - t)) = isT t := by
  unfold W64 at wt
  rw [Bool.eq_iff_iff, isT_iff, isT_iff]
  unfold wrap64
  omega

set_option maxRecDepth 100000 in
set_option maxHeartbeats 2000000 in
theorem postLeave2_any (n : Int) (v : Value) (net : List (List Rd)) (f to t ch : Int) (w : World) (hv : NtIn w v net) (hm : totN net ≤ 1048576) (wt : W64 t) :
    Calls Try.prog 43 #[.int .i64 n, v, .int .i64 f, .int .i64 to, .int .i64 t, .int .i64 ch] w (Gives (.int .i64 (leX n net f to t ch)) w) := by
  have HC := Lib.hid (postBack2_any n v net 10000 w hv hm (by unfold W64; omega))
  clear hv
  cases ho : okNet n net with
  | false =>
    have hb : bkOk n net 10000 = false := by unfold bkOk; rw [ho]; rfl
    rw [hb] at HC
    have Hx := Lib.hid (leX_no (to := to) (show okT7 n net f t ch = false by unfold okT7 okP; rw [ho]; rfl))
    clear ho hb
    go_enter Try.func43, Try.ntmps43
    go_wp2_with fail
    refine HC.out.mono ?_; rintro e w1 ⟨b, cap, ads, cps, rfl, _, _, hb⟩
    clear HC
    go_wp2
    go_ret
    exact ⟨ret_int Hx.out.symm, hb⟩
  | true =>
    have hbk := bk_ok ho
    rw [hbk, bkX_is ho] at HC
    have hbn := bkN_ok ho
    have htb : totN (bkN net) ≤ 1048577 := by
      have := bkX_tot (n := n) (t := 10000) hm
      rw [bkX_is ho] at this; omega
    have Htb := Lib.hid htb
    have Hbl := Lib.hid (bkN_len (net := net))
    obtain ⟨N, rfl⟩ : ∃ N : Nat, n = (N : Int) := ⟨n.toNat, by have := (okNet_iff.1 ho).1.1; omega⟩
    have Ho := Lib.hid ho
    have Hbn := Lib.hid hbn
    clear ho hbk hbn htb
    go_enter Try.func43, Try.ntmps43
    go_wp2_with fail
    refine HC.out.mono ?_; rintro e w1 ⟨b, cap, ads, cps, rfl, hcap, hown, hb⟩
    have HN := Lib.hid (hown.ins hcap)
    have HB := Lib.hid hb
    clear HC hcap hown hb
    obtain ⟨m, hm9⟩ : ∃ m, m = (bkN net).length := ⟨_, rfl⟩
    rw [← hm9]
    rw [← hm9] at HN
    clear hm9
    obtain ⟨q, hq⟩ : ∃ q, q = wrap64 (10000 - t) := ⟨_, rfl⟩
    have Hq := Lib.hid hq
    go_wp2_with fail
    rw [← hq]
    refine (ptOf_any (N : Int) _ (bkN net) to q ch _ HN.out Htb.out).mono ?_; rintro e w2 ⟨h1, h2⟩
    have Hk := Lib.hid (show okT7 (N : Int) (bkN net) to q ch = (okDl ch && isTown (N : Int) to && isT t) by unfold okT7 okP; rw [Hbn.out, Bool.true_and, Hq.out, isT_back wt])
    have Hk2 := Lib.hid (show okT7 (N : Int) net f t ch = (okDl ch && isTown (N : Int) f && isT t) by unfold okT7 okP; rw [Ho.out, Bool.true_and])
    cases hok : okT7 (N : Int) (bkN net) to q ch with
    | false =>
      obtain ⟨rfl, hb2⟩ := h2 hok
      have HB2 := Lib.hid (HB.out.trans (hb2.mono HB.out.size))
      have Hx := Lib.hid (show leX (N : Int) net f to t ch = -1 by
        cases h9 : isTown (N : Int) to with
        | false => exact leX_no2 h9
        | true =>
          refine leX_no ?_
          rw [Hk2.out]
          rw [Hk.out, h9, Bool.and_true] at hok
          cases hd : okDl ch with
          | false => rfl
          | true => rw [hd, Bool.true_and] at hok; rw [hok, Bool.and_false])
      clear h1 h2 hb2 hok hq
      go_wp2
      go_ret
      exact ⟨ret_int Hx.out.symm, HB2.out⟩
    | true =>
      obtain ⟨tb, eb, pb, _, _, _, _, _, _, rfl, hT, _, hb2⟩ := h1 hok
      rw [show (N : Int).toNat = N from rfl] at hT
      have HT := Lib.hid hT
      have HB2 := Lib.hid (HB.out.trans (hb2.mono HB.out.size))
      have hok2 := hok
      rw [Hk.out, Bool.and_eq_true, Bool.and_eq_true] at hok2
      have htt := (isT_iff t).1 hok2.2
      have hqt : q = 10000 - t := by rw [hq]; unfold wrap64; omega
      have Hqt := Lib.hid hqt
      have Hok2 := Lib.hid hok2
      clear h1 h2 hb2 hok hok2 hT hq hqt
      go_wp2_with fail
      refine (hasTown_any _ f _).mono ?_; rintro e w' ⟨rfl, rfl⟩
      cases hf : isTown (N : Int) f with
      | false =>
        have Hx := Lib.hid (show leX (N : Int) net f to t ch = -1 from leX_no (by rw [Hk2.out, hf, Bool.and_false, Bool.false_and]))
        clear hf
        go_wp2
        go_ret
        exact ⟨ret_int Hx.out.symm, HB2.out⟩
      | true =>
        have Hx := Lib.hid (leX_back (f := f) (t := t) (ch := ch) (net := net) (n := (N : Int)) (by rw [Hk2.out, hf, Hok2.out.1.1, Hok2.out.2]; rfl) Hok2.out.1.2)
        rw [← Hqt.out] at Hx
        have hf2 := isTown_iff.1 hf
        have Hf2 := Lib.hid hf2
        have Htm := Lib.hid (show tmO (tab1 (bkN net) ch to q 0 f) = timeT (tab1 (bkN net) ch to q) f from rfl)
        have Hbd := Lib.hid (fun (y : Ltr) (h : tab1 (bkN net) ch to q 0 f = some y) => show 0 ≤ y.t ∧ y.t ≤ 10000 by
          obtain ⟨⟨_, _, hr⟩, _⟩ := tab1_lok Hbn.out (okDl_iff.1 Hok2.out.1.1).1 h
          exact hr.time Hbn.out (by rw [Hqt.out]; omega))
        clear hf hf2
        go_wp2_with fail
        refine (has_any tb eb pb N _ f _ HT.out Hf2.out).mono ?_; rintro e w3 ⟨rfl, rfl⟩
        cases hs : (tab1 (bkN net) ch to q 0 f).isSome with
        | false =>
          have Hx2 := Lib.hid (show leX (N : Int) net f to t ch = -1 by rw [Hx.out, ← Htm.out, tmO_some.2 hs]; rfl)
          clear hs
          go_wp2
          go_ret
          exact ⟨ret_int Hx2.out.symm, HB2.out⟩
        | true =>
          obtain ⟨y, e1, e2⟩ := tmO_some.1 hs
          have hbd := Hbd.out y e1
          have Hx2 := Lib.hid (show leX (N : Int) net f to t ch = 10000 - tmO (tab1 (bkN net) ch to q 0 f) by rw [Hx.out, ← Htm.out, e2, if_pos hbd.1])
          have hbd2 : 0 ≤ tmO (tab1 (bkN net) ch to q 0 f) ∧ tmO (tab1 (bkN net) ch to q 0 f) ≤ 10000 := by rw [e2]; exact hbd
          clear hs e1 e2 hbd
          go_wp2_with fail
          refine (time_any tb eb pb N _ f _ HT.out Hf2.out).mono ?_; rintro e w4 ⟨rfl, rfl⟩
          generalize tmO (tab1 (bkN net) ch to q 0 f) = x at *
          have hwr : wrap64 (10000 - x) = 10000 - x := by unfold wrap64; omega
          go_wp2
          go_ret
          exact ⟨ret_int (by first | exact Hx2.out.symm | (rw [Hx2.out])), HB2.out⟩

end Go.Proofs.Ytmkcnoaphoiiaaa
/- The model's PostLeave. -/
namespace Go.Proofs.Ytmkcnoaphoiiaaa
open Go.RowKit

def LvRel (n : Int) (net : List (List Rd)) (f to t ch : Int) (w : World) (bv cv : Value) (wr : World) : Prop :=
  ∃ c : Nat, c ≤ net.length ∧ cv = .int .i64 c ∧ bv = .int .i64 (leTo n net f to t ch c) ∧ Below w.heap.size w wr

set_option maxRecDepth 100000 in
set_option maxHeartbeats 2000000 in
theorem postLeave1_any (n : Int) (v : Value) (net : List (List Rd)) (f to t ch : Int) (w : World) (hv : NtIn w v net) (hm : totN net ≤ 1048577) (wn : W64 n) :
    Calls Try.prog 42 #[.int .i64 n, v, .int .i64 f, .int .i64 to, .int .i64 t, .int .i64 ch] w (Gives (.int .i64 (leX n net f to t ch)) w) := by
  have HC := Lib.hid (l7Ok_any n v net f t ch w hv hm wn)
  have HA := Lib.hid (fun (m : Int) (W : World) (h : Below w.heap.size w W) => postArrive1_any n v net f to m ch W (hv.below h) hm wn)
  obtain ⟨a, cap, rfl, hcap, ha⟩ := hv
  have Ha := Lib.hid ha
  have Hm := Lib.hid hm
  clear hcap ha hm
  cases ho : okT7 n net f t ch with
  | false =>
    rw [ho] at HC
    have Hx := Lib.hid (leX_no (to := to) ho)
    clear ho HA
    go_enter Try.func42, Try.ntmps42
    go_wp2_with fail
    refine HC.out.mono ?_; rintro e w1 ⟨rfl, hb⟩
    clear HC
    go_wp2
    go_ret
    exact ⟨ret_int Hx.out.symm, hb⟩
  | true =>
    rw [ho] at HC
    obtain ⟨o1, ⟨o2, o3⟩, ⟨o4, o5⟩, o6, o7⟩ := okT7_iff.1 ho
    have n1 := (okNet_iff.1 o1).1.1
    have n8 := (okNet_iff.1 o1).1.2.1
    have l6 := (okNet_iff.1 o1).1.2.2
    have O1 := Lib.hid o1
    by_cases hto : 0 ≤ to ∧ to ≤ n - 1
    · have hin : inB to 0 (n - 1) = true := (inB_iff _ _ _).2 hto
      have hq := isTown_iff.2 (show 0 ≤ to ∧ to < n by omega)
      by_cases hft : f = to
      · have Hx := Lib.hid (show leX n net f to t ch = t by unfold leX; rw [if_pos ⟨ho, hq⟩, if_pos hft])
        have hft' : (f == to) = true := by simpa using hft
        clear ho hq hft hto HA o1
        go_enter Try.func42, Try.ntmps42
        go_wp2_with fail
        refine HC.out.mono ?_; rintro e w1 ⟨rfl, hb⟩
        clear HC
        go_wp2_with fail
        refine (l6In_any _ _ _ _).mono ?_; rintro e w' ⟨rfl, rfl⟩
        rw [hin]
        go_wp2
        go_ret
        exact ⟨ret_int Hx.out.symm, hb⟩
      · have Hx := Lib.hid (show leX n net f to t ch = leTo n net f to t ch net.length by unfold leX; rw [if_pos ⟨ho, hq⟩, if_neg hft])
        have hft' : (f == to) = false := by simpa using hft
        have Hbd := Lib.hid (fun k hk => (leTo_inv o1 ⟨o2, o3⟩ hft ⟨o4, o5⟩ (show 0 ≤ to ∧ to < n by omega) (t := t) k hk).2.2)
        clear ho hq hft hto o1
        go_enter Try.func42, Try.ntmps42
        go_wp2_with fail
        refine HC.out.mono ?_; rintro e w1 ⟨rfl, hb⟩
        have HB1 := Lib.hid hb
        clear HC hb
        go_wp2_with fail
        refine (l6In_any _ _ _ _).mono ?_; rintro e w' ⟨rfl, rfl⟩
        rw [hin]
        go_wp2
        go_loopw [13, 14] (fun bv cv wr => LvRel n net f to t ch w bv cv wr) (fun _ cv _ => net.length - (intOf cv).toNat)
        case atStart => exact ⟨0, Nat.zero_le _, rfl, rfl, HB1.out⟩
        case round =>
          obtain ⟨c, hc, rfl, rfl, hbel⟩ := hrel
          have HB2 := Lib.hid hbel
          by_cases hlt : c < net.length
          · obtain ⟨b, o, rfl, hb, hrw⟩ := Ha.out (by intro h; simp [h] at hlt)
            obtain ⟨u, hu, hin2⟩ := hrw c hlt
            have c0 := (hbel.cell (p := ⟨b, o + c, none⟩) hb).trans hu
            have Hc0 := Lib.hid (fun (W : World) (h : Below w.heap.size w W) => (h.cell (p := ⟨b, o + c, none⟩) hb).trans hu)
            have hln : (coach net c).length ≤ 1048576 := by have := totTo_at net hlt; have := Hm.out; unfold totN at this; omega
            have hlt' : (c : Int) < (net.length : Int) := by omega
            obtain ⟨hb1, hb2⟩ := Hbd.out c hc
            have HL := Lib.hid (l2At_any u (coach net c) f wr (hin2.below hbel).roads hln)
            obtain ⟨a2, cap2, rfl, _, ha2⟩ := hin2
            have Ha2 := Lib.hid ha2
            have Hvs := Lib.hid ((okNet_iff.1 O1.out).2 c hlt)
            have Hst := Lib.hid (show leTo n net f to t ch (c + 1) = (match atS (coach net c) f with
              | none => leTo n net f to t ch c
              | some i => if (stp net c i).m ≤ leTo n net f to t ch c then leTo n net f to t ch c else if 0 ≤ paX n net f to (stp net c i).m ch ∧ paX n net f to (stp net c i).m ch ≤ t then (stp net c i).m else leTo n net f to t ch c) from rfl)
            generalize leTo n net f to t ch c = best at *
            clear hu hrw ha2 hbel
            go_wp2_with fail
            refine HL.out.mono ?_; rintro e w' ⟨rfl, rfl⟩
            cases hat : atS (coach net c) f with
            | none =>
              rw [hat] at Hst
              have hav : atV (coach net c) f = -1 := by unfold atV; rw [hat]
              rw [hav]
              clear hat hav
              go_wp2
              exact ⟨⟨c + 1, hlt, by go_num, by rw [Hst.out], HB2.out⟩, by simp [intOf]; omega⟩
            | some i =>
              rw [hat] at Hst
              have hav : atV (coach net c) f = (i : Int) := by unfold atV; rw [hat]
              rw [hav]
              obtain ⟨hi, _⟩ := atS_in hat
              obtain ⟨b3, ob3, rfl, hb3, hrow3⟩ := Ha2.out (by intro h; simp [h] at hi)
              have Hd2 := Lib.hid (fun (W : World) (h : Below w.heap.size w W) => ((hrow3.below h hb3) i hi).2.2)
              have hva := validS_at Hvs.out hi
              have hm9 : 0 ≤ ((coach net c).getD i rd0).m ∧ ((coach net c).getD i rd0).m ≤ 10000 := by omega
              have hs : stp net c i = (coach net c).getD i rd0 := rfl
              dsimp only at Hst
              rw [hs] at Hst
              have hd0 : ∀ (W : World), Below w.heap.size w W → W.cell? ⟨b3, ob3 + i * 3 + 2, none⟩ = some (.int .i64 ((coach net c).getD i rd0).m) := fun W h => Hd2.out W h
              have HD := Lib.hid hd0
              have hi' : (i : Int) < ((coach net c).length : Int) := by omega
              clear hd0 hat hav hs hva Hd2 hrow3
              generalize ((coach net c).getD i rd0).m = m at *
              have d2 := HD.out _ HB2.out
              by_cases hle : m ≤ best
              · rw [if_pos hle] at Hst
                have hdd : decide (m ≤ best) = true := decide_eq_true hle
                clear hle
                go_wp2
                exact ⟨⟨c + 1, hlt, by go_num, by rw [Hst.out], HB2.out⟩, by simp [intOf]; omega⟩
              · rw [if_neg hle] at Hst
                have hdd : decide (m ≤ best) = false := decide_eq_false hle
                clear hle
                go_wp2_with fail
                refine (HA.out m _ HB2.out).mono ?_; rintro e w3 ⟨rfl, hb3'⟩
                have HB3 := Lib.hid (HB2.out.trans (hb3'.mono HB2.out.size))
                have c0' := Hc0.out _ HB3.out
                have d2' := HD.out _ HB3.out
                clear c0 d2 hb3' hdd
                generalize paX n net f to m ch = x at *
                by_cases hx0 : 0 ≤ x
                · by_cases hx1 : x ≤ t
                  · rw [if_pos ⟨hx0, hx1⟩] at Hst
                    go_wp2
                    exact ⟨⟨c + 1, hlt, by go_num, by rw [Hst.out], HB3.out⟩, by simp [intOf]; omega⟩
                  · rw [if_neg (fun h => hx1 h.2)] at Hst
                    have hd : decide (x ≤ t) = false := decide_eq_false hx1
                    clear c0' d2'
                    go_wp2
                    exact ⟨⟨c + 1, hlt, by go_num, by rw [Hst.out], HB3.out⟩, by simp [intOf]; omega⟩
                · rw [if_neg (fun h => hx0 h.1)] at Hst
                  clear c0' d2'
                  go_wp2
                  exact ⟨⟨c + 1, hlt, by go_num, by rw [Hst.out], HB3.out⟩, by simp [intOf]; omega⟩
          · obtain rfl : c = net.length := by omega
            clear hbel
            go_wp2
            go_ret
            exact ⟨ret_int (by rw [Hx.out]), HB2.out⟩
    · have hin : inB to 0 (n - 1) = false := Bool.eq_false_iff.2 (fun h => hto ((inB_iff _ _ _).1 h))
      have Hx := Lib.hid (leX_no2 (net := net) (f := f) (t := t) (ch := ch) (n := n) (to := to) (Bool.eq_false_iff.2 (fun h => hto (by have := isTown_iff.1 h; omega))))
      clear hto ho HA o1
      go_enter Try.func42, Try.ntmps42
      go_wp2_with fail
      refine HC.out.mono ?_; rintro e w1 ⟨rfl, hb⟩
      clear HC
      go_wp2_with fail
      refine (l6In_any _ _ _ _).mono ?_; rintro e w' ⟨rfl, rfl⟩
      rw [hin]
      go_wp2
      go_ret
      exact ⟨ret_int Hx.out.symm, hb⟩

end Go.Proofs.Ytmkcnoaphoiiaaa
/- How an argument that is a slice of ints is opened. -/
namespace Go.Proofs.Ytmkcnoaphoiiaaa
open Go.ChangeShapes Go.WideShapes Go.ChangeAt Go.RowKit Go.Deep

theorem open_intS {H : Type} {enc : TypeId × Value → H} {w : World} {base : Nat} {spare : Nat → Bool} {held : Bool} {a : Option Addr} {len cap : Nat} {d : DataW H} {p : List MemPlace}
    (h : DataW.Trod enc Try.prog w base spare held 38 (.slice a len cap) d p) (hfull : spare = fun _ => true) : ∃ l : List Int, IntsIn w (.slice a len cap) l ∧ IntWf l ∧ l.length = len ∧ l.length ≤ maxLen := by
  subst hfull
  obtain ⟨fuel, hf⟩ := h
  rcases open_ints Try.underlying38 Try.underlying3 (by kernel_rfl) hf with ⟨hcs, _⟩ | ⟨x, l, c, zs, hcs, _, hl, hm, hz, _, hcell, hwz⟩
  · simp [Value.cells] at hcs
    obtain ⟨rfl, rfl, rfl⟩ := hcs
    exact ⟨[], ⟨_, _, rfl, by simp, fun h => absurd rfl h⟩, (fun r hr => by cases hr), rfl, by simp⟩
  · simp [Value.cells] at hcs
    obtain ⟨rfl, rfl, rfl⟩ := hcs
    have hz' : zs.length = cap := by simpa using hz
    have hll : (zs.take len).length = len := by simp; omega
    refine ⟨zs.take len, ⟨some x, cap, by rw [hll], by rw [hll]; exact hl, fun hne => ?_⟩, fun y hy => wfI (hwz y (List.mem_of_mem_take hy)), hll, by rw [hll]; omega⟩
    have hpos : 0 < (zs.take len).length := by
      cases h : zs.take len with
      | nil => exact absurd h hne
      | cons => simp
    rw [hll] at hpos
    obtain ⟨b, o, sp⟩ := x
    have hq0 := hcell 0 (by omega)
    have hsp : sp = none := by simpa [Addr.add] using World.cell?_spot hq0
    subst hsp
    refine ⟨b, o, rfl, by have := World.block_lt_of_cell? _ _ hq0; simpa [Addr.add] using this, fun i hi => ?_⟩
    rw [hll] at hi
    have := hcell i (by omega)
    rw [addr_add] at this
    rw [this]
    simp [List.getD, hi]

end Go.Proofs.Ytmkcnoaphoiiaaa
