/- The model's l7Table. -/
import Derived.Test.YtmkcnoaphoiiaaaM3
import Derived.Test.YtmkcnoaphoiiaaaJS
import Derived.Test.YtmkcnoaphoiiaaaICL
namespace Go.Proofs.Ytmkcnoaphoiiaaa
open Go.RowKit

theorem upX_ok {N : Nat} {T : List Int} {s : Rd} (h : TbOk N T) (ha : 0 ≤ s.a ∧ s.a < N) (hb : 0 ≤ s.b ∧ s.b ≤ 10000) : TbOk N (upX T s) := by
  refine ⟨by rw [upX_len]; exact h.1, fun i hi => ?_⟩
  unfold upX
  split
  · rw [fT_set ha.1 (by rw [h.1]; exact ha.2) (by omega)]
    split
    · omega
    · exact h.2 i hi
  · exact h.2 i hi

def T1Rel (N : Nat) (w : World) (v iv : Value) (wr : World) : Prop := ∃ (k : Nat) (sv : Value), k ≤ N ∧ iv = .int .i64 k ∧ sv = v ∧ RowI wr w.heap.size sv (List.replicate k (-1)) ∧ Below w.heap.size w wr
def T2Rel (N : Nat) (ch f t0 : Int) (net : List (List Rd)) (g : Nat) (w : World) (iv : Value) (wr : World) : Prop := ∃ r : Nat, r ≤ N + 1 ∧ iv = .int .i64 r ∧ TabAt wr g N (itA ch f net (iniX N f t0) r) ∧ Below w.heap.size w wr
def T3Rel (N : Nat) (ch f : Int) (net : List (List Rd)) (T : List Int) (g : Nat) (w : World) (iv : Value) (wr : World) : Prop := ∃ c : Nat, c ≤ net.length ∧ iv = .int .i64 c ∧ TabAt wr g N ((net.take c).foldl (cchG id ch f) T) ∧ Below w.heap.size w wr
def T4Rel (N : Nat) (ch f : Int) (l : List Rd) (T : List Int) (g : Nat) (w : World) (ov iv : Value) (wr : World) : Prop := ∃ (i : Nat) (Ti : List Int) (on : Bool), i ≤ l.length ∧ iv = .int .i64 i ∧ ov = .bool on ∧ (l.take i).foldl (stG id ch f) (T, false) = (Ti, on) ∧ TabAt wr g N Ti ∧ Below w.heap.size w wr

theorem stG_off (rt : List Int → List Int) (ch f : Int) (T : List Int) (s : Rd) : stG rt ch f (T, false) s = (T, rdyX (rt T) ch f s) := rfl
theorem stG_on (rt : List Int → List Int) (ch f : Int) (T : List Int) (s : Rd) : stG rt ch f (T, true) s = (upX T s, true) := rfl

def L7Out (N : Nat) (T : List Int) (w : World) (e : Ending) (w' : World) : Prop :=
  ∃ g cap, e = .returned (.slice (some ⟨g, 0, none⟩) N cap) ∧ N ≤ cap ∧ w.heap.size ≤ g ∧ TabAt w' g N T ∧ Below w.heap.size w w'

set_option maxRecDepth 100000 in
set_option maxHeartbeats 4000000 in
theorem l7Table_any (N : Nat) (v : Value) (net : List (List Rd)) (f t0 ch : Int) (w : World) (hv : NtIn w v net) (hm : totN net ≤ 1048577) (ho : okT7 (N : Int) net f t0 ch = true) :
    Calls Try.prog 65 #[.int .i64 (N : Int), v, .int .i64 f, .int .i64 t0, .int .i64 ch] w (L7Out N (tabA (N : Int) net ch f t0) w) := by
  obtain ⟨o1, ⟨o2, o3⟩, ⟨o4, o5⟩, o6, o7⟩ := okT7_iff.1 ho
  have hn8 := (okNet_iff.1 o1).1.2.1
  have hN : N ≤ 8 := by omega
  have O1 := Lib.hid o1
  have Hfin := Lib.hid (show tabA (N : Int) net ch f t0 = itA ch f net (iniX N f t0) (N + 1) from rfl)
  obtain ⟨i0, hi, hz0, hz1, hz2⟩ := info_parts Try.info3
  obtain ⟨a, cap, rfl, hcap, ha⟩ := hv
  have hl1 : net.length ≤ 6 := (okNet_iff.1 o1).1.2.2
  have Ha := Lib.hid ha
  have Hm := Lib.hid hm
  obtain ⟨F, rfl⟩ : ∃ F : Nat, f = (F : Int) := ⟨f.toNat, by omega⟩
  have hF : F < N := by omega
  have hR0 := Lib.hid (RowI.made w w.heap.size (Nat.le_refl _))
  have hB0 := Lib.hid ((Below.refl w.heap.size w).alloc (Nat.le_refl _) (.cells #[] 3))
  clear ho hcap ha hm o1
  go_enter Try.func65, Try.ntmps65
  go_wp2
  go_loopw [11, 12] (fun v iv wr => T1Rel N w v iv wr) (fun _ iv _ => N - (intOf iv).toNat)
  case atStart => exact ⟨0, _, Nat.zero_le _, rfl, rfl, hR0.out, hB0.out⟩
  case round =>
    obtain ⟨k, sv, hk, rfl, rfl, hrow, hbel⟩ := hrel
    have HB := Lib.hid hbel
    have HR := Lib.hid hrow
    by_cases hlt : k < N
    · have hrow' := hrow
      unfold RowI at hrow'
      rw [List.length_replicate] at hrow'
      obtain ⟨en, hen⟩ : ∃ en, en = (List.replicate k (-1 : Int)).map (Value.int .i64) := ⟨_, rfl⟩
      rw [← hen] at hrow'
      have Hen := Lib.hid hen
      have hsz := hbel.size
      have hlt' : (k : Int) < (N : Int) := by omega
      clear hen hrow hbel
      go_wp2_with (at_builtin; refine wpList_append_own _ rfl _ _ 38 rfl w.heap.size 3 i0 _ 1 8 Try.underlying38 hi hz0 hz1 hz2 rfl (by decide) _ k en rfl (World.ownsRow.alloc hrow' _) ⟨wr.heap.size, 0, none⟩ 1 1 [.int .i64 (-1)] rfl rfl (one_int wr (-1)) (by simp [Value.oneCell']) (by simp only [maxLen]; omega) (by omega) (by simp; omega) ?_; intro v' w8 hown8 hgrow8 _; have HO8 := Lib.hid hown8; have HB8 := Lib.hid ((HB.out.alloc HB.out.size _).grown hgrow8 (by simp; omega) (fun j hj => (hrow'.lt j hj).1)); clear hown8 hgrow8 hrow')
      refine ⟨⟨k + 1, v', hlt, by go_num, rfl, ?_, HB8.out⟩, by simp [intOf]; omega⟩
      rw [List.replicate_succ']
      refine RowI.snoc ?_
      rw [← Hen.out, List.length_replicate]
      exact HO8.out
    · obtain rfl : k = N := by omega
      obtain ⟨g, cp, rfl, hcp, hat, hroom, hg, hgl⟩ := hrow.open2 (by simp; omega)
      rw [List.length_replicate] at hcp hroom ⊢
      have hTab : TabAt wr g k (List.replicate k (-1)) := ⟨⟨by simp, fun i hi => by rw [fT_at]; simp [List.getD, hi]⟩, hgl, hat, hroom⟩
      have hTab2 := hTab.set hF (x := t0) (by omega) o7
      have c0 := hTab.cell hF
      have f0 := hroom.2 F
      have HT2 := Lib.hid hTab2
      have HB2 := Lib.hid (hbel.setCell (p := ⟨g, F, none⟩) hg (.int .i64 t0))
      have Hg := Lib.hid (And.intro hg hcp)
      have hF' : (F : Int) < (k : Int) := by omega
      have hini : (List.replicate k (-1 : Int)).set F t0 = iniX k (F : Int) t0 := rfl
      rw [hini] at HT2
      clear hrow hbel hat hroom hTab hTab2 hini HR hlt hk hgl
      go_wp2
      generalize wr.setCell ⟨g, F, none⟩ (.int .i64 t0) = w2 at *
      clear c0 f0
      go_loopw [13] (fun iv wr => T2Rel k ch (F : Int) t0 net g w iv wr) (fun iv _ => k + 1 - (intOf iv).toNat)
      case atStart => exact ⟨0, Nat.zero_le _, rfl, HT2.out, HB2.out⟩
      case round =>
        obtain ⟨r, hr, rfl, htab, hbel⟩ := hrel
        have HT := Lib.hid htab
        have HB3 := Lib.hid hbel
        clear htab hbel
        by_cases hlt : r ≤ k
        · have hlt' : (r : Int) ≤ (k : Int) := by omega
          have Hitr := Lib.hid (show itA ch (F : Int) net (iniX k (F : Int) t0) (r + 1) = net.foldl (cchG id ch (F : Int)) (itA ch (F : Int) net (iniX k (F : Int) t0) r) from rfl)
          generalize itA ch (F : Int) net (iniX k (F : Int) t0) r = T at *
          go_wp2
          go_loopw [14] (fun iv wr => T3Rel k ch (F : Int) net T g w iv wr) (fun iv _ => net.length - (intOf iv).toNat)
          case atStart => exact ⟨0, Nat.zero_le _, rfl, HT.out, HB3.out⟩
          case round =>
            obtain ⟨c, hc, rfl, htab, hbel⟩ := hrel
            have HT5 := Lib.hid htab
            have HB5 := Lib.hid hbel
            clear htab hbel
            by_cases hltc : c < net.length
            · obtain ⟨b, o, rfl, hb, hrw⟩ := Ha.out (by intro h; simp [h] at hltc)
              obtain ⟨u, hu, hin⟩ := hrw c hltc
              have Hu := Lib.hid (fun (W : World) (h : Below w.heap.size w W) => (h.cell (p := ⟨b, o + c, none⟩) hb).trans hu)
              obtain ⟨a2, cap2, rfl, _, ha2⟩ := hin
              have Ha2 := Lib.hid ha2
              have Hcc := Lib.hid (foldl_take (cchG id ch (F : Int)) T net c [] hltc)
              have hvs := (okNet_iff.1 O1.out).2 c hltc
              have l8 : (coach net c).length ≤ 8 := (validS_iff.1 hvs).1.2.2.2
              have Hvs := Lib.hid hvs
              have hltc' : (c : Int) < (net.length : Int) := by omega
              clear hrw hu ha2 hvs
              generalize (net.take c).foldl (cchG id ch (F : Int)) T = Tc at *
              have Hcch := Lib.hid (show cchG id ch (F : Int) Tc (net.getD c []) = ((coach net c).foldl (stG id ch (F : Int)) (Tc, false)).1 from rfl)
              go_wp2
              go_loopw [15, 16] (fun ov iv wr => T4Rel k ch (F : Int) (coach net c) Tc g w ov iv wr) (fun _ iv _ => (coach net c).length - (intOf iv).toNat)
              case atStart => exact ⟨0, Tc, false, Nat.zero_le _, rfl, rfl, rfl, HT5.out, HB5.out⟩
              case round =>
                obtain ⟨i, Ti, on, hi9, rfl, rfl, hfold, htab, hbel⟩ := hrel
                have c1 := Hu.out wr hbel
                have HT7 := Lib.hid htab
                have HB7 := Lib.hid hbel
                have Hfold := Lib.hid hfold
                clear hfold
                by_cases hlti : i < (coach net c).length
                · obtain ⟨b3, ob3, rfl, hb3, hrow3⟩ := Ha2.out (by intro h; simp [h] at hlti)
                  obtain ⟨d0, d1, d2⟩ := (hrow3.below hbel hb3) i hlti
                  have hva := validS_at Hvs.out hlti
                  have hvn := (fitsS_iff _ _).1 ((okS_iff _ _ _).1 ((validS_iff.1 Hvs.out).2 i hlti)).1
                  have Hst := Lib.hid (foldl_take (stG id ch (F : Int)) (Tc, false) (coach net c) i rd0 hlti)
                  rw [Hfold.out] at Hst
                  obtain ⟨⟨xa, xb, xm⟩, hxr⟩ : ∃ r, (coach net c).getD i tz0 = r := ⟨_, rfl⟩
                  have hxr2 : (coach net c).getD i rd0 = ⟨xa, xb, xm⟩ := hxr
                  rw [hxr] at d0 d1 d2
                  rw [hxr2] at hva hvn Hst
                  simp only at d0 d1 d2 hva hvn
                  obtain ⟨A, rfl⟩ : ∃ A : Nat, xa = (A : Int) := ⟨xa.toNat, by omega⟩
                  have hA : A < k := by omega
                  have hA' : (A : Int) < (k : Int) := by omega
                  have hlti' : (i : Int) < ((coach net c).length : Int) := by omega
                  have hbA : Below wr.heap.size wr (wr.alloc (.cells #[.int .i64 (A : Int), .int .i64 xb, .int .i64 xm] 77)) := (Below.refl _ _).alloc (Nat.le_refl _) _
                  have htab2 := htab.below hbA
                  have hl := Whole.made wr 77 #[.int .i64 (A : Int), .int .i64 xb, .int .i64 xm]
                  have e0 : (wr.alloc (.cells #[.int .i64 (A : Int), .int .i64 xb, .int .i64 xm] 77)).cell? ⟨wr.heap.size, 0, none⟩ = some (.int .i64 (A : Int)) := hl.cell rfl
                  have e1 : (wr.alloc (.cells #[.int .i64 (A : Int), .int .i64 xb, .int .i64 xm] 77)).cell? ⟨wr.heap.size, 1, none⟩ = some (.int .i64 xb) := hl.cell rfl
                  have e2 : (wr.alloc (.cells #[.int .i64 (A : Int), .int .i64 xb, .int .i64 xm] 77)).cell? ⟨wr.heap.size, 2, none⟩ = some (.int .i64 xm) := hl.cell rfl
                  have ct := htab2.cell hA
                  have ft := htab2.room.2 A
                  have hng : g ≠ wr.heap.size := by have := htab.lt; omega
                  have HT8 := Lib.hid htab2
                  have HB8 := Lib.hid (hbel.trans (hbA.mono hbel.size))
                  have HL := Lib.hid hl
                  have hx0 := (htab.ok.2 A hA).1
                  have hx1 := (htab.ok.2 A hA).2
                  have hbb := And.intro hva.2.2.1 (show xb ≤ 10000 by omega)
                  clear hva hvn hrow3 htab hbel hbA htab2 hl hxr hxr2
                  have HT9 := Lib.hid (fun (W : World) (h : Below (wr.alloc (.cells #[.int .i64 (A : Int), .int .i64 xb, .int .i64 xm] 77)).heap.size (wr.alloc (.cells #[.int .i64 (A : Int), .int .i64 xb, .int .i64 xm] 77)) W) => And.intro (HT8.out.below h) (HB8.out.trans (h.mono HB8.out.size)))
                  cases on with
                  | false =>
                    rw [stG_off] at Hst
                    go_wp2
                    go_quiet (fail)
                    go_wp2_with fail
                    refine (l7Ready_any g k cp Ti (F : Int) (A : Int) xb xm ch _ (HT9.out _ (by first | exact (Below.refl _ _).drewN _ | exact ((Below.refl _ _).drewN _).drewN _ | exact (Below.refl _ _).drew | exact Below.refl _ _)).1 ⟨Int.natCast_nonneg A, hA'⟩ o2 o3).mono ?_; rintro e w9 ⟨rfl, hb9⟩
                    have HT10 := Lib.hid (TabAt.below (HT9.out _ (by first | exact (Below.refl _ _).drewN _ | exact ((Below.refl _ _).drewN _).drewN _ | exact (Below.refl _ _).drew | exact Below.refl _ _)).1 hb9)
                    have hB10 := Below.trans (HT9.out _ (by first | exact (Below.refl _ _).drewN _ | exact ((Below.refl _ _).drewN _).drewN _ | exact (Below.refl _ _).drew | exact Below.refl _ _)).2 (Below.mono hb9 (HT9.out _ (by first | exact (Below.refl _ _).drewN _ | exact ((Below.refl _ _).drewN _).drewN _ | exact (Below.refl _ _).drew | exact Below.refl _ _)).2.size)
                    have HB10 := Lib.hid hB10
                    clear hB10
                    clear hb9 ct ft e0 e1 e2 d0 d1 d2
                    go_wp2
                    exact ⟨⟨i + 1, Ti, _, hlti, by go_num, rfl, by rw [Hst.out]; rfl, HT10.out, HB10.out⟩, by simp [intOf]; omega⟩
                  | true =>
                    rw [stG_on] at Hst
                    have Hup := Lib.hid (show upX Ti ⟨(A : Int), xb, xm⟩ = if fT Ti (A : Int) < 0 ∨ xb < fT Ti (A : Int) then Ti.set A xb else Ti from rfl)
                    generalize fT Ti (A : Int) = x at *
                    by_cases h1 : x < 0
                    · have h1' : decide (x < 0) = true := decide_eq_true h1
                      rw [if_pos (.inl h1)] at Hup
                      clear hx1
                      go_wp2
                      go_quiet (fail)
                      go_wp2
                      exact ⟨⟨i + 1, Ti.set A xb, true, hlti, by go_num, rfl, by rw [Hst.out, Hup.out], TabAt.set (HT9.out _ (by first | exact (Below.refl _ _).drewN _ | exact ((Below.refl _ _).drewN _).drewN _ | exact (Below.refl _ _).drew | exact Below.refl _ _)).1 hA (x := xb) (by omega) hbb.2, Below.setCell (HT9.out _ (by first | exact (Below.refl _ _).drewN _ | exact ((Below.refl _ _).drewN _).drewN _ | exact (Below.refl _ _).drew | exact Below.refl _ _)).2 (p := ⟨g, A, none⟩) Hg.out.1 _⟩, by simp [intOf]; omega⟩
                    · by_cases h2 : xb < x
                      · have h1' : decide (x < 0) = false := decide_eq_false h1
                        have h2' : decide (xb < x) = true := decide_eq_true h2
                        rw [if_pos (.inr h2)] at Hup
                        go_wp2
                        go_quiet (fail)
                        go_wp2
                        exact ⟨⟨i + 1, Ti.set A xb, true, hlti, by go_num, rfl, by rw [Hst.out, Hup.out], TabAt.set (HT9.out _ (by first | exact (Below.refl _ _).drewN _ | exact ((Below.refl _ _).drewN _).drewN _ | exact (Below.refl _ _).drew | exact Below.refl _ _)).1 hA (x := xb) (by omega) hbb.2, Below.setCell (HT9.out _ (by first | exact (Below.refl _ _).drewN _ | exact ((Below.refl _ _).drewN _).drewN _ | exact (Below.refl _ _).drew | exact Below.refl _ _)).2 (p := ⟨g, A, none⟩) Hg.out.1 _⟩, by simp [intOf]; omega⟩
                      · have h1' : decide (x < 0) = false := decide_eq_false h1
                        have h2' : decide (xb < x) = false := decide_eq_false h2
                        rw [if_neg (by omega)] at Hup
                        go_wp2
                        go_quiet (fail)
                        go_wp2
                        exact ⟨⟨i + 1, Ti, true, hlti, by go_num, rfl, by rw [Hst.out, Hup.out], (HT9.out _ (by first | exact (Below.refl _ _).drewN _ | exact ((Below.refl _ _).drewN _).drewN _ | exact (Below.refl _ _).drew | exact Below.refl _ _)).1, (HT9.out _ (by first | exact (Below.refl _ _).drewN _ | exact ((Below.refl _ _).drewN _).drewN _ | exact (Below.refl _ _).drew | exact Below.refl _ _)).2⟩, by simp [intOf]; omega⟩
                · obtain rfl : i = (coach net c).length := by omega
                  have hfo := Hfold.out
                  rw [List.take_length] at hfo
                  have Hn := Lib.hid (show (net.take (c + 1)).foldl (cchG id ch (F : Int)) T = Ti by rw [Hcc.out, Hcch.out, hfo])
                  clear hfo hlti hi9 htab hbel
                  go_wp2
                  exact ⟨⟨c + 1, hltc, by go_num, by rw [Hn.out]; exact HT7.out, HB7.out⟩, by simp [intOf]; omega⟩
            · obtain rfl : c = net.length := by omega
              rw [List.take_length] at HT5
              have Hn := Lib.hid (show TabAt wr g k (itA ch (F : Int) net (iniX k (F : Int) t0) (r + 1)) by rw [Hitr.out]; exact HT5.out)
              go_wp2
              exact ⟨⟨r + 1, by omega, by go_num, Hn.out, HB5.out⟩, by simp [intOf]; omega⟩
        · obtain rfl : r = k + 1 := by omega
          go_wp2
          go_ret
          exact ⟨g, cp, rfl, Hg.out.2, Hg.out.1, by rw [Hfin.out]; exact HT.out, HB3.out⟩

end Go.Proofs.Ytmkcnoaphoiiaaa
