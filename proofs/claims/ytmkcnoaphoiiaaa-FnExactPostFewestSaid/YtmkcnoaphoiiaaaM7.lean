/- The model's l7Round, PostFewest. -/
import Derived.Test.YtmkcnoaphoiiaaaM5
namespace Go.Proofs.Ytmkcnoaphoiiaaa
open Go.RowKit
set_option linter.unusedVariables false
set_option linter.unusedSimpArgs false

def T3RelB (N : Nat) (ch f : Int) (net : List (List Rd)) (To : List Int) (g : Nat) (w : World) (iv : Value) (wr : World) : Prop := ∃ c : Nat, c ≤ net.length ∧ iv = .int .i64 c ∧ TabAt wr g N ((net.take c).foldl (cchG (fun _ => To) ch f) To) ∧ Below w.heap.size w wr
def T4RelB (N : Nat) (ch f : Int) (To : List Int) (l : List Rd) (T : List Int) (g : Nat) (w : World) (ov iv : Value) (wr : World) : Prop := ∃ (i : Nat) (Ti : List Int) (on : Bool), i ≤ l.length ∧ iv = .int .i64 i ∧ ov = .bool on ∧ (l.take i).foldl (stG (fun _ => To) ch f) (T, false) = (Ti, on) ∧ TabAt wr g N Ti ∧ Below w.heap.size w wr

set_option maxRecDepth 100000 in
set_option maxHeartbeats 4000000 in
theorem l7Round_any (k : Nat) (v : Value) (net : List (List Rd)) (f ch : Int) (g1 cap1 : Nat) (To : List Int) (w : World) (hv : NtIn w v net) (hm : totN net ≤ 1048577) (o1 : okNet (k : Int) net = true) (o2 : 0 ≤ ch) (o3 : ch ≤ 300) (o4 : 0 ≤ f) (o5 : f < k) (hold : TabAt w g1 k To) :
    Calls Try.prog 76 #[v, .slice (some ⟨g1, 0, none⟩) k cap1, .int .i64 f, .int .i64 ch] w (L7Out k (rndB ch f net To) w) := by
  have hn8 := (okNet_iff.1 o1).1.2.1
  have hN : k ≤ 8 := by omega
  have O1 := Lib.hid o1
  have Hfin := Lib.hid (show rndB ch f net To = net.foldl (cchG (fun _ => To) ch f) To from rfl)
  obtain ⟨i0, hi, hz0, hz1, hz2⟩ := info_parts Try.info3
  obtain ⟨a, cap, rfl, hcap, ha⟩ := hv
  have hl1 : net.length ≤ 6 := (okNet_iff.1 o1).1.2.2
  have Ha := Lib.hid ha
  have Hm := Lib.hid hm
  obtain ⟨F, rfl⟩ : ∃ F : Nat, f = (F : Int) := ⟨f.toNat, by omega⟩
  have hb0 : Below w.heap.size w (w.alloc (.cells #[] 3)) := (Below.refl _ _).alloc (Nat.le_refl _) _
  have hown0 := RowI.made w w.heap.size (Nat.le_refl _)
  unfold RowI at hown0
  have hnews := (hold.below hb0).at_.news
  have hTl := hold.ok.1
  have HTl := Lib.hid hTl
  have Hok := Lib.hid hold.ok
  have HO := Lib.hid (fun (W : World) (h : Below w.heap.size w W) => hold.below h)
  have hml : (To.map (Value.int .i64)).length = k * 1 := by simp [hTl]
  have Hb0 := Lib.hid hb0
  clear hcap ha hm o1 hold hTl hb0
  go_enter Try.func76, Try.ntmps76
  go_wp2_with (at_builtin; refine wpList_append_own _ rfl _ _ 38 rfl w.heap.size 3 i0 _ 1 8 Try.underlying38 hi hz0 hz1 hz2 rfl (by decide) _ _ [] rfl hown0 ⟨g1, 0, none⟩ k cap1 (To.map (Value.int .i64)) rfl hml hnews (by intro u hu; obtain ⟨x, _, rfl⟩ := List.mem_map.1 hu; rfl) (by unfold maxLen; simp; omega) (by simp; omega) (by simp) ?_; intro v' w2 hown2 hgrow2 _; have HB2 := Lib.hid (Hb0.out.grown hgrow2 (by simp) (fun j hj => (hown0.lt j hj).1)); have HR2 := Lib.hid (show RowI w2 w.heap.size v' To from (by unfold RowI; rw [HTl.out]; simpa using hown2)); clear hown2 hgrow2 hnews hown0; obtain ⟨g, cp, rfl, hcp, hat, hroom, hg, hgl⟩ := HR2.out.open2 (by rw [HTl.out]; omega); rw [HTl.out]; rw [HTl.out] at hcp hroom; have HT2 := Lib.hid (show TabAt w2 g k To from ⟨Hok.out, hgl, hat, hroom⟩); have Hg := Lib.hid (And.intro hg hcp); clear hat hroom hg hcp hgl hml)
  go_loopw [10] (fun iv wr => T3RelB k ch (F : Int) net To g w iv wr) (fun iv _ => net.length - (intOf iv).toNat)
  case atStart => exact ⟨0, Nat.zero_le _, rfl, HT2.out, HB2.out⟩
  case round =>
    obtain ⟨c, hc, rfl, htab, hbel⟩ := hrel
    have HT5 := Lib.hid htab
    have HB5 := Lib.hid hbel
    clear htab hbel
    by_cases hltc : c < net.length
    · obtain ⟨b, o, rfl, hb, hrw⟩ := Ha.out (by intro h; simp [h] at hltc)
      obtain ⟨u, hu, hin⟩ := hrw c hltc
      have Hu := Lib.hid (fun (W : World) (h : Below w.heap.size w W) => (h.cell (p := ⟨b, o + c, none⟩) hb).trans hu)
      obtain ⟨a2, cap2, rfl, _, ha2⟩ := hin
      have Ha2 := Lib.hid ha2
      have Hcc := Lib.hid (foldl_take (cchG (fun _ => To) ch (F : Int)) To net c [] hltc)
      have hvs := (okNet_iff.1 O1.out).2 c hltc
      have l8 : (coach net c).length ≤ 8 := (validS_iff.1 hvs).1.2.2.2
      have Hvs := Lib.hid hvs
      have hltc' : (c : Int) < (net.length : Int) := by omega
      clear hrw hu ha2 hvs
      generalize (net.take c).foldl (cchG (fun _ => To) ch (F : Int)) To = Tc at *
      have Hcch := Lib.hid (show cchG (fun _ => To) ch (F : Int) Tc (net.getD c []) = ((coach net c).foldl (stG (fun _ => To) ch (F : Int)) (Tc, false)).1 from rfl)
      go_wp2
      go_loopw [11, 12] (fun ov iv wr => T4RelB k ch (F : Int) To (coach net c) Tc g w ov iv wr) (fun _ iv _ => (coach net c).length - (intOf iv).toNat)
      case atStart => exact ⟨0, Tc, false, Nat.zero_le _, rfl, rfl, rfl, HT5.out, HB5.out⟩
      case round =>
        obtain ⟨i, Ti, on, hi9, rfl, rfl, hfold, htab, hbel⟩ := hrel
        have c1 := Hu.out wr hbel
        have HT7 := Lib.hid htab
        have HB7 := Lib.hid hbel
        have Hfold := Lib.hid hfold
        clear hfold
        by_cases hlti : i < (coach net c).length
        · obtain ⟨b3, ob3, rfl, hb3, hrow3⟩ := Ha2.out (by intro h; simp [h] at hlti)
          obtain ⟨d0, d1, d2⟩ := (hrow3.below hbel hb3) i hlti
          have hva := validS_at Hvs.out hlti
          have hvn := (fitsS_iff _ _).1 ((okS_iff _ _ _).1 ((validS_iff.1 Hvs.out).2 i hlti)).1
          have Hst := Lib.hid (foldl_take (stG (fun _ => To) ch (F : Int)) (Tc, false) (coach net c) i rd0 hlti)
          rw [Hfold.out] at Hst
          obtain ⟨⟨xa, xb, xm⟩, hxr⟩ : ∃ r, (coach net c).getD i tz0 = r := ⟨_, rfl⟩
          have hxr2 : (coach net c).getD i rd0 = ⟨xa, xb, xm⟩ := hxr
          rw [hxr] at d0 d1 d2
          rw [hxr2] at hva hvn Hst
          simp only at d0 d1 d2 hva hvn
          obtain ⟨A, rfl⟩ : ∃ A : Nat, xa = (A : Int) := ⟨xa.toNat, by omega⟩
          have hA : A < k := by omega
          have hA' : (A : Int) < (k : Int) := by omega
          have hlti' : (i : Int) < ((coach net c).length : Int) := by omega
          have hbA : Below wr.heap.size wr (wr.alloc (.cells #[.int .i64 (A : Int), .int .i64 xb, .int .i64 xm] 77)) := (Below.refl _ _).alloc (Nat.le_refl _) _
          have htab2 := htab.below hbA
          have hl := Whole.made wr 77 #[.int .i64 (A : Int), .int .i64 xb, .int .i64 xm]
          have e0 : (wr.alloc (.cells #[.int .i64 (A : Int), .int .i64 xb, .int .i64 xm] 77)).cell? ⟨wr.heap.size, 0, none⟩ = some (.int .i64 (A : Int)) := hl.cell rfl
          have e1 : (wr.alloc (.cells #[.int .i64 (A : Int), .int .i64 xb, .int .i64 xm] 77)).cell? ⟨wr.heap.size, 1, none⟩ = some (.int .i64 xb) := hl.cell rfl
          have e2 : (wr.alloc (.cells #[.int .i64 (A : Int), .int .i64 xb, .int .i64 xm] 77)).cell? ⟨wr.heap.size, 2, none⟩ = some (.int .i64 xm) := hl.cell rfl
          have ct := htab2.cell hA
          have ft := htab2.room.2 A
          have hng : g ≠ wr.heap.size := by have := htab.lt; omega
          have HT8 := Lib.hid htab2
          have HB8 := Lib.hid (hbel.trans (hbA.mono hbel.size))
          have HL := Lib.hid hl
          have hx0 := (htab.ok.2 A hA).1
          have hx1 := (htab.ok.2 A hA).2
          have hbb := And.intro hva.2.2.1 (show xb ≤ 10000 by omega)
          clear hva hvn hrow3 htab hbel hbA htab2 hl hxr hxr2
          have HT9 := Lib.hid (fun (W : World) (h : Below (wr.alloc (.cells #[.int .i64 (A : Int), .int .i64 xb, .int .i64 xm] 77)).heap.size (wr.alloc (.cells #[.int .i64 (A : Int), .int .i64 xb, .int .i64 xm] 77)) W) => And.intro (HT8.out.below h) (HB8.out.trans (h.mono HB8.out.size)))
          cases on with
          | false =>
            rw [stG_off] at Hst
            go_wp2
            go_quiet (fail)
            go_wp2_with fail
            refine (l7Ready_any g1 k cap1 To (F : Int) (A : Int) xb xm ch _ (HO.out _ (HT9.out _ (by first | exact (Below.refl _ _).drewN _ | exact ((Below.refl _ _).drewN _).drewN _ | exact (Below.refl _ _).drew | exact Below.refl _ _)).2) ⟨Int.natCast_nonneg A, hA'⟩ o2 o3).mono ?_; rintro e w9 ⟨rfl, hb9⟩
            have HT10 := Lib.hid (TabAt.below (HT9.out _ (by first | exact (Below.refl _ _).drewN _ | exact ((Below.refl _ _).drewN _).drewN _ | exact (Below.refl _ _).drew | exact Below.refl _ _)).1 hb9)
            have hB10 := Below.trans (HT9.out _ (by first | exact (Below.refl _ _).drewN _ | exact ((Below.refl _ _).drewN _).drewN _ | exact (Below.refl _ _).drew | exact Below.refl _ _)).2 (Below.mono hb9 (HT9.out _ (by first | exact (Below.refl _ _).drewN _ | exact ((Below.refl _ _).drewN _).drewN _ | exact (Below.refl _ _).drew | exact Below.refl _ _)).2.size)
            have HB10 := Lib.hid hB10
            clear hB10
            clear hb9 ct ft e0 e1 e2 d0 d1 d2
            go_wp2
            exact ⟨⟨i + 1, Ti, _, hlti, by go_num, rfl, by first | (rw [Hst.out]; done) | (rw [Hst.out]; rfl), HT10.out, HB10.out⟩, by simp [intOf]; omega⟩
          | true =>
            rw [stG_on] at Hst
            have Hup := Lib.hid (show upX Ti ⟨(A : Int), xb, xm⟩ = if fT Ti (A : Int) < 0 ∨ xb < fT Ti (A : Int) then Ti.set A xb else Ti from rfl)
            generalize fT Ti (A : Int) = x at *
            by_cases h1 : x < 0
            · have h1' : decide (x < 0) = true := decide_eq_true h1
              rw [if_pos (.inl h1)] at Hup
              clear hx1
              go_wp2
              go_quiet (fail)
              go_wp2
              exact ⟨⟨i + 1, Ti.set A xb, true, hlti, by go_num, rfl, by rw [Hst.out, Hup.out], TabAt.set (HT9.out _ (by first | exact (Below.refl _ _).drewN _ | exact ((Below.refl _ _).drewN _).drewN _ | exact (Below.refl _ _).drew | exact Below.refl _ _)).1 hA (x := xb) (by omega) hbb.2, Below.setCell (HT9.out _ (by first | exact (Below.refl _ _).drewN _ | exact ((Below.refl _ _).drewN _).drewN _ | exact (Below.refl _ _).drew | exact Below.refl _ _)).2 (p := ⟨g, A, none⟩) Hg.out.1 _⟩, by simp [intOf]; omega⟩
            · by_cases h2 : xb < x
              · have h1' : decide (x < 0) = false := decide_eq_false h1
                have h2' : decide (xb < x) = true := decide_eq_true h2
                rw [if_pos (.inr h2)] at Hup
                go_wp2
                go_quiet (fail)
                go_wp2
                exact ⟨⟨i + 1, Ti.set A xb, true, hlti, by go_num, rfl, by rw [Hst.out, Hup.out], TabAt.set (HT9.out _ (by first | exact (Below.refl _ _).drewN _ | exact ((Below.refl _ _).drewN _).drewN _ | exact (Below.refl _ _).drew | exact Below.refl _ _)).1 hA (x := xb) (by omega) hbb.2, Below.setCell (HT9.out _ (by first | exact (Below.refl _ _).drewN _ | exact ((Below.refl _ _).drewN _).drewN _ | exact (Below.refl _ _).drew | exact Below.refl _ _)).2 (p := ⟨g, A, none⟩) Hg.out.1 _⟩, by simp [intOf]; omega⟩
              · have h1' : decide (x < 0) = false := decide_eq_false h1
                have h2' : decide (xb < x) = false := decide_eq_false h2
                rw [if_neg (by omega)] at Hup
                go_wp2
                go_quiet (fail)
                go_wp2
                exact ⟨⟨i + 1, Ti, true, hlti, by go_num, rfl, by rw [Hst.out, Hup.out], (HT9.out _ (by first | exact (Below.refl _ _).drewN _ | exact ((Below.refl _ _).drewN _).drewN _ | exact (Below.refl _ _).drew | exact Below.refl _ _)).1, (HT9.out _ (by first | exact (Below.refl _ _).drewN _ | exact ((Below.refl _ _).drewN _).drewN _ | exact (Below.refl _ _).drew | exact Below.refl _ _)).2⟩, by simp [intOf]; omega⟩
        · obtain rfl : i = (coach net c).length := by omega
          have hfo := Hfold.out
          rw [List.take_length] at hfo
          have Hn := Lib.hid (show (net.take (c + 1)).foldl (cchG (fun _ => To) ch (F : Int)) To = Ti by rw [Hcc.out, Hcch.out, hfo])
          clear hfo hlti hi9 htab hbel
          go_wp2
          exact ⟨⟨c + 1, hltc, by go_num, by rw [Hn.out]; exact HT7.out, HB7.out⟩, by simp [intOf]; omega⟩
    · obtain rfl : c = net.length := by omega
      rw [List.take_length] at HT5
      go_wp2
      go_ret
      exact ⟨g, cp, rfl, Hg.out.2, Hg.out.1, by rw [Hfin.out]; exact HT5.out, HB5.out⟩

/-- The first number of rides at which the town is reached. -/
def fewX (n : Int) (net : List (List Rd)) (f to t0 ch : Int) : Int :=
  if okT7 n net f t0 ch = true ∧ isTown n to = true then (match (List.range n.toNat).find? (fun k => decide (0 ≤ fT (tabB n net ch f t0 k) to)) with | some k => (k : Int) | none => -1) else -1

theorem fewX_bad {n : Int} {net : List (List Rd)} {f to t0 ch : Int} (h : ¬ (okT7 n net f t0 ch = true ∧ isTown n to = true)) : fewX n net f to t0 ch = -1 := by unfold fewX; rw [if_neg h]

theorem fewX_yes {n : Int} {net : List (List Rd)} {f to t0 ch : Int} (h : okT7 n net f t0 ch = true) (hto : isTown n to = true) {K : Nat} (hK : FewIs net ch f t0 to K) : fewX n net f to t0 ch = K := by
  obtain ⟨o1, ⟨o2, o3⟩, o4, o6⟩ := okT7_iff.1 h
  have hlt := few_lt o1 o2 o4 hK
  obtain ⟨h1, h2⟩ := tabB_few o1 o4 o6 (isTown_iff.1 hto) hK
  unfold fewX
  rw [if_pos ⟨h, hto⟩]
  have : (List.range n.toNat).find? (fun k => decide (0 ≤ fT (tabB n net ch f t0 k) to)) = some K := by
    rw [List.find?_range_eq_some]
    refine ⟨by simpa using h1, by simp; omega, fun j hj => ?_⟩
    have := h2 j hj
    simp; omega
  rw [this]

theorem fewX_no {n : Int} {net : List (List Rd)} {f to t0 ch : Int} (hto : isTown n to = true) (hno : ∀ t, ¬ Rch net ch f t0 to t) (h : okT7 n net f t0 ch = true) : fewX n net f to t0 ch = -1 := by
  obtain ⟨o1, ⟨o2, o3⟩, o4, o6⟩ := okT7_iff.1 h
  unfold fewX
  rw [if_pos ⟨h, hto⟩]
  have : (List.range n.toNat).find? (fun k => decide (0 ≤ fT (tabB n net ch f t0 k) to)) = none := by
    rw [List.find?_eq_none]
    intro k _ hk
    have hk' : 0 ≤ fT (tabB n net ch f t0 k) to := by simpa using hk
    obtain ⟨g1, g2, _⟩ := itB_inv (ch := ch) o1 o4 o6 k
    have hto2 := isTown_iff.1 hto
    rcases g2 to hto2.1 (by omega) with e | ⟨_, k2, _, hr⟩
    · unfold tabB at hk'; omega
    · exact hno _ ⟨k2, hr⟩
  rw [this]

theorem pa_few {n : Int} {net : List (List Rd)} {f to t0 ch : Int} (h : okT7 n net f t0 ch = true) (hto : isTown n to = true) : (0 ≤ paX n net f to t0 ch ∧ ∃ K, FewIs net ch f t0 to K) ∨ (paX n net f to t0 ch < 0 ∧ ∀ t, ¬ Rch net ch f t0 to t) := by
  obtain ⟨o1, ⟨o2, o3⟩, o4, o6⟩ := okT7_iff.1 h
  have hT := tabA_isTab o1 o2 o4 o6 (net := net) (ch := ch)
  have hto2 := isTown_iff.1 hto
  have e : paX n net f to t0 ch = fT (tabA n net ch f t0) to := by unfold paX; rw [if_pos ⟨h, hto⟩]
  rw [e]
  rcases hT.2 to hto2.1 hto2.2 with e1 | e1
  · right
    refine ⟨by omega, fun t ht => ?_⟩
    have := (hT.1 _ _ ht).1
    omega
  · left
    exact ⟨(hT.1 _ _ e1).1, few_exists e1⟩

end Go.Proofs.Ytmkcnoaphoiiaaa
