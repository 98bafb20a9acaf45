/- The coach passes all gates; payments; the way. -/
import Derived.Test.YthhllpnbmelidaaGR
import Derived.Test.YthhllpnbmelidaaGS
namespace Go.Proofs.Ythhllpnbmelidaa
open Go.RowKit Go.Maps
set_option linter.unusedVariables false
set_option linter.unusedSimpArgs false

theorem RowI.below' {w w' : World} {B W g n cap : Nat} {l : List Int} (h : RowI w B (.slice (some ⟨g, 0, none⟩) n cap) l) (hb : Below W w w') (hg : g < W) : RowI w' B (.slice (some ⟨g, 0, none⟩) n cap) l := by
  obtain ⟨h1, h2⟩ := h
  refine ⟨h1, ?_⟩
  rcases h2 with h0 | ⟨g', cap', cur, he, hg', hh, r⟩
  · exact .inl h0
  · have he2 := he
    injection he with e1 _ _
    injection e1 with e1
    injection e1 with e1 _ _
    subst e1
    exact .inr ⟨g, cap', cur, he2, hg', (hb.block g hg).trans hh, r⟩
/-- The keepers of the first t trusts. -/
structure KsAt (w : World) (W mb cb t : Nat) (xb fb : Nat → Nat) (R : Nat → Int) : Prop where
  map : MapIs w (fnE2 122) mb t (fun y => if 0 ≤ y ∧ y < t then some (pr2 (xb y.toNat) (fb y.toNat)) else none)
  box : ∀ s, s < t → Whole w (xb s) 99 #[.pointer (some ⟨cb, 0, none⟩)]
  fu : ∀ s, s < t → Whole w (fb s) 3 #[.int .i64 (R s)]
  lo : ∀ s, s < t → W ≤ xb s ∧ W ≤ fb s
  ne : ∀ s s', s < t → s' < t → s ≠ s' → fb s ≠ fb s'
theorem KsAt.below {w w' : World} {W mb cb t : Nat} {xb fb : Nat → Nat} {R : Nat → Int} (h : KsAt w W mb cb t xb fb R) (hb : Below w.heap.size w w') : KsAt w' W mb cb t xb fb R :=
  ⟨h.map.touch8 (Touch.of_below (S := fun _ => False) hb) (fun h => h), fun s hs => (h.box s hs).below hb (h.box s hs).lt, fun s hs => (h.fu s hs).below hb (h.fu s hs).lt, h.lo, h.ne⟩
theorem Whole.ty_ne {w : World} {g q : Nat} {t t' : TypeId} {cs cs' : Array Value} (h : Whole w g t cs) (h' : Whole w q t' cs') (hne : t ≠ t') : g ≠ q := by
  rintro rfl
  unfold Whole at h h'
  rw [h] at h'
  cases h'
  exact hne rfl
theorem Whole.row_ne {w : World} {g q n cap B E c k : Nat} {t : TypeId} {cs : Array Value} {xs : List Value} (h : Whole w g t cs) (ho : w.ownsRow B E c (.slice (some ⟨q, 0, none⟩) n cap) k xs) (hne : t ≠ E) : g ≠ q := by
  rintro rfl
  obtain ⟨_, h2⟩ := ho
  rcases h2 with ⟨h0, _⟩ | ⟨g', cap', cur, he, _, hh, _⟩
  · cases h0
  · injection he with h1 h2 h3
    injection h1 with h1
    injection h1 with h1 _ _
    subst h1
    unfold Whole at h
    rw [h] at hh
    cases hh
    exact hne rfl
theorem MapIs.ne_row {w : World} {R : MElem} {b n q m cap B E c k : Nat} {f : Int → Option (DataW Unit)} {xs : List Value} (h : MapIs w R b n f) (ho : w.ownsRow B E c (.slice (some ⟨q, 0, none⟩) m cap) k xs) : b ≠ q := by
  rintro rfl
  obtain ⟨D, ⟨es, clock, he, r⟩, hf⟩ := h
  obtain ⟨_, h2⟩ := ho
  rcases h2 with ⟨h0, _⟩ | ⟨g', cap', cur, he', _, hh, _⟩
  · cases h0
  · injection he' with h1 h2 h3
    injection h1 with h1
    injection h1 with h1 _ _
    subst h1
    rw [he] at hh
    cases hh
/-- One trust's ticket is new; the coach's block and the row's have changed. -/
theorem KsAt.paid {w w' : World} {W mb cb g : Nat} {xb fb : Nat → Nat} {R : Nat → Int} (h : KsAt w W mb cb 4 xb fb R) {s : Nat} (hs : s < 4) {u : Int} (ht : Touch (fun j => j = cb ∨ j = fb s ∨ j = g) w w') (hf : Whole w' (fb s) 3 #[.int .i64 u])
    (h1 : mb ≠ cb) (h2 : mb ≠ g) (h3 : ∀ s, s < 4 → xb s ≠ cb ∧ xb s ≠ g ∧ fb s ≠ cb ∧ fb s ≠ g) : KsAt w' W mb cb 4 xb fb (fun r => if r = s then u else R r) := by
  refine ⟨h.map.touch8 ht (fun e => ?_), fun r hr => (h.box r hr).touch8 ht (fun e => ?_), fun r hr => ?_, h.lo, h.ne⟩
  · rcases e with e | e | e
    · exact h1 e
    · exact h.map.ne_whole (h.fu s hs) e
    · exact h2 e
  · rcases e with e | e | e
    · exact (h3 r hr).1 e
    · exact (h.box r hr).ty_ne (h.fu s hs) (by decide) e
    · exact (h3 r hr).2.1 e
  · by_cases e : r = s
    · rw [if_pos e, e]; exact hf
    · rw [if_neg e]
      refine (h.fu r hr).touch8 ht (fun q => ?_)
      rcases q with q | q | q
      · exact (h3 r hr).2.2.1 q
      · exact h.ne r s hr hs e q
      · exact (h3 r hr).2.2.2 q

theorem simT_cons (l : List Gt) (free : Int) (P : Int → Bool → Bool) (k : Int) (s : List Int) (R : Int → Int) (acc : List Int) : simT l free P (k :: s) R acc =
    if P k (decide ((gAt l k).a ≤ R (gAt l k).b)) = true then simT l free P s (upT8 R (gAt l k).b ((gAt l k).a + free)) (acc ++ [k]) else if (gAt l k).a ≤ R (gAt l k).b then simT l free P s R acc else none := rfl


/-- On the way: what has been paid so far leads to the same end. -/
structure PasStM (l : List Gt) (free : Int) (ps : List Int) (P : Int → Bool → Bool) (tot : Option (List Int)) (w0 : World) (wb cb W mb : Nat) (xb fb : Nat → Nat) (i : Nat) (acc : List Int) (g cap : Nat) (R : Int → Int) (wr : World) : Prop where
  ks : KsAt wr W mb cb 4 xb fb (fun s => R (s : Int))
  co : Whole wr cb 101 #[.pointer (some ⟨wb, 0, none⟩), .func (.func 87) #[] #[], .slice (some ⟨g, 0, none⟩) acc.length cap]
  row : RowI wr w0.heap.size (.slice (some ⟨g, 0, none⟩) acc.length cap) acc
  gn : ∀ s, s < 4 → fb s ≠ g
  glo : w0.heap.size ≤ g
  len : acc.length ≤ i
  go : simT l free P (ps.drop i) R acc = tot
  bel : Below w0.heap.size w0 wr

set_option maxRecDepth 100000 in
set_option maxHeartbeats 4000000 in
theorem passesM_any (w0 : World) (wb cb g cap : Nat) (v vp : Value) (l : List Gt) (ps : List Int) (free : Int) (P : Int → Bool → Bool) (w : World) (hW : WayAt w0 wb v vp l ps free) (hb0 : Below w0.heap.size w0 w) (hz : validG l = true) (hfree : 0 ≤ free ∧ free ≤ 999)
    (hps : ∀ k ∈ ps, 0 ≤ k ∧ k < l.length) (hlen : ps.length ≤ 10) (hC : Whole w cb 101 #[.pointer (some ⟨wb, 0, none⟩), .func (.func 87) #[] #[], .slice (some ⟨g, 0, none⟩) 0 cap]) (hR : RowI w w0.heap.size (.slice (some ⟨g, 0, none⟩) 0 cap) []) (hcb : w0.heap.size ≤ cb) (hg : w0.heap.size ≤ g) (hgw : g < w.heap.size) 
    (hP : ∀ (k : Nat) (fr : Bool) w', k < l.length → Below w0.heap.size w0 w' → Calls Try.prog 87 #[.int .i64 k, .bool fr] w' (Gives (.bool (P k fr)) w')) :
    Calls Try.prog 99 #[.pointer (some ⟨cb, 0, none⟩)] w fun e w' => Below w0.heap.size w0 w' ∧
      (∀ xs, simT l free P ps noTic [] = some xs → e = .returned (.bool true) ∧ ∃ g' cap', Whole w' cb 101 #[.pointer (some ⟨wb, 0, none⟩), .func (.func 87) #[] #[], .slice (some ⟨g', 0, none⟩) xs.length cap'] ∧ RowI w' w0.heap.size (.slice (some ⟨g', 0, none⟩) xs.length cap') xs) ∧
      (simT l free P ps noTic [] = none → e = .returned (.bool false)) := by
  generalize htot : simT l free P ps noTic [] = tot
  have Htot := Lib.hid htot; clear htot
  have hten := (validG_iff.1 hz).1
  have HPs := Lib.hid hps
  have HP := Lib.hid hP
  have HW := Lib.hid hW
  have HC := Lib.hid hC
  have HR := Lib.hid hR
  have HB0 := Lib.hid hb0
  have hcl := hC.lt
  clear hps hP hW hC hR hb0
  go_enter Try.func99, Try.ntmps99
  have hmk := Lib.hid (MapIs.made w (fnE2 122))
  have hmm := @run_makeMap Try.prog
  go_wp2_with fail
  clear hmm
  go_loopw [8] (fun iv wr => ∃ (t : Nat) (xb fb : Nat → Nat), t ≤ 4 ∧ iv = .int .i64 t ∧ KsAt wr w.heap.size w.heap.size cb t xb fb (fun _ => -1) ∧ Below w.heap.size w wr) (fun iv _ => 4 - (intOf iv).toNat)
  case atStart =>
    exact ⟨0, fun _ => 0, fun _ => 0, by omega, rfl, ⟨hmk.out.congr (fun y _ => if_neg (by omega)), fun s hs => by omega, fun s hs => by omega, fun s hs => by omega, fun s s' hs => by omega⟩, (Below.refl _ _).alloc (Nat.le_refl _) _⟩
  case round =>
    obtain ⟨t, xb, fb, ht, rfl, hks, hbel⟩ := hrel
    by_cases hlt : t < 4
    · have hlt' : (t : Int) < 4 := by omega
      have ht0 : (0 : Int) ≤ (t : Int) := Int.natCast_nonneg _
      have HK := Lib.hid hks
      have HB := Lib.hid hbel
      clear hks hbel
      go_wp2_with fail
      refine (keeper_any cb wr).mono ?_; rintro e w1 ⟨rfl, hx1, hf1, hb1, hs1⟩
      have HK1 := Lib.hid (HK.out.below hb1)
      have HB1 := Lib.hid (HB.out.trans (hb1.mono HB.out.size))
      have Hx1 := Lib.hid hx1
      have Hf1 := Lib.hid hf1
      have hsz := HB.out.size
      have hm := HK1.out.map
      have wt : W64 (t : Int) := by unfold W64; omega
      clear hb1 hx1 hf1
      go_wp2_with (at_mapUpdate; refine wp_put _ rfl _ _ _ 115 95 rfl Try.underlying115 (fnE2 122) w.heap.size t _ rfl hm (by unfold maxLen; omega) (t : Int) wt _ rfl rfl (pr2 wr.heap.size (wr.heap.size + 1)) (fnE2_kv _ _ _) ?_; intro w2 hm2 hg2)
      have hnx : w.heap.size ≠ wr.heap.size := Nat.ne_of_lt HK.out.map.lt
      have hnx2 : w.heap.size ≠ wr.heap.size + 1 := by have := HK.out.map.lt; omega
      have ht2 : Touch (fun j => j = w.heap.size) w1 w2 := Touch.grown hg2 rfl
      have hks2 : KsAt w2 w.heap.size w.heap.size cb (t + 1) (fun s => if s = t then wr.heap.size else xb s) (fun s => if s = t then wr.heap.size + 1 else fb s) (fun _ => -1) := by
        refine ⟨hm2.congr (fun y _ => ?_), fun s hs => ?_, fun s hs => ?_, fun s hs => ?_, fun s s' hs hs' hne => ?_⟩
        · by_cases e : y = (t : Int)
          · subst e
            rw [if_pos rfl, if_pos (by omega), Int.toNat_natCast, if_pos rfl, if_pos rfl]
          · rw [if_neg e]
            by_cases q : 0 ≤ y ∧ y < (t : Int)
            · rw [if_pos q, if_pos (by omega), if_neg (by omega), if_neg (by omega)]
            · rw [if_neg q, if_neg (by omega)]
        · by_cases e : s = t
          · simp only [if_pos e]; exact Hx1.out.touch8 ht2 (fun e => hnx e.symm)
          · simp only [if_neg e]; exact (HK1.out.box s (by omega)).touch8 ht2 (fun e2 => HK1.out.map.ne_whole (HK1.out.box s (by omega)) e2.symm)
        · by_cases e : s = t
          · simp only [if_pos e]; exact Hf1.out.touch8 ht2 (fun e => hnx2 e.symm)
          · simp only [if_neg e]; exact (HK1.out.fu s (by omega)).touch8 ht2 (fun e2 => HK1.out.map.ne_whole (HK1.out.fu s (by omega)) e2.symm)
        · by_cases e : s = t
          · simp only [if_pos e]; omega
          · simp only [if_neg e]; exact HK1.out.lo s (by omega)
        · have hl : ∀ r, r < t → fb r < wr.heap.size := fun r hr => (HK.out.fu r hr).lt
          by_cases e : s = t
          · simp only [if_pos e, if_neg (show ¬ s' = t by omega)]; have := hl s' (by omega); omega
          · by_cases e' : s' = t
            · simp only [if_neg e, if_pos e']; have := hl s (by omega); omega
            · simp only [if_neg e, if_neg e']; exact HK1.out.ne s s' (by omega) (by omega) hne
      have Hks2 := Lib.hid hks2
      have HB2 := Lib.hid (HB1.out.trans (ht2.below (fun j hj => by omega) HB1.out.size))
      clear hks2 ht2 hm2 hg2 hm
      go_wp2
      exact ⟨⟨t + 1, _, _, by omega, by go_num, Hks2.out, HB2.out⟩, by simp [intOf]; omega⟩
    · obtain rfl : t = 4 := by omega
      have hbel0 := HB0.out.trans (hbel.mono HB0.out.size)
      have hco := HC.out.below hbel hcl
      have HSt := Lib.hid (show PasStM l free ps P tot w0 wb cb w.heap.size w.heap.size xb fb 0 [] g cap noTic wr from
        ⟨⟨hks.map, hks.box, hks.fu, hks.lo, hks.ne⟩, hco, HR.out.below' hbel hgw, fun s hs e => by have := (hks.lo s hs).2; omega, hg, Nat.le_refl _, Htot.out, hbel0⟩)
      clear hks hbel hbel0 hco
      obtain ⟨hv1, hv2, hv3⟩ := HW.out.below HSt.out.bel
      obtain ⟨a, vcap, rfl, _, ha⟩ := hv2
      obtain ⟨pa, pcap, rfl, _, hpa⟩ := hv3
      have c0 := HSt.out.co.cell (i := 0) rfl
      have w1 := hv1.cell (i := 1) rfl
      clear hv1 ha hpa
      go_wp2_with fail
      rename_i w2
      have hws := HSt.out.bel.size
      go_loopw [24] (fun iv wq => ∃ (i : Nat) (acc : List Int) (g cap : Nat) (R : Int → Int), i ≤ ps.length ∧ iv = .int .i64 i ∧ PasStM l free ps P tot w0 wb cb w.heap.size w.heap.size xb fb i acc g cap R wq) (fun iv _ => ps.length - (intOf iv).toNat)
      case atStart => exact ⟨0, [], g, cap, noTic, Nat.zero_le _, rfl, HSt.out⟩
      case round =>
        clear HSt hg hgw
        obtain ⟨i, acc, g, cap, R, hi, rfl, hst⟩ := hrel
        have HS := Lib.hid hst; clear hst
        by_cases hlt : i < ps.length
        · have hWr := HW.out.below HS.out.bel
          obtain ⟨hv1, hv2, hv3⟩ := hWr
          obtain ⟨a', vc', e1, _, ha⟩ := hv2
          injection e1 with e1 _ e3
          subst e1 e3
          obtain ⟨pa', pc', e1, _, hpa⟩ := hv3
          injection e1 with e1 _ e3
          subst e1 e3
          obtain ⟨qb, qo, rfl, hqb, hqr⟩ := hpa (by intro h; simp [h] at hlt)
          have d0 := hqr i hlt
          obtain ⟨x0, x1⟩ := HPs.out _ (mem_getD8.2 ⟨i, hlt, rfl⟩)
          have hgo := HS.out.go
          rw [drop_cons8 hlt, simT_cons] at hgo
          generalize ps.getD i 0 = px at *
          obtain ⟨k, rfl⟩ : ∃ k : Nat, px = k := ⟨px.toNat, by omega⟩
          have hk : k < l.length := by omega
          obtain ⟨b, o, rfl, hb0, hrw⟩ := ha (by intro h; simp [h] at hk)
          obtain ⟨g0, g1, g2⟩ := hrw k hk
          have hgx : gAt l (k : Int) = l.getD k gt0 := by unfold gAt; rw [Int.toNat_natCast]
          rw [hgx] at hgo
          have hzx := validG_at hz hk
          obtain ⟨s, hs⟩ : ∃ s : Nat, (l.getD k gt0).b = (s : Int) := ⟨(l.getD k gt0).b.toNat, by omega⟩
          have hs4 : s < 4 := by omega
          rw [hs] at g1 hgo
          have c0 := HS.out.co.cell (i := 0) rfl
          have w0' := hv1.cell (i := 0) rfl
          have wsk : W64 (s : Int) := by unfold W64; omega
          have hlook := HS.out.ks.map.look2 Try.underlying115 (zeroK _) wsk (x := xb s) (y := fb s) (by rw [if_pos (by omega), Int.toNat_natCast])
          unfold kv2 at hlook
          have hk0 : (0 : Int) ≤ (k : Int) := Int.natCast_nonneg _
          have hk1 : (k : Int) < (l.length : Int) := by omega
          have hi0 : (0 : Int) ≤ (i : Int) := Int.natCast_nonneg _
          have hi1 : (i : Int) < (ps.length : Int) := by omega
          have n1 := HS.out.co.ty_ne (HS.out.ks.fu s hs4) (by decide)
          have n2 := HS.out.co.row_ne HS.out.row (by decide)
          have n3 := HS.out.gn s hs4
          have n4 := (HS.out.ks.box s hs4).row_ne HS.out.row (by decide)
          have n5 := (HS.out.ks.box s hs4).ty_ne HS.out.co (by decide)
          have n6 := (HS.out.ks.box s hs4).ty_ne (HS.out.ks.fu s hs4) (by decide)
          have n7 := And.intro (hv1.row_ne HS.out.row (by decide)) (hv1.ty_ne HS.out.co (by decide))
          have hkeep := keepM_any w0.heap.size wb cb (xb s) (fb s) g cap _ _ l ps free acc k (R s) (P k (decide ((l.getD k gt0).a ≤ R s))) _ (HW.out.below HS.out.bel) hz hfree HS.out.co ((HS.out.ks.box s hs4).cell (i := 0) rfl) (HS.out.ks.fu s hs4) HS.out.row HS.out.bel.size
            (by have := HS.out.len; omega) hk n1 n2 n3 n4 n5 n6 n7 (fun w' h => HP.out k _ w' hk (HS.out.bel.trans (h.mono HS.out.bel.size)))
          have HKp := Lib.hid hkeep
          have Hgo := Lib.hid hgo
          clear hkeep hgo hrw ha hpa hqr hv1 n1 n2 n3 n4 n5 n6 n7 hzx hs g0 g2 hgx
          generalize (l.getD k gt0).a = xa at *
          go_wp2_with fail
          refine HKp.out.mono ?_; rintro e w4 ⟨hno, hyes⟩
          generalize hfr : decide (xa ≤ R s) = fr at *
          cases hp : P k fr with
          | true =>
            obtain ⟨rfl, g', cap', hC4, hR4, hg4, hF4, ht4⟩ := hyes hp
            have hgo2 := Hgo.out
            rw [hp, if_pos rfl] at hgo2
            have hsz := HS.out.bel.size
            have hks4 := HS.out.ks.paid hs4 ht4 hF4 (HS.out.ks.map.ne_whole HS.out.co) (HS.out.ks.map.ne_row HS.out.row)
              (fun r hr => ⟨(HS.out.ks.box r hr).ty_ne HS.out.co (by decide), (HS.out.ks.box r hr).row_ne HS.out.row (by decide), fun e => HS.out.co.ty_ne (HS.out.ks.fu r hr) (by decide) e.symm, HS.out.gn r hr⟩)
            have hRe : (fun r : Nat => upT8 R (s : Int) (xa + free) (r : Int)) = fun r => if r = s then xa + free else R (r : Int) := by
              funext r
              unfold upT8
              by_cases e : r = s
              · rw [if_pos e, if_pos (by omega)]
              · rw [if_neg e, if_neg (by omega)]
            have hst4 : PasStM l free ps P tot w0 wb cb w.heap.size w.heap.size xb fb (i + 1) (acc ++ [(k : Int)]) g' cap' (upT8 R (s : Int) (xa + free)) w4 := by
              refine ⟨?_, hC4, hR4, fun r hr => ?_, ?_, by have := HS.out.len; simp; omega, hgo2, ?_⟩
              · show KsAt w4 _ _ _ _ _ _ (fun r : Nat => upT8 R (s : Int) (xa + free) (r : Int))
                rw [hRe]; exact hks4
              · rcases hg4 with e | e
                · rw [e]; exact HS.out.gn r hr
                · have := (HS.out.ks.fu r hr).lt; omega
              · rcases hg4 with e | e
                · rw [e]; exact HS.out.glo
                · omega
              · refine HS.out.bel.trans (ht4.below (fun j hj => ?_) hsz)
                rcases hj with rfl | rfl | rfl
                · exact hcb
                · have := (HS.out.ks.lo s hs4).2; have := HB0.out.size; omega
                · exact HS.out.glo
            have Hst4 := Lib.hid hst4
            clear hst4 hks4 hyes hno hC4 hR4 hg4 hF4 ht4 hgo2
            go_wp2
            refine ⟨?_, by simp [intOf]; omega⟩
            (repeat apply Exists.intro)
            exact ⟨⟨i + 1, _, _, _, _, hlt, by go_num, Hst4.out⟩, rfl⟩
          | false =>
            obtain ⟨rfl, hb4⟩ := hno hp
            have hgo2 := Hgo.out
            rw [hp, if_neg (by simp)] at hgo2
            cases fr with
            | true =>
              rw [if_pos (of_decide_eq_true hfr)] at hgo2
              have hst4 : PasStM l free ps P tot w0 wb cb w.heap.size w.heap.size xb fb (i + 1) acc g cap R w4 :=
                ⟨HS.out.ks.below hb4, HS.out.co.below hb4 HS.out.co.lt, HS.out.row.below hb4, HS.out.gn, HS.out.glo, by have := HS.out.len; omega, hgo2, HS.out.bel.trans (hb4.mono HS.out.bel.size)⟩
              have Hst4 := Lib.hid hst4
              clear hst4 hyes hno hb4 hgo2 hfr
              go_wp2
              refine ⟨?_, by simp [intOf]; omega⟩
              (repeat apply Exists.intro)
              exact ⟨⟨i + 1, _, _, _, _, hlt, by go_num, Hst4.out⟩, rfl⟩
            | false =>
              rw [if_neg (of_decide_eq_false hfr)] at hgo2
              have Hb := Lib.hid (HS.out.bel.trans (hb4.mono HS.out.bel.size))
              have Ht := Lib.hid hgo2
              clear hyes hno hb4 hgo2 hfr
              go_wp2
              go_ret
              exact ⟨Hb.out, fun xs h => (by rw [← Ht.out] at h; cases h), fun _ => rfl⟩
        · obtain rfl : i = ps.length := by omega
          have hgo := HS.out.go
          rw [List.drop_length] at hgo
          have Ht := Lib.hid (show some acc = tot from hgo)
          clear hgo
          go_wp2
          go_ret
          refine ⟨HS.out.bel, fun xs h => ?_, fun h => ?_⟩
          · rw [← Ht.out] at h
            injection h with h
            subst h
            exact ⟨rfl, g, cap, HS.out.co, HS.out.row⟩
          · rw [← Ht.out] at h; cases h


/-- On the way: what has been paid so far leads to the same end. -/
structure PasStV (l : List Gt) (free : Int) (ps : List Int) (P : Int → Bool → Bool) (tot : Option (List Int)) (w0 : World) (wb cb W mb : Nat) (pb : Nat) (xb fb : Nat → Nat) (i : Nat) (acc : List Int) (g cap : Nat) (R : Int → Int) (wr : World) : Prop where
  ks : KsAt wr W mb cb 4 xb fb (fun s => R (s : Int))
  co : Whole wr cb 101 #[.pointer (some ⟨wb, 0, none⟩), .func (.func 84) #[] #[.pointer (some ⟨pb, 0, none⟩)], .slice (some ⟨g, 0, none⟩) acc.length cap]
  row : RowI wr w0.heap.size (.slice (some ⟨g, 0, none⟩) acc.length cap) acc
  gn : ∀ s, s < 4 → fb s ≠ g
  glo : w0.heap.size ≤ g
  len : acc.length ≤ i
  go : simT l free P (ps.drop i) R acc = tot
  bel : Below w0.heap.size w0 wr

set_option maxRecDepth 100000 in
set_option maxHeartbeats 4000000 in
theorem passesV_any (w0 : World) (wb cb g cap : Nat) (pb : Nat) (v vp : Value) (l : List Gt) (ps : List Int) (free : Int) (P : Int → Bool → Bool) (w : World) (hW : WayAt w0 wb v vp l ps free) (hb0 : Below w0.heap.size w0 w) (hz : validG l = true) (hfree : 0 ≤ free ∧ free ≤ 999)
    (hps : ∀ k ∈ ps, 0 ≤ k ∧ k < l.length) (hlen : ps.length ≤ 10) (hC : Whole w cb 101 #[.pointer (some ⟨wb, 0, none⟩), .func (.func 84) #[] #[.pointer (some ⟨pb, 0, none⟩)], .slice (some ⟨g, 0, none⟩) 0 cap]) (hR : RowI w w0.heap.size (.slice (some ⟨g, 0, none⟩) 0 cap) []) (hcb : w0.heap.size ≤ cb) (hg : w0.heap.size ≤ g) (hgw : g < w.heap.size) 
    (hP : ∀ (k : Nat) (fr : Bool) w', k < l.length → Below w0.heap.size w0 w' → Calls Try.prog 84 #[.int .i64 k, .bool fr, .pointer (some ⟨pb, 0, none⟩)] w' (Gives (.bool (P k fr)) w')) :
    Calls Try.prog 99 #[.pointer (some ⟨cb, 0, none⟩)] w fun e w' => Below w0.heap.size w0 w' ∧
      (∀ xs, simT l free P ps noTic [] = some xs → e = .returned (.bool true) ∧ ∃ g' cap', Whole w' cb 101 #[.pointer (some ⟨wb, 0, none⟩), .func (.func 84) #[] #[.pointer (some ⟨pb, 0, none⟩)], .slice (some ⟨g', 0, none⟩) xs.length cap'] ∧ RowI w' w0.heap.size (.slice (some ⟨g', 0, none⟩) xs.length cap') xs) ∧
      (simT l free P ps noTic [] = none → e = .returned (.bool false)) := by
  generalize htot : simT l free P ps noTic [] = tot
  have Htot := Lib.hid htot; clear htot
  have hten := (validG_iff.1 hz).1
  have HPs := Lib.hid hps
  have HP := Lib.hid hP
  have HW := Lib.hid hW
  have HC := Lib.hid hC
  have HR := Lib.hid hR
  have HB0 := Lib.hid hb0
  have hcl := hC.lt
  clear hps hP hW hC hR hb0
  go_enter Try.func99, Try.ntmps99
  have hmk := Lib.hid (MapIs.made w (fnE2 122))
  have hmm := @run_makeMap Try.prog
  go_wp2_with fail
  clear hmm
  go_loopw [8] (fun iv wr => ∃ (t : Nat) (xb fb : Nat → Nat), t ≤ 4 ∧ iv = .int .i64 t ∧ KsAt wr w.heap.size w.heap.size cb t xb fb (fun _ => -1) ∧ Below w.heap.size w wr) (fun iv _ => 4 - (intOf iv).toNat)
  case atStart =>
    exact ⟨0, fun _ => 0, fun _ => 0, by omega, rfl, ⟨hmk.out.congr (fun y _ => if_neg (by omega)), fun s hs => by omega, fun s hs => by omega, fun s hs => by omega, fun s s' hs => by omega⟩, (Below.refl _ _).alloc (Nat.le_refl _) _⟩
  case round =>
    obtain ⟨t, xb, fb, ht, rfl, hks, hbel⟩ := hrel
    by_cases hlt : t < 4
    · have hlt' : (t : Int) < 4 := by omega
      have ht0 : (0 : Int) ≤ (t : Int) := Int.natCast_nonneg _
      have HK := Lib.hid hks
      have HB := Lib.hid hbel
      clear hks hbel
      go_wp2_with fail
      refine (keeper_any cb wr).mono ?_; rintro e w1 ⟨rfl, hx1, hf1, hb1, hs1⟩
      have HK1 := Lib.hid (HK.out.below hb1)
      have HB1 := Lib.hid (HB.out.trans (hb1.mono HB.out.size))
      have Hx1 := Lib.hid hx1
      have Hf1 := Lib.hid hf1
      have hsz := HB.out.size
      have hm := HK1.out.map
      have wt : W64 (t : Int) := by unfold W64; omega
      clear hb1 hx1 hf1
      go_wp2_with (at_mapUpdate; refine wp_put _ rfl _ _ _ 115 95 rfl Try.underlying115 (fnE2 122) w.heap.size t _ rfl hm (by unfold maxLen; omega) (t : Int) wt _ rfl rfl (pr2 wr.heap.size (wr.heap.size + 1)) (fnE2_kv _ _ _) ?_; intro w2 hm2 hg2)
      have hnx : w.heap.size ≠ wr.heap.size := Nat.ne_of_lt HK.out.map.lt
      have hnx2 : w.heap.size ≠ wr.heap.size + 1 := by have := HK.out.map.lt; omega
      have ht2 : Touch (fun j => j = w.heap.size) w1 w2 := Touch.grown hg2 rfl
      have hks2 : KsAt w2 w.heap.size w.heap.size cb (t + 1) (fun s => if s = t then wr.heap.size else xb s) (fun s => if s = t then wr.heap.size + 1 else fb s) (fun _ => -1) := by
        refine ⟨hm2.congr (fun y _ => ?_), fun s hs => ?_, fun s hs => ?_, fun s hs => ?_, fun s s' hs hs' hne => ?_⟩
        · by_cases e : y = (t : Int)
          · subst e
            rw [if_pos rfl, if_pos (by omega), Int.toNat_natCast, if_pos rfl, if_pos rfl]
          · rw [if_neg e]
            by_cases q : 0 ≤ y ∧ y < (t : Int)
            · rw [if_pos q, if_pos (by omega), if_neg (by omega), if_neg (by omega)]
            · rw [if_neg q, if_neg (by omega)]
        · by_cases e : s = t
          · simp only [if_pos e]; exact Hx1.out.touch8 ht2 (fun e => hnx e.symm)
          · simp only [if_neg e]; exact (HK1.out.box s (by omega)).touch8 ht2 (fun e2 => HK1.out.map.ne_whole (HK1.out.box s (by omega)) e2.symm)
        · by_cases e : s = t
          · simp only [if_pos e]; exact Hf1.out.touch8 ht2 (fun e => hnx2 e.symm)
          · simp only [if_neg e]; exact (HK1.out.fu s (by omega)).touch8 ht2 (fun e2 => HK1.out.map.ne_whole (HK1.out.fu s (by omega)) e2.symm)
        · by_cases e : s = t
          · simp only [if_pos e]; omega
          · simp only [if_neg e]; exact HK1.out.lo s (by omega)
        · have hl : ∀ r, r < t → fb r < wr.heap.size := fun r hr => (HK.out.fu r hr).lt
          by_cases e : s = t
          · simp only [if_pos e, if_neg (show ¬ s' = t by omega)]; have := hl s' (by omega); omega
          · by_cases e' : s' = t
            · simp only [if_neg e, if_pos e']; have := hl s (by omega); omega
            · simp only [if_neg e, if_neg e']; exact HK1.out.ne s s' (by omega) (by omega) hne
      have Hks2 := Lib.hid hks2
      have HB2 := Lib.hid (HB1.out.trans (ht2.below (fun j hj => by omega) HB1.out.size))
      clear hks2 ht2 hm2 hg2 hm
      go_wp2
      exact ⟨⟨t + 1, _, _, by omega, by go_num, Hks2.out, HB2.out⟩, by simp [intOf]; omega⟩
    · obtain rfl : t = 4 := by omega
      have hbel0 := HB0.out.trans (hbel.mono HB0.out.size)
      have hco := HC.out.below hbel hcl
      have HSt := Lib.hid (show PasStV l free ps P tot w0 wb cb w.heap.size w.heap.size pb xb fb 0 [] g cap noTic wr from
        ⟨⟨hks.map, hks.box, hks.fu, hks.lo, hks.ne⟩, hco, HR.out.below' hbel hgw, fun s hs e => by have := (hks.lo s hs).2; omega, hg, Nat.le_refl _, Htot.out, hbel0⟩)
      clear hks hbel hbel0 hco
      obtain ⟨hv1, hv2, hv3⟩ := HW.out.below HSt.out.bel
      obtain ⟨a, vcap, rfl, _, ha⟩ := hv2
      obtain ⟨pa, pcap, rfl, _, hpa⟩ := hv3
      have c0 := HSt.out.co.cell (i := 0) rfl
      have w1 := hv1.cell (i := 1) rfl
      clear hv1 ha hpa
      go_wp2_with fail
      rename_i w2
      have hws := HSt.out.bel.size
      go_loopw [24] (fun iv wq => ∃ (i : Nat) (acc : List Int) (g cap : Nat) (R : Int → Int), i ≤ ps.length ∧ iv = .int .i64 i ∧ PasStV l free ps P tot w0 wb cb w.heap.size w.heap.size pb xb fb i acc g cap R wq) (fun iv _ => ps.length - (intOf iv).toNat)
      case atStart => exact ⟨0, [], g, cap, noTic, Nat.zero_le _, rfl, HSt.out⟩
      case round =>
        clear HSt hg hgw
        obtain ⟨i, acc, g, cap, R, hi, rfl, hst⟩ := hrel
        have HS := Lib.hid hst; clear hst
        by_cases hlt : i < ps.length
        · have hWr := HW.out.below HS.out.bel
          obtain ⟨hv1, hv2, hv3⟩ := hWr
          obtain ⟨a', vc', e1, _, ha⟩ := hv2
          injection e1 with e1 _ e3
          subst e1 e3
          obtain ⟨pa', pc', e1, _, hpa⟩ := hv3
          injection e1 with e1 _ e3
          subst e1 e3
          obtain ⟨qb, qo, rfl, hqb, hqr⟩ := hpa (by intro h; simp [h] at hlt)
          have d0 := hqr i hlt
          obtain ⟨x0, x1⟩ := HPs.out _ (mem_getD8.2 ⟨i, hlt, rfl⟩)
          have hgo := HS.out.go
          rw [drop_cons8 hlt, simT_cons] at hgo
          generalize ps.getD i 0 = px at *
          obtain ⟨k, rfl⟩ : ∃ k : Nat, px = k := ⟨px.toNat, by omega⟩
          have hk : k < l.length := by omega
          obtain ⟨b, o, rfl, hb0, hrw⟩ := ha (by intro h; simp [h] at hk)
          obtain ⟨g0, g1, g2⟩ := hrw k hk
          have hgx : gAt l (k : Int) = l.getD k gt0 := by unfold gAt; rw [Int.toNat_natCast]
          rw [hgx] at hgo
          have hzx := validG_at hz hk
          obtain ⟨s, hs⟩ : ∃ s : Nat, (l.getD k gt0).b = (s : Int) := ⟨(l.getD k gt0).b.toNat, by omega⟩
          have hs4 : s < 4 := by omega
          rw [hs] at g1 hgo
          have c0 := HS.out.co.cell (i := 0) rfl
          have w0' := hv1.cell (i := 0) rfl
          have wsk : W64 (s : Int) := by unfold W64; omega
          have hlook := HS.out.ks.map.look2 Try.underlying115 (zeroK _) wsk (x := xb s) (y := fb s) (by rw [if_pos (by omega), Int.toNat_natCast])
          unfold kv2 at hlook
          have hk0 : (0 : Int) ≤ (k : Int) := Int.natCast_nonneg _
          have hk1 : (k : Int) < (l.length : Int) := by omega
          have hi0 : (0 : Int) ≤ (i : Int) := Int.natCast_nonneg _
          have hi1 : (i : Int) < (ps.length : Int) := by omega
          have n1 := HS.out.co.ty_ne (HS.out.ks.fu s hs4) (by decide)
          have n2 := HS.out.co.row_ne HS.out.row (by decide)
          have n3 := HS.out.gn s hs4
          have n4 := (HS.out.ks.box s hs4).row_ne HS.out.row (by decide)
          have n5 := (HS.out.ks.box s hs4).ty_ne HS.out.co (by decide)
          have n6 := (HS.out.ks.box s hs4).ty_ne (HS.out.ks.fu s hs4) (by decide)
          have n7 := And.intro (hv1.row_ne HS.out.row (by decide)) (hv1.ty_ne HS.out.co (by decide))
          have hkeep := keepV_any w0.heap.size wb cb (xb s) (fb s) g cap pb _ _ l ps free acc k (R s) (P k (decide ((l.getD k gt0).a ≤ R s))) _ (HW.out.below HS.out.bel) hz hfree HS.out.co ((HS.out.ks.box s hs4).cell (i := 0) rfl) (HS.out.ks.fu s hs4) HS.out.row HS.out.bel.size
            (by have := HS.out.len; omega) hk n1 n2 n3 n4 n5 n6 n7 (fun w' h => HP.out k _ w' hk (HS.out.bel.trans (h.mono HS.out.bel.size)))
          have HKp := Lib.hid hkeep
          have Hgo := Lib.hid hgo
          clear hkeep hgo hrw ha hpa hqr hv1 n1 n2 n3 n4 n5 n6 n7 hzx hs g0 g2 hgx
          generalize (l.getD k gt0).a = xa at *
          go_wp2_with fail
          refine HKp.out.mono ?_; rintro e w4 ⟨hno, hyes⟩
          generalize hfr : decide (xa ≤ R s) = fr at *
          cases hp : P k fr with
          | true =>
            obtain ⟨rfl, g', cap', hC4, hR4, hg4, hF4, ht4⟩ := hyes hp
            have hgo2 := Hgo.out
            rw [hp, if_pos rfl] at hgo2
            have hsz := HS.out.bel.size
            have hks4 := HS.out.ks.paid hs4 ht4 hF4 (HS.out.ks.map.ne_whole HS.out.co) (HS.out.ks.map.ne_row HS.out.row)
              (fun r hr => ⟨(HS.out.ks.box r hr).ty_ne HS.out.co (by decide), (HS.out.ks.box r hr).row_ne HS.out.row (by decide), fun e => HS.out.co.ty_ne (HS.out.ks.fu r hr) (by decide) e.symm, HS.out.gn r hr⟩)
            have hRe : (fun r : Nat => upT8 R (s : Int) (xa + free) (r : Int)) = fun r => if r = s then xa + free else R (r : Int) := by
              funext r
              unfold upT8
              by_cases e : r = s
              · rw [if_pos e, if_pos (by omega)]
              · rw [if_neg e, if_neg (by omega)]
            have hst4 : PasStV l free ps P tot w0 wb cb w.heap.size w.heap.size pb xb fb (i + 1) (acc ++ [(k : Int)]) g' cap' (upT8 R (s : Int) (xa + free)) w4 := by
              refine ⟨?_, hC4, hR4, fun r hr => ?_, ?_, by have := HS.out.len; simp; omega, hgo2, ?_⟩
              · show KsAt w4 _ _ _ _ _ _ (fun r : Nat => upT8 R (s : Int) (xa + free) (r : Int))
                rw [hRe]; exact hks4
              · rcases hg4 with e | e
                · rw [e]; exact HS.out.gn r hr
                · have := (HS.out.ks.fu r hr).lt; omega
              · rcases hg4 with e | e
                · rw [e]; exact HS.out.glo
                · omega
              · refine HS.out.bel.trans (ht4.below (fun j hj => ?_) hsz)
                rcases hj with rfl | rfl | rfl
                · exact hcb
                · have := (HS.out.ks.lo s hs4).2; have := HB0.out.size; omega
                · exact HS.out.glo
            have Hst4 := Lib.hid hst4
            clear hst4 hks4 hyes hno hC4 hR4 hg4 hF4 ht4 hgo2
            go_wp2
            refine ⟨?_, by simp [intOf]; omega⟩
            (repeat apply Exists.intro)
            exact ⟨⟨i + 1, _, _, _, _, hlt, by go_num, Hst4.out⟩, rfl⟩
          | false =>
            obtain ⟨rfl, hb4⟩ := hno hp
            have hgo2 := Hgo.out
            rw [hp, if_neg (by simp)] at hgo2
            cases fr with
            | true =>
              rw [if_pos (of_decide_eq_true hfr)] at hgo2
              have hst4 : PasStV l free ps P tot w0 wb cb w.heap.size w.heap.size pb xb fb (i + 1) acc g cap R w4 :=
                ⟨HS.out.ks.below hb4, HS.out.co.below hb4 HS.out.co.lt, HS.out.row.below hb4, HS.out.gn, HS.out.glo, by have := HS.out.len; omega, hgo2, HS.out.bel.trans (hb4.mono HS.out.bel.size)⟩
              have Hst4 := Lib.hid hst4
              clear hst4 hyes hno hb4 hgo2 hfr
              go_wp2
              refine ⟨?_, by simp [intOf]; omega⟩
              (repeat apply Exists.intro)
              exact ⟨⟨i + 1, _, _, _, _, hlt, by go_num, Hst4.out⟩, rfl⟩
            | false =>
              rw [if_neg (of_decide_eq_false hfr)] at hgo2
              have Hb := Lib.hid (HS.out.bel.trans (hb4.mono HS.out.bel.size))
              have Ht := Lib.hid hgo2
              clear hyes hno hb4 hgo2 hfr
              go_wp2
              go_ret
              exact ⟨Hb.out, fun xs h => (by rw [← Ht.out] at h; cases h), fun _ => rfl⟩
        · obtain rfl : i = ps.length := by omega
          have hgo := HS.out.go
          rw [List.drop_length] at hgo
          have Ht := Lib.hid (show some acc = tot from hgo)
          clear hgo
          go_wp2
          go_ret
          refine ⟨HS.out.bel, fun xs h => ?_, fun h => ?_⟩
          · rw [← Ht.out] at h
            injection h with h
            subst h
            exact ⟨rfl, g, cap, HS.out.co, HS.out.row⟩
          · rw [← Ht.out] at h; cases h

end Go.Proofs.Ythhllpnbmelidaa
