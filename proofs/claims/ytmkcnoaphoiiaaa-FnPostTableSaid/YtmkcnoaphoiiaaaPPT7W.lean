/- The law FnPostTable holds: its walk. -/
import Derived.Test.YtmkcnoaphoiiaaaDND
import Derived.Test.YtmkcnoaphoiiaaaJZPT
namespace Go.Proofs.Ytmkcnoaphoiiaaa.lawFnPostTable
open Go.ChangeShapes Go.WideShapes Go.ChangeAt Go.RowKit
set_option linter.unusedVariables false

set_option linter.unusedSimpArgs false
set_option maxRecDepth 100000 in
set_option maxHeartbeats 60000000 in
theorem walk (v : Value) (l : List Int) (v' : Value) (l' : List Int) (w : World) (hv : BytesIn w v l) (hm : l.length ≤ maxLen) (hv' : BytesIn w v' l') (hm' : l'.length ≤ maxLen) :
    Calls Try.prog 14 #[v, v'] w fun e w' => e = .returned (.bool true) ∧ Below w.heap.size w w' := by
  have Hv := Lib.hid hv
  obtain ⟨av, cv, rfl, hcv, _, _⟩ := hv
  obtain ⟨av', cv', rfl, hcv', _, _⟩ := hv'
  clear hcv hcv'
  by_cases hl : l.length ≤ 1048576
  · have hl' : ¬ (1048576 : Int) < (l.length : Int) := by omega
    by_cases hk : l'.length ≤ 1048576
    · have hk' : ¬ (1048576 : Int) < (l'.length : Int) := by omega
      go_enter Try.func14, Try.ntmps14
      go_wp2_with fail
      refine (drawPostTable_any _ l _ Hv.out hl).mono ?_; rintro e w1 ⟨n, sv, net, f, t, ch, rfl, n2, n6, hN, htot, ⟨t0, t1⟩, hch, hb1⟩
      have HN := Lib.hid hN
      have HB1 := Lib.hid hb1
      have wn : W64 n := by unfold W64; omega
      have H2 := Lib.hid (fun (t : Int) w' (hb : Below w1.heap.size w1 w') => postTable2_any n sv net f t ch w' (hN.below hb) (Nat.le_succ_of_le htot))
      have H1 := Lib.hid (fun (t : Int) w' (hb : Below w1.heap.size w1 w') => postTable1_any n sv net f t ch w' (hN.below hb) (Nat.le_succ_of_le htot) wn)
      have HA := Lib.hid (fun (i : Int) w' (hb : Below w1.heap.size w1 w') => postArrive2_any n sv net f i t ch w' (hN.below hb) (Nat.le_succ_of_le htot))
      clear hb1 hN htot hch
      have h2 := H2.out t
      have h1 := H1.out t
      cases hok : okT7 n net f t ch with
      | false =>
        rw [hok, ptX_no hok] at h2 h1
        have H2t := Lib.hid h2
        have H1t := Lib.hid h1
        clear h2 h1 hok H1 HA H2
        go_wp2_with fail
        refine (H2t.out _ (Below.refl _ _)).mono ?_; intro e w2 h2
        obtain ⟨v2, rfl, hi2, hb2⟩ := okIn h2
        have HI2 := Lib.hid hi2
        have HB2 := Lib.hid hb2
        clear h2 hi2 hb2
        go_wp2_with fail
        refine (H1t.out _ HB2.out).mono ?_; intro e w3 h3
        obtain ⟨v3, rfl, hi3, hb3⟩ := okIn h3
        have HJ3 := Lib.hid hi3
        have HI3 := Lib.hid (HI2.out.below hb3)
        have HB3 := Lib.hid (HB2.out.trans (hb3.mono HB2.out.size))
        clear h3 hi3 hb3
        go_wp2_with fail
        refine (sameInts_any _ _ [] [] _ HI3.out HJ3.out (by simp)).mono ?_; rintro e w4 ⟨⟨x, rfl, hx4⟩, hb4⟩
        obtain rfl : x = true := hx4.2 rfl
        have HI4 := Lib.hid (HI3.out.below hb4)
        have HJ4 := Lib.hid (HJ3.out.below hb4)
        have HB4 := Lib.hid (HB3.out.trans (hb4.mono HB3.out.size))
        clear hb4 hx4
        go_wp2_with fail
        refine (sameInts_any _ _ [] [] _ HI4.out HJ4.out (by simp)).mono ?_; rintro e w5 ⟨⟨x, rfl, hx5⟩, hb5⟩
        obtain rfl : x = true := hx5.2 rfl
        have HB5 := Lib.hid (HB4.out.trans (hb5.mono HB4.out.size))
        clear hb5 hx5
        go_wp2
        go_ret
        exact ⟨rfl, HB1.out.trans (HB5.out.mono HB1.out.size)⟩
      | true =>
        obtain ⟨o1, ⟨o2, o3⟩, ⟨o4, o5⟩, o6, o7⟩ := okT7_iff.1 hok
        have hlen := tabA_len (ch := ch) o1 ⟨o4, o5⟩ ⟨o6, o7⟩
        obtain ⟨N, rfl⟩ : ∃ N : Nat, n = (N : Int) := ⟨n.toNat, by omega⟩
        have hTN : (tabA (N : Int) net ch f t).length = N := by omega
        have Hlaw := Lib.hid (fun (i : Int) => table_law hok (i := i))
        have Hself := Lib.hid (table_self hok)
        have Hlater := Lib.hid (fun (t' : Int) (h : okT7 (N : Int) net f t' ch = true) (hle : t ≤ t') (i : Int) => table_later hok h hle (i := i))
        have HlenO := Lib.hid (fun (t' : Int) (h : okT7 (N : Int) net f t' ch = true) => show (tabA (N : Int) net ch f t').length = N by
          obtain ⟨p1, p2, p3, p4⟩ := okT7_iff.1 h
          have := tabA_len (ch := ch) p1 p3 p4
          omega)
        rw [hok, ptX_yes hok] at h2 h1
        clear hlen o1 o2 o3 o6 o7 hok H1
        obtain ⟨T, hT⟩ : ∃ T, T = tabA (N : Int) net ch f t := ⟨_, rfl⟩
        rw [← hT] at h2 h1 hTN Hlaw Hself Hlater
        have H2t := Lib.hid h2
        have H1t := Lib.hid h1
        have HTN := Lib.hid hTN
        have hT16 : T.length ≤ 1048576 := by omega
        have HT16 := Lib.hid hT16
        clear hT h2 h1 hT16
        obtain ⟨F, rfl⟩ : ∃ F : Nat, f = (F : Int) := ⟨f.toNat, by omega⟩
        have hF : F < N := by omega
        go_wp2_with fail
        refine (H2t.out _ (Below.refl _ _)).mono ?_; rintro e w2 ⟨ad, cp, rfl, hc2, ho2, _, hb2⟩
        have HI2 := Lib.hid (ho2.ints hc2)
        have HB2 := Lib.hid hb2
        obtain ⟨g, rfl, hgl, hat, _⟩ := ho2 (by rintro rfl; simp at hTN; omega)
        have HC := Lib.hid (fun (i : Nat) (hi : i < N) (W : World) (hb : Below w2.heap.size w2 W) => (show W.cell? ⟨g, i, none⟩ = some (.int .i64 (fT T (i : Int))) by
          have h9 := hat i (by rw [hTN]; exact hi)
          rw [Nat.zero_add] at h9
          rw [hb.cell (p := ⟨g, i, none⟩) hgl, h9, fT_get (by rw [hTN]; exact hi)]))
        rw [hTN]
        rw [hTN] at HI2
        clear hc2 ho2 hb2 hat
        go_wp2_with fail
        refine (H1t.out _ HB2.out).mono ?_; rintro e w3 ⟨ad3, cp3, rfl, hc3, ho3, _, hb3⟩
        have HJ3 := Lib.hid (ho3.ints hc3)
        have HI3 := Lib.hid (HI2.out.below hb3)
        have HB23 := Lib.hid hb3
        have HB3 := Lib.hid (HB2.out.trans (hb3.mono HB2.out.size))
        rw [hTN]
        rw [hTN] at HJ3
        clear hc3 ho3 hb3 hTN
        go_wp2_with fail
        refine (sameInts_any _ _ T T _ HI3.out HJ3.out HT16.out).mono ?_; rintro e w4 ⟨⟨x, rfl, hx4⟩, hb4⟩
        obtain rfl : x = true := hx4.2 rfl
        have HB24 := Lib.hid (HB23.out.trans (hb4.mono HB23.out.size))
        have HB4 := Lib.hid (HB3.out.trans (hb4.mono HB3.out.size))
        clear hb4 hx4
        obtain ⟨q, hq⟩ : ∃ q : Int, (l'.length : Int) % 20 = q := ⟨_, rfl⟩
        have hq0 : 0 ≤ q := by rw [← hq]; exact Int.emod_nonneg _ (by omega)
        have hq1 : q < 20 := by rw [← hq]; exact Int.emod_lt_of_pos _ (by omega)
        have hw1 : wrap64 (t + 1) = t + 1 := by unfold wrap64; omega
        have hw2 : wrap64 (t + 1 + q) = t + 1 + q := by unfold wrap64; omega
        go_wp2_with fail
        obtain ⟨t', ht'⟩ : ∃ t', t' = t + 1 + q := ⟨_, rfl⟩
        rw [← ht']
        have hle : t ≤ t' := by omega
        have hNN : ((N : Int) != (N : Int)) = false := by simp
        have h5 := H2.out t'
        clear ht' hw1 hw2
        cases hp : okT7 (N : Int) net (F : Int) t' ch with
        | false =>
          rw [hp, ptX_no hp] at h5
          have H5 := Lib.hid h5
          clear h5 hp Hlater HlenO
          refine (H5.out _ HB4.out).mono ?_; rintro e w5 ⟨ad5, cp5, rfl, _, _, _, hb5⟩
          have HB25 := Lib.hid (HB24.out.trans (hb5.mono HB24.out.size))
          have HB15 := Lib.hid (HB4.out.trans (hb5.mono HB4.out.size))
          clear hb5
          go_wp2
          go_loopw [16] (fun iv wr => ∃ i : Nat, i ≤ N ∧ iv = .int .i64 i ∧ Below w5.heap.size w5 wr) (fun iv _ => N - (intOf iv).toNat)
          case atStart => exact ⟨0, Nat.zero_le _, rfl, Below.refl _ _⟩
          case round =>
            obtain ⟨i, hi, rfl, hbel⟩ := hrel
            have HBr := Lib.hid hbel
            by_cases hlt : i < N
            · obtain ⟨hx1, hpa, hx2, hx3⟩ := Hlaw.out (i : Int) (by omega) (by omega)
              have hlt' : (i : Int) < (N : Int) := by omega
              have HK := Lib.hid (fun (w' : World) (h : Below w5.heap.size w5 w') => show Below w5.heap.size w5 w' ∧ w'.cell? ⟨g, i, none⟩ = some (.int .i64 (fT T (i : Int))) from ⟨h, HC.out i hlt _ (HB25.out.trans (h.mono HB25.out.size))⟩)
              have Hpa := Lib.hid hpa
              generalize fT T (i : Int) = x at *
              clear hpa hbel
              have hxx : (x != x) = false := by simp
              by_cases hx : 0 ≤ x
              · have d1 : decide (0 ≤ x) = true := decide_eq_true hx
                have d2 : decide (x < t) = false := decide_eq_false (by have := hx1 hx; omega)
                clear hx1 hx hx2 hx3
                have h9 := HA.out (i : Int)
                simp only [Hpa.out] at h9
                have HPA := Lib.hid h9
                clear h9
                obtain ⟨_, c0⟩ := HK.out wr HBr.out
                go_wp2_with fail
                refine wp_region_any (by kernel_rfl) ?_
                change wpAny _ _ _ _ 61 #[false, false, false, false, false, false, false, false, false, false, false, false, false, false, false, false, false, false, false, false, false, false, false, false, false, false, false, false, false, false, false, false, false, false, false, false, false, false, false, false, false, false, false, false, false, false, false, false, false, false, false, false, false, false, false, false, false, false, false, false, false] _ (World.drew _)
                refine with_Q (fun _ _ _ _ _ h => h) (fun Q hQ hN => ?_)
                refine with_sel (by kernel_rfl) (fun hsel => ?_)
                refine take_op (i := 0) (d := 91) (v := .slice (some ⟨g, 0, none⟩) N cp) rfl rfl hsel (by decide +kernel) (by decide +kernel) hQ (Or.inl ⟨by rfl, fun _ => by first | rfl | (go_simp; done) | (go_simp; rfl)⟩) ?_
                simp only [Act.put, List.setIfInBounds_toArray, List.set_cons_zero, List.set_cons_succ]
                refine take_op (i := 1) (d := 92) (v := .int .i64 N) rfl rfl hsel (by decide +kernel) (by decide +kernel) hQ (Or.inl ⟨by rfl, fun _ => by first | rfl | (go_simp; done) | (go_simp; rfl)⟩) ?_
                simp only [Act.put, List.setIfInBounds_toArray, List.set_cons_zero, List.set_cons_succ]
                refine take_op (i := 2) (d := 93) (v := .int .i64 N) rfl rfl hsel (by decide +kernel) (by decide +kernel) hQ (Or.inl ⟨by rfl, fun _ => by first | rfl | (go_simp; done) | (go_simp; rfl)⟩) ?_
                simp only [Act.put, List.setIfInBounds_toArray, List.set_cons_zero, List.set_cons_succ]
                refine take_op (i := 3) (d := 94) (v := .bool false) rfl rfl hsel (by decide +kernel) (by decide +kernel) hQ (Or.inl ⟨by rfl, fun _ => by first | rfl | (go_simp; done) | (go_simp; rfl)⟩) ?_
                simp only [Act.put, List.setIfInBounds_toArray, List.set_cons_zero, List.set_cons_succ]
                refine take_op (i := 4) (d := 95) (v := .bool false) rfl rfl hsel (by decide +kernel) (by decide +kernel) hQ (Or.inl ⟨by rfl, fun _ => by first | rfl | (go_simp; done) | (go_simp; rfl)⟩) ?_
                simp only [Act.put, List.setIfInBounds_toArray, List.set_cons_zero, List.set_cons_succ]
                refine take_op (i := 5) (d := 96) (v := .slice (some ⟨g, 0, none⟩) N cp) rfl rfl hsel (by decide +kernel) (by decide +kernel) hQ (Or.inl ⟨by rfl, fun _ => by first | rfl | (go_simp; done) | (go_simp; rfl)⟩) ?_
                simp only [Act.put, List.setIfInBounds_toArray, List.set_cons_zero, List.set_cons_succ]
                refine take_op (i := 6) (d := 97) (v := .int .i64 i) rfl rfl hsel (by decide +kernel) (by decide +kernel) hQ (Or.inl ⟨by rfl, fun _ => by first | rfl | (go_simp; done) | (go_simp; rfl)⟩) ?_
                simp only [Act.put, List.setIfInBounds_toArray, List.set_cons_zero, List.set_cons_succ]
                refine take_op (i := 7) (d := 98) (v := .pointer (some ⟨g, i, none⟩)) rfl rfl hsel (by decide +kernel) (by decide +kernel) hQ (Or.inl ⟨by rfl, fun _ => by first | rfl | (go_simp; done) | (go_simp; rfl)⟩) ?_
                simp only [Act.put, List.setIfInBounds_toArray, List.set_cons_zero, List.set_cons_succ]
                refine wpAny_ready (rs := [8]) (by decide +kernel) (by simp) ?_
                refine AllReady.cons rfl (fun K hK => ?_) AllReady.nil
                go_simp
                refine hK _ _ ?_
                try simp only [Act.put, List.setIfInBounds_toArray, List.set_cons_zero, List.set_cons_succ]
                clear hK K
                refine take_op (i := 9) (d := 100) (v := .bool true) rfl rfl hsel (by decide +kernel) (by decide +kernel) hQ (Or.inl ⟨by rfl, fun _ => by first | rfl | (go_simp; done) | (go_simp; rfl)⟩) ?_
                simp only [Act.put, List.setIfInBounds_toArray, List.set_cons_zero, List.set_cons_succ]
                refine take_op (i := 10) (d := 101) (v := .bool true) rfl rfl hsel (by decide +kernel) (by decide +kernel) hQ (Or.inl ⟨by rfl, fun _ => by first | rfl | (go_simp; done) | (go_simp; rfl)⟩) ?_
                simp only [Act.put, List.setIfInBounds_toArray, List.set_cons_zero, List.set_cons_succ]
                refine take_op (i := 11) (d := 102) (v := .slice (some ⟨g, 0, none⟩) N cp) rfl rfl hsel (by decide +kernel) (by decide +kernel) hQ (Or.inl ⟨by rfl, fun _ => by first | rfl | (go_simp; done) | (go_simp; rfl)⟩) ?_
                simp only [Act.put, List.setIfInBounds_toArray, List.set_cons_zero, List.set_cons_succ]
                refine take_op (i := 12) (d := 103) (v := .int .i64 i) rfl rfl hsel (by decide +kernel) (by decide +kernel) hQ (Or.inl ⟨by rfl, fun _ => by first | rfl | (go_simp; done) | (go_simp; rfl)⟩) ?_
                simp only [Act.put, List.setIfInBounds_toArray, List.set_cons_zero, List.set_cons_succ]
                refine take_op (i := 13) (d := 104) (v := .pointer (some ⟨g, i, none⟩)) rfl rfl hsel (by decide +kernel) (by decide +kernel) hQ (Or.inl ⟨by rfl, fun _ => by first | rfl | (go_simp; done) | (go_simp; rfl)⟩) ?_
                simp only [Act.put, List.setIfInBounds_toArray, List.set_cons_zero, List.set_cons_succ]
                refine take_op (i := 15) (d := 106) (v := .int .i64 t) rfl rfl hsel (by decide +kernel) (by decide +kernel) hQ (Or.inl ⟨by rfl, fun _ => by first | rfl | (go_simp; done) | (go_simp; rfl)⟩) ?_
                simp only [Act.put, List.setIfInBounds_toArray, List.set_cons_zero, List.set_cons_succ]
                refine wpAny_ready (rs := [14]) (by decide +kernel) (by simp) ?_
                refine AllReady.cons rfl (fun K hK => ?_) AllReady.nil
                go_simp
                refine hK _ _ ?_
                try simp only [Act.put, List.setIfInBounds_toArray, List.set_cons_zero, List.set_cons_succ]
                clear hK K
                refine take_op (i := 16) (d := 107) (v := .bool false) rfl rfl hsel (by decide +kernel) (by decide +kernel) hQ (Or.inl ⟨by rfl, fun _ => by first | rfl | (go_simp; done) | (go_simp; rfl)⟩) ?_
                simp only [Act.put, List.setIfInBounds_toArray, List.set_cons_zero, List.set_cons_succ]
                refine take_op (i := 17) (d := 108) (v := .bool false) rfl rfl hsel (by decide +kernel) (by decide +kernel) hQ (Or.inl ⟨by rfl, fun _ => by first | rfl | (go_simp; done) | (go_simp; rfl)⟩) ?_
                simp only [Act.put, List.setIfInBounds_toArray, List.set_cons_zero, List.set_cons_succ]
                refine take_op (i := 18) (d := 109) (v := .bool false) rfl rfl hsel (by decide +kernel) (by decide +kernel) hQ (Or.inl ⟨by rfl, fun _ => by first | rfl | (go_simp; done) | (go_simp; rfl)⟩) ?_
                simp only [Act.put, List.setIfInBounds_toArray, List.set_cons_zero, List.set_cons_succ]
                refine take_op (i := 19) (d := 110) (v := .bool false) rfl rfl hsel (by decide +kernel) (by decide +kernel) hQ (Or.inl ⟨by rfl, fun _ => by first | rfl | (go_simp; done) | (go_simp; rfl)⟩) ?_
                simp only [Act.put, List.setIfInBounds_toArray, List.set_cons_zero, List.set_cons_succ]
                refine take_op (i := 20) (d := 111) (v := .int .i64 N) rfl rfl hsel (by decide +kernel) (by decide +kernel) hQ (Or.inl ⟨by rfl, fun _ => by first | rfl | (go_simp; done) | (go_simp; rfl)⟩) ?_
                simp only [Act.put, List.setIfInBounds_toArray, List.set_cons_zero, List.set_cons_succ]
                refine take_op (i := 21) (d := 112) (v := sv) rfl rfl hsel (by decide +kernel) (by decide +kernel) hQ (Or.inl ⟨by rfl, fun _ => by first | rfl | (go_simp; done) | (go_simp; rfl)⟩) ?_
                simp only [Act.put, List.setIfInBounds_toArray, List.set_cons_zero, List.set_cons_succ]
                refine take_op (i := 22) (d := 113) (v := .int .i64 F) rfl rfl hsel (by decide +kernel) (by decide +kernel) hQ (Or.inl ⟨by rfl, fun _ => by first | rfl | (go_simp; done) | (go_simp; rfl)⟩) ?_
                simp only [Act.put, List.setIfInBounds_toArray, List.set_cons_zero, List.set_cons_succ]
                refine take_op (i := 23) (d := 114) (v := .int .i64 i) rfl rfl hsel (by decide +kernel) (by decide +kernel) hQ (Or.inl ⟨by rfl, fun _ => by first | rfl | (go_simp; done) | (go_simp; rfl)⟩) ?_
                simp only [Act.put, List.setIfInBounds_toArray, List.set_cons_zero, List.set_cons_succ]
                refine take_op (i := 24) (d := 115) (v := .int .i64 t) rfl rfl hsel (by decide +kernel) (by decide +kernel) hQ (Or.inl ⟨by rfl, fun _ => by first | rfl | (go_simp; done) | (go_simp; rfl)⟩) ?_
                simp only [Act.put, List.setIfInBounds_toArray, List.set_cons_zero, List.set_cons_succ]
                refine take_op (i := 25) (d := 116) (v := .int .i64 ch) rfl rfl hsel (by decide +kernel) (by decide +kernel) hQ (Or.inl ⟨by rfl, fun _ => by first | rfl | (go_simp; done) | (go_simp; rfl)⟩) ?_
                simp only [Act.put, List.setIfInBounds_toArray, List.set_cons_zero, List.set_cons_succ]
                refine take_op (i := 27) (d := 118) (v := .slice (some ⟨g, 0, none⟩) N cp) rfl rfl hsel (by decide +kernel) (by decide +kernel) hQ (Or.inl ⟨by rfl, fun _ => by first | rfl | (go_simp; done) | (go_simp; rfl)⟩) ?_
                simp only [Act.put, List.setIfInBounds_toArray, List.set_cons_zero, List.set_cons_succ]
                refine take_op (i := 28) (d := 119) (v := .int .i64 i) rfl rfl hsel (by decide +kernel) (by decide +kernel) hQ (Or.inl ⟨by rfl, fun _ => by first | rfl | (go_simp; done) | (go_simp; rfl)⟩) ?_
                simp only [Act.put, List.setIfInBounds_toArray, List.set_cons_zero, List.set_cons_succ]
                refine take_op (i := 29) (d := 120) (v := .pointer (some ⟨g, i, none⟩)) rfl rfl hsel (by decide +kernel) (by decide +kernel) hQ (Or.inl ⟨by rfl, fun _ => by first | rfl | (go_simp; done) | (go_simp; rfl)⟩) ?_
                simp only [Act.put, List.setIfInBounds_toArray, List.set_cons_zero, List.set_cons_succ]
                refine wpAny_ready (rs := [26, 30]) (by decide +kernel) (by simp) ?_
                refine AllReady.cons rfl (fun K hK => ?_) (AllReady.cons rfl (fun K hK => ?_) AllReady.nil)
                · go_simp
                  go_at_call 35
                  refine (HPA.out _ ((HB15.out.trans (HBr.out.mono HB15.out.size)).drew)).mono ?_; rintro e w6 ⟨rfl, hb6⟩
                  have hb6' : Below wr.heap.size wr w6 := ((Below.refl _ _).drew).trans (hb6.mono (Nat.le_refl _))
                  have hb56 := HBr.out.trans (hb6'.mono HBr.out.size)
                  have c6 := (HK.out w6 hb56).2
                  have HB6 := Lib.hid hb56
                  clear hb6 hb6' hb56
                  refine hK _ _ ?_
                  try simp only [Act.put, List.setIfInBounds_toArray, List.set_cons_zero, List.set_cons_succ]
                  clear hK K
                  refine wpAny_ready (rs := [30]) (by decide +kernel) (by simp) ?_
                  refine AllReady.cons rfl (fun K hK => ?_) AllReady.nil
                  go_simp
                  refine hK _ _ ?_
                  try simp only [Act.put, List.setIfInBounds_toArray, List.set_cons_zero, List.set_cons_succ]
                  clear hK K
                  refine take_op (i := 31) (d := 122) (v := .bool false) rfl rfl hsel (by decide +kernel) (by decide +kernel) hQ (Or.inl ⟨by rfl, fun _ => by first | rfl | (go_simp; done) | (go_simp; rfl)⟩) ?_
                  simp only [Act.put, List.setIfInBounds_toArray, List.set_cons_zero, List.set_cons_succ]
                  refine take_op (i := 32) (d := 123) (v := .bool false) rfl rfl hsel (by decide +kernel) (by decide +kernel) hQ (Or.inl ⟨by rfl, fun _ => by first | rfl | (go_simp; done) | (go_simp; rfl)⟩) ?_
                  simp only [Act.put, List.setIfInBounds_toArray, List.set_cons_zero, List.set_cons_succ]
                  refine take_op (i := 33) (d := 124) (v := .bool false) rfl rfl hsel (by decide +kernel) (by decide +kernel) hQ (Or.inl ⟨by rfl, fun _ => by first | rfl | (go_simp; done) | (go_simp; rfl)⟩) ?_
                  simp only [Act.put, List.setIfInBounds_toArray, List.set_cons_zero, List.set_cons_succ]
                  refine take_op (i := 34) (d := 125) (v := .bool false) rfl rfl hsel (by decide +kernel) (by decide +kernel) hQ (Or.inl ⟨by rfl, fun _ => by first | rfl | (go_simp; done) | (go_simp; rfl)⟩) ?_
                  simp only [Act.put, List.setIfInBounds_toArray, List.set_cons_zero, List.set_cons_succ]
                  refine take_op (i := 35) (d := 126) (v := .bool false) rfl rfl hsel (by decide +kernel) (by decide +kernel) hQ (Or.inl ⟨by rfl, fun _ => by first | rfl | (go_simp; done) | (go_simp; rfl)⟩) ?_
                  simp only [Act.put, List.setIfInBounds_toArray, List.set_cons_zero, List.set_cons_succ]
                  change wpAny _ _ _ _ (20 + ([(36, 127), (37, 128), (38, 129), (39, 130), (40, 131)] : List (Nat × Nat)).length) _ _ _
                  refine take_unds hsel hQ [(36, 127), (37, 128), (38, 129), (39, 130), (40, 131)] 20 _ _ (by decide +kernel) (by kernel_rfl) ?_
                  change wpAny _ _ _ _ 20 #[true, true, true, true, true, true, true, true, true, true, true, true, true, true, true, true, true, true, true, true, true, true, true, true, true, true, true, true, true, true, true, true, true, true, true, true, true, true, true, true, true, false, false, false, false, false, false, false, false, false, false, false, false, false, false, false, false, false, false, false, false] _ _
                  simp only [List.foldl_cons, List.foldl_nil, Act.put, List.setIfInBounds_toArray, List.set_cons_zero, List.set_cons_succ]
                  refine take_op (i := 41) (d := 132) (v := .bool false) rfl rfl hsel (by decide +kernel) (by decide +kernel) hQ (Or.inl ⟨by rfl, fun _ => by first | rfl | (go_simp; done) | (go_simp; rfl)⟩) ?_
                  simp only [Act.put, List.setIfInBounds_toArray, List.set_cons_zero, List.set_cons_succ]
                  refine take_op (i := 42) (d := 133) (v := .bool false) rfl rfl hsel (by decide +kernel) (by decide +kernel) hQ (Or.inl ⟨by rfl, fun _ => by first | rfl | (go_simp; done) | (go_simp; rfl)⟩) ?_
                  simp only [Act.put, List.setIfInBounds_toArray, List.set_cons_zero, List.set_cons_succ]
                  change wpAny _ _ _ _ (2 + ([(43, 134), (44, 135), (45, 136), (46, 137), (47, 138), (48, 139), (49, 140), (50, 141), (51, 142), (52, 143), (53, 144), (54, 145), (55, 146), (56, 147), (57, 148), (58, 149)] : List (Nat × Nat)).length) _ _ _
                  refine take_unds hsel hQ [(43, 134), (44, 135), (45, 136), (46, 137), (47, 138), (48, 139), (49, 140), (50, 141), (51, 142), (52, 143), (53, 144), (54, 145), (55, 146), (56, 147), (57, 148), (58, 149)] 2 _ _ (by decide +kernel) (by kernel_rfl) ?_
                  change wpAny _ _ _ _ 2 #[true, true, true, true, true, true, true, true, true, true, true, true, true, true, true, true, true, true, true, true, true, true, true, true, true, true, true, true, true, true, true, true, true, true, true, true, true, true, true, true, true, true, true, true, true, true, true, true, true, true, true, true, true, true, true, true, true, true, true, false, false] _ _
                  simp only [List.foldl_cons, List.foldl_nil, Act.put, List.setIfInBounds_toArray, List.set_cons_zero, List.set_cons_succ]
                  refine take_op (i := 59) (d := 150) (v := .bool false) rfl rfl hsel (by decide +kernel) (by decide +kernel) hQ (Or.inl ⟨by rfl, fun _ => by first | rfl | (go_simp; done) | (go_simp; rfl)⟩) ?_
                  simp only [Act.put, List.setIfInBounds_toArray, List.set_cons_zero, List.set_cons_succ]
                  refine take_op (i := 60) (d := 151) (v := .bool false) rfl rfl hsel (by decide +kernel) (by decide +kernel) hQ (Or.inl ⟨by rfl, fun _ => by first | rfl | (go_simp; done) | (go_simp; rfl)⟩) ?_
                  simp only [Act.put, List.setIfInBounds_toArray, List.set_cons_zero, List.set_cons_succ]
                  refine wpAny_done (by kernel_rfl) (hN _ _ ?_) _
                  go_wp2
                  exact ⟨⟨i + 1, hlt, by go_num, HB6.out⟩, by simp [intOf]; omega⟩
                · go_simp
                  refine hK _ _ ?_
                  try simp only [Act.put, List.setIfInBounds_toArray, List.set_cons_zero, List.set_cons_succ]
                  clear hK K
                  refine wpAny_ready (rs := [26]) (by decide +kernel) (by simp) ?_
                  refine AllReady.cons rfl (fun K hK => ?_) AllReady.nil
                  go_simp
                  go_at_call 35
                  refine (HPA.out _ ((HB15.out.trans (HBr.out.mono HB15.out.size)).drew)).mono ?_; rintro e w6 ⟨rfl, hb6⟩
                  have hb6' : Below wr.heap.size wr w6 := ((Below.refl _ _).drew).trans (hb6.mono (Nat.le_refl _))
                  have hb56 := HBr.out.trans (hb6'.mono HBr.out.size)
                  have c6 := (HK.out w6 hb56).2
                  have HB6 := Lib.hid hb56
                  clear hb6 hb6' hb56
                  refine hK _ _ ?_
                  try simp only [Act.put, List.setIfInBounds_toArray, List.set_cons_zero, List.set_cons_succ]
                  clear hK K
                  refine take_op (i := 31) (d := 122) (v := .bool false) rfl rfl hsel (by decide +kernel) (by decide +kernel) hQ (Or.inl ⟨by rfl, fun _ => by first | rfl | (go_simp; done) | (go_simp; rfl)⟩) ?_
                  simp only [Act.put, List.setIfInBounds_toArray, List.set_cons_zero, List.set_cons_succ]
                  refine take_op (i := 32) (d := 123) (v := .bool false) rfl rfl hsel (by decide +kernel) (by decide +kernel) hQ (Or.inl ⟨by rfl, fun _ => by first | rfl | (go_simp; done) | (go_simp; rfl)⟩) ?_
                  simp only [Act.put, List.setIfInBounds_toArray, List.set_cons_zero, List.set_cons_succ]
                  refine take_op (i := 33) (d := 124) (v := .bool false) rfl rfl hsel (by decide +kernel) (by decide +kernel) hQ (Or.inl ⟨by rfl, fun _ => by first | rfl | (go_simp; done) | (go_simp; rfl)⟩) ?_
                  simp only [Act.put, List.setIfInBounds_toArray, List.set_cons_zero, List.set_cons_succ]
                  refine take_op (i := 34) (d := 125) (v := .bool false) rfl rfl hsel (by decide +kernel) (by decide +kernel) hQ (Or.inl ⟨by rfl, fun _ => by first | rfl | (go_simp; done) | (go_simp; rfl)⟩) ?_
                  simp only [Act.put, List.setIfInBounds_toArray, List.set_cons_zero, List.set_cons_succ]
                  refine take_op (i := 35) (d := 126) (v := .bool false) rfl rfl hsel (by decide +kernel) (by decide +kernel) hQ (Or.inl ⟨by rfl, fun _ => by first | rfl | (go_simp; done) | (go_simp; rfl)⟩) ?_
                  simp only [Act.put, List.setIfInBounds_toArray, List.set_cons_zero, List.set_cons_succ]
                  change wpAny _ _ _ _ (20 + ([(36, 127), (37, 128), (38, 129), (39, 130), (40, 131)] : List (Nat × Nat)).length) _ _ _
                  refine take_unds hsel hQ [(36, 127), (37, 128), (38, 129), (39, 130), (40, 131)] 20 _ _ (by decide +kernel) (by kernel_rfl) ?_
                  change wpAny _ _ _ _ 20 #[true, true, true, true, true, true, true, true, true, true, true, true, true, true, true, true, true, true, true, true, true, true, true, true, true, true, true, true, true, true, true, true, true, true, true, true, true, true, true, true, true, false, false, false, false, false, false, false, false, false, false, false, false, false, false, false, false, false, false, false, false] _ _
                  simp only [List.foldl_cons, List.foldl_nil, Act.put, List.setIfInBounds_toArray, List.set_cons_zero, List.set_cons_succ]
                  refine take_op (i := 41) (d := 132) (v := .bool false) rfl rfl hsel (by decide +kernel) (by decide +kernel) hQ (Or.inl ⟨by rfl, fun _ => by first | rfl | (go_simp; done) | (go_simp; rfl)⟩) ?_
                  simp only [Act.put, List.setIfInBounds_toArray, List.set_cons_zero, List.set_cons_succ]
                  refine take_op (i := 42) (d := 133) (v := .bool false) rfl rfl hsel (by decide +kernel) (by decide +kernel) hQ (Or.inl ⟨by rfl, fun _ => by first | rfl | (go_simp; done) | (go_simp; rfl)⟩) ?_
                  simp only [Act.put, List.setIfInBounds_toArray, List.set_cons_zero, List.set_cons_succ]
                  change wpAny _ _ _ _ (2 + ([(43, 134), (44, 135), (45, 136), (46, 137), (47, 138), (48, 139), (49, 140), (50, 141), (51, 142), (52, 143), (53, 144), (54, 145), (55, 146), (56, 147), (57, 148), (58, 149)] : List (Nat × Nat)).length) _ _ _
                  refine take_unds hsel hQ [(43, 134), (44, 135), (45, 136), (46, 137), (47, 138), (48, 139), (49, 140), (50, 141), (51, 142), (52, 143), (53, 144), (54, 145), (55, 146), (56, 147), (57, 148), (58, 149)] 2 _ _ (by decide +kernel) (by kernel_rfl) ?_
                  change wpAny _ _ _ _ 2 #[true, true, true, true, true, true, true, true, true, true, true, true, true, true, true, true, true, true, true, true, true, true, true, true, true, true, true, true, true, true, true, true, true, true, true, true, true, true, true, true, true, true, true, true, true, true, true, true, true, true, true, true, true, true, true, true, true, true, true, false, false] _ _
                  simp only [List.foldl_cons, List.foldl_nil, Act.put, List.setIfInBounds_toArray, List.set_cons_zero, List.set_cons_succ]
                  refine take_op (i := 59) (d := 150) (v := .bool false) rfl rfl hsel (by decide +kernel) (by decide +kernel) hQ (Or.inl ⟨by rfl, fun _ => by first | rfl | (go_simp; done) | (go_simp; rfl)⟩) ?_
                  simp only [Act.put, List.setIfInBounds_toArray, List.set_cons_zero, List.set_cons_succ]
                  refine take_op (i := 60) (d := 151) (v := .bool false) rfl rfl hsel (by decide +kernel) (by decide +kernel) hQ (Or.inl ⟨by rfl, fun _ => by first | rfl | (go_simp; done) | (go_simp; rfl)⟩) ?_
                  simp only [Act.put, List.setIfInBounds_toArray, List.set_cons_zero, List.set_cons_succ]
                  refine wpAny_done (by kernel_rfl) (hN _ _ ?_) _
                  go_wp2
                  exact ⟨⟨i + 1, hlt, by go_num, HB6.out⟩, by simp [intOf]; omega⟩
              · have d1 : decide (0 ≤ x) = false := decide_eq_false hx
                clear hx1 hx hx2 hx3
                have h9 := HA.out (i : Int)
                simp only [Hpa.out] at h9
                have HPA := Lib.hid h9
                clear h9
                obtain ⟨_, c0⟩ := HK.out wr HBr.out
                go_wp2_with fail
                refine wp_region_any (by kernel_rfl) ?_
                change wpAny _ _ _ _ 61 #[false, false, false, false, false, false, false, false, false, false, false, false, false, false, false, false, false, false, false, false, false, false, false, false, false, false, false, false, false, false, false, false, false, false, false, false, false, false, false, false, false, false, false, false, false, false, false, false, false, false, false, false, false, false, false, false, false, false, false, false, false] _ (World.drew _)
                refine with_Q (fun _ _ _ _ _ h => h) (fun Q hQ hN => ?_)
                refine with_sel (by kernel_rfl) (fun hsel => ?_)
                refine take_op (i := 0) (d := 91) (v := .slice (some ⟨g, 0, none⟩) N cp) rfl rfl hsel (by decide +kernel) (by decide +kernel) hQ (Or.inl ⟨by rfl, fun _ => by first | rfl | (go_simp; done) | (go_simp; rfl)⟩) ?_
                simp only [Act.put, List.setIfInBounds_toArray, List.set_cons_zero, List.set_cons_succ]
                refine take_op (i := 1) (d := 92) (v := .int .i64 N) rfl rfl hsel (by decide +kernel) (by decide +kernel) hQ (Or.inl ⟨by rfl, fun _ => by first | rfl | (go_simp; done) | (go_simp; rfl)⟩) ?_
                simp only [Act.put, List.setIfInBounds_toArray, List.set_cons_zero, List.set_cons_succ]
                refine take_op (i := 2) (d := 93) (v := .int .i64 N) rfl rfl hsel (by decide +kernel) (by decide +kernel) hQ (Or.inl ⟨by rfl, fun _ => by first | rfl | (go_simp; done) | (go_simp; rfl)⟩) ?_
                simp only [Act.put, List.setIfInBounds_toArray, List.set_cons_zero, List.set_cons_succ]
                refine take_op (i := 3) (d := 94) (v := .bool false) rfl rfl hsel (by decide +kernel) (by decide +kernel) hQ (Or.inl ⟨by rfl, fun _ => by first | rfl | (go_simp; done) | (go_simp; rfl)⟩) ?_
                simp only [Act.put, List.setIfInBounds_toArray, List.set_cons_zero, List.set_cons_succ]
                refine take_op (i := 4) (d := 95) (v := .bool false) rfl rfl hsel (by decide +kernel) (by decide +kernel) hQ (Or.inl ⟨by rfl, fun _ => by first | rfl | (go_simp; done) | (go_simp; rfl)⟩) ?_
                simp only [Act.put, List.setIfInBounds_toArray, List.set_cons_zero, List.set_cons_succ]
                refine take_op (i := 5) (d := 96) (v := .slice (some ⟨g, 0, none⟩) N cp) rfl rfl hsel (by decide +kernel) (by decide +kernel) hQ (Or.inl ⟨by rfl, fun _ => by first | rfl | (go_simp; done) | (go_simp; rfl)⟩) ?_
                simp only [Act.put, List.setIfInBounds_toArray, List.set_cons_zero, List.set_cons_succ]
                refine take_op (i := 6) (d := 97) (v := .int .i64 i) rfl rfl hsel (by decide +kernel) (by decide +kernel) hQ (Or.inl ⟨by rfl, fun _ => by first | rfl | (go_simp; done) | (go_simp; rfl)⟩) ?_
                simp only [Act.put, List.setIfInBounds_toArray, List.set_cons_zero, List.set_cons_succ]
                refine take_op (i := 7) (d := 98) (v := .pointer (some ⟨g, i, none⟩)) rfl rfl hsel (by decide +kernel) (by decide +kernel) hQ (Or.inl ⟨by rfl, fun _ => by first | rfl | (go_simp; done) | (go_simp; rfl)⟩) ?_
                simp only [Act.put, List.setIfInBounds_toArray, List.set_cons_zero, List.set_cons_succ]
                refine wpAny_ready (rs := [8]) (by decide +kernel) (by simp) ?_
                refine AllReady.cons rfl (fun K hK => ?_) AllReady.nil
                go_simp
                refine hK _ _ ?_
                try simp only [Act.put, List.setIfInBounds_toArray, List.set_cons_zero, List.set_cons_succ]
                clear hK K
                refine take_op (i := 9) (d := 100) (v := .bool false) rfl rfl hsel (by decide +kernel) (by decide +kernel) hQ (Or.inl ⟨by rfl, fun _ => by first | rfl | (go_simp; done) | (go_simp; rfl)⟩) ?_
                simp only [Act.put, List.setIfInBounds_toArray, List.set_cons_zero, List.set_cons_succ]
                refine take_op (i := 10) (d := 101) (v := .bool false) rfl rfl hsel (by decide +kernel) (by decide +kernel) hQ (Or.inl ⟨by rfl, fun _ => by first | rfl | (go_simp; done) | (go_simp; rfl)⟩) ?_
                simp only [Act.put, List.setIfInBounds_toArray, List.set_cons_zero, List.set_cons_succ]
                change wpAny _ _ _ _ (44 + ([(11, 102), (12, 103), (13, 104), (14, 105), (15, 106), (16, 107)] : List (Nat × Nat)).length) _ _ _
                refine take_unds hsel hQ [(11, 102), (12, 103), (13, 104), (14, 105), (15, 106), (16, 107)] 44 _ _ (by decide +kernel) (by kernel_rfl) ?_
                change wpAny _ _ _ _ 44 #[true, true, true, true, true, true, true, true, true, true, true, true, true, true, true, true, true, false, false, false, false, false, false, false, false, false, false, false, false, false, false, false, false, false, false, false, false, false, false, false, false, false, false, false, false, false, false, false, false, false, false, false, false, false, false, false, false, false, false, false, false] _ _
                simp only [List.foldl_cons, List.foldl_nil, Act.put, List.setIfInBounds_toArray, List.set_cons_zero, List.set_cons_succ]
                refine take_op (i := 17) (d := 108) (v := .bool false) rfl rfl hsel (by decide +kernel) (by decide +kernel) hQ (Or.inl ⟨by rfl, fun _ => by first | rfl | (go_simp; done) | (go_simp; rfl)⟩) ?_
                simp only [Act.put, List.setIfInBounds_toArray, List.set_cons_zero, List.set_cons_succ]
                refine take_op (i := 18) (d := 109) (v := .bool false) rfl rfl hsel (by decide +kernel) (by decide +kernel) hQ (Or.inl ⟨by rfl, fun _ => by first | rfl | (go_simp; done) | (go_simp; rfl)⟩) ?_
                simp only [Act.put, List.setIfInBounds_toArray, List.set_cons_zero, List.set_cons_succ]
                refine take_op (i := 19) (d := 110) (v := .bool false) rfl rfl hsel (by decide +kernel) (by decide +kernel) hQ (Or.inl ⟨by rfl, fun _ => by first | rfl | (go_simp; done) | (go_simp; rfl)⟩) ?_
                simp only [Act.put, List.setIfInBounds_toArray, List.set_cons_zero, List.set_cons_succ]
                refine take_op (i := 20) (d := 111) (v := .int .i64 N) rfl rfl hsel (by decide +kernel) (by decide +kernel) hQ (Or.inl ⟨by rfl, fun _ => by first | rfl | (go_simp; done) | (go_simp; rfl)⟩) ?_
                simp only [Act.put, List.setIfInBounds_toArray, List.set_cons_zero, List.set_cons_succ]
                refine take_op (i := 21) (d := 112) (v := sv) rfl rfl hsel (by decide +kernel) (by decide +kernel) hQ (Or.inl ⟨by rfl, fun _ => by first | rfl | (go_simp; done) | (go_simp; rfl)⟩) ?_
                simp only [Act.put, List.setIfInBounds_toArray, List.set_cons_zero, List.set_cons_succ]
                refine take_op (i := 22) (d := 113) (v := .int .i64 F) rfl rfl hsel (by decide +kernel) (by decide +kernel) hQ (Or.inl ⟨by rfl, fun _ => by first | rfl | (go_simp; done) | (go_simp; rfl)⟩) ?_
                simp only [Act.put, List.setIfInBounds_toArray, List.set_cons_zero, List.set_cons_succ]
                refine take_op (i := 23) (d := 114) (v := .int .i64 i) rfl rfl hsel (by decide +kernel) (by decide +kernel) hQ (Or.inl ⟨by rfl, fun _ => by first | rfl | (go_simp; done) | (go_simp; rfl)⟩) ?_
                simp only [Act.put, List.setIfInBounds_toArray, List.set_cons_zero, List.set_cons_succ]
                refine take_op (i := 24) (d := 115) (v := .int .i64 t) rfl rfl hsel (by decide +kernel) (by decide +kernel) hQ (Or.inl ⟨by rfl, fun _ => by first | rfl | (go_simp; done) | (go_simp; rfl)⟩) ?_
                simp only [Act.put, List.setIfInBounds_toArray, List.set_cons_zero, List.set_cons_succ]
                refine take_op (i := 25) (d := 116) (v := .int .i64 ch) rfl rfl hsel (by decide +kernel) (by decide +kernel) hQ (Or.inl ⟨by rfl, fun _ => by first | rfl | (go_simp; done) | (go_simp; rfl)⟩) ?_
                simp only [Act.put, List.setIfInBounds_toArray, List.set_cons_zero, List.set_cons_succ]
                refine take_op (i := 27) (d := 118) (v := .slice (some ⟨g, 0, none⟩) N cp) rfl rfl hsel (by decide +kernel) (by decide +kernel) hQ (Or.inl ⟨by rfl, fun _ => by first | rfl | (go_simp; done) | (go_simp; rfl)⟩) ?_
                simp only [Act.put, List.setIfInBounds_toArray, List.set_cons_zero, List.set_cons_succ]
                refine take_op (i := 28) (d := 119) (v := .int .i64 i) rfl rfl hsel (by decide +kernel) (by decide +kernel) hQ (Or.inl ⟨by rfl, fun _ => by first | rfl | (go_simp; done) | (go_simp; rfl)⟩) ?_
                simp only [Act.put, List.setIfInBounds_toArray, List.set_cons_zero, List.set_cons_succ]
                refine take_op (i := 29) (d := 120) (v := .pointer (some ⟨g, i, none⟩)) rfl rfl hsel (by decide +kernel) (by decide +kernel) hQ (Or.inl ⟨by rfl, fun _ => by first | rfl | (go_simp; done) | (go_simp; rfl)⟩) ?_
                simp only [Act.put, List.setIfInBounds_toArray, List.set_cons_zero, List.set_cons_succ]
                refine wpAny_ready (rs := [26, 30]) (by decide +kernel) (by simp) ?_
                refine AllReady.cons rfl (fun K hK => ?_) (AllReady.cons rfl (fun K hK => ?_) AllReady.nil)
                · go_simp
                  go_at_call 35
                  refine (HPA.out _ ((HB15.out.trans (HBr.out.mono HB15.out.size)).drew)).mono ?_; rintro e w6 ⟨rfl, hb6⟩
                  have hb6' : Below wr.heap.size wr w6 := ((Below.refl _ _).drew).trans (hb6.mono (Nat.le_refl _))
                  have hb56 := HBr.out.trans (hb6'.mono HBr.out.size)
                  have c6 := (HK.out w6 hb56).2
                  have HB6 := Lib.hid hb56
                  clear hb6 hb6' hb56
                  refine hK _ _ ?_
                  try simp only [Act.put, List.setIfInBounds_toArray, List.set_cons_zero, List.set_cons_succ]
                  clear hK K
                  refine wpAny_ready (rs := [30]) (by decide +kernel) (by simp) ?_
                  refine AllReady.cons rfl (fun K hK => ?_) AllReady.nil
                  go_simp
                  refine hK _ _ ?_
                  try simp only [Act.put, List.setIfInBounds_toArray, List.set_cons_zero, List.set_cons_succ]
                  clear hK K
                  refine take_op (i := 31) (d := 122) (v := .bool false) rfl rfl hsel (by decide +kernel) (by decide +kernel) hQ (Or.inl ⟨by rfl, fun _ => by first | rfl | (go_simp; done) | (go_simp; rfl)⟩) ?_
                  simp only [Act.put, List.setIfInBounds_toArray, List.set_cons_zero, List.set_cons_succ]
                  refine take_op (i := 32) (d := 123) (v := .bool false) rfl rfl hsel (by decide +kernel) (by decide +kernel) hQ (Or.inl ⟨by rfl, fun _ => by first | rfl | (go_simp; done) | (go_simp; rfl)⟩) ?_
                  simp only [Act.put, List.setIfInBounds_toArray, List.set_cons_zero, List.set_cons_succ]
                  refine take_op (i := 33) (d := 124) (v := .bool false) rfl rfl hsel (by decide +kernel) (by decide +kernel) hQ (Or.inl ⟨by rfl, fun _ => by first | rfl | (go_simp; done) | (go_simp; rfl)⟩) ?_
                  simp only [Act.put, List.setIfInBounds_toArray, List.set_cons_zero, List.set_cons_succ]
                  refine take_op (i := 34) (d := 125) (v := .bool false) rfl rfl hsel (by decide +kernel) (by decide +kernel) hQ (Or.inl ⟨by rfl, fun _ => by first | rfl | (go_simp; done) | (go_simp; rfl)⟩) ?_
                  simp only [Act.put, List.setIfInBounds_toArray, List.set_cons_zero, List.set_cons_succ]
                  refine take_op (i := 35) (d := 126) (v := .bool false) rfl rfl hsel (by decide +kernel) (by decide +kernel) hQ (Or.inl ⟨by rfl, fun _ => by first | rfl | (go_simp; done) | (go_simp; rfl)⟩) ?_
                  simp only [Act.put, List.setIfInBounds_toArray, List.set_cons_zero, List.set_cons_succ]
                  change wpAny _ _ _ _ (20 + ([(36, 127), (37, 128), (38, 129), (39, 130), (40, 131)] : List (Nat × Nat)).length) _ _ _
                  refine take_unds hsel hQ [(36, 127), (37, 128), (38, 129), (39, 130), (40, 131)] 20 _ _ (by decide +kernel) (by kernel_rfl) ?_
                  change wpAny _ _ _ _ 20 #[true, true, true, true, true, true, true, true, true, true, true, true, true, true, true, true, true, true, true, true, true, true, true, true, true, true, true, true, true, true, true, true, true, true, true, true, true, true, true, true, true, false, false, false, false, false, false, false, false, false, false, false, false, false, false, false, false, false, false, false, false] _ _
                  simp only [List.foldl_cons, List.foldl_nil, Act.put, List.setIfInBounds_toArray, List.set_cons_zero, List.set_cons_succ]
                  refine take_op (i := 41) (d := 132) (v := .bool false) rfl rfl hsel (by decide +kernel) (by decide +kernel) hQ (Or.inl ⟨by rfl, fun _ => by first | rfl | (go_simp; done) | (go_simp; rfl)⟩) ?_
                  simp only [Act.put, List.setIfInBounds_toArray, List.set_cons_zero, List.set_cons_succ]
                  refine take_op (i := 42) (d := 133) (v := .bool false) rfl rfl hsel (by decide +kernel) (by decide +kernel) hQ (Or.inl ⟨by rfl, fun _ => by first | rfl | (go_simp; done) | (go_simp; rfl)⟩) ?_
                  simp only [Act.put, List.setIfInBounds_toArray, List.set_cons_zero, List.set_cons_succ]
                  change wpAny _ _ _ _ (2 + ([(43, 134), (44, 135), (45, 136), (46, 137), (47, 138), (48, 139), (49, 140), (50, 141), (51, 142), (52, 143), (53, 144), (54, 145), (55, 146), (56, 147), (57, 148), (58, 149)] : List (Nat × Nat)).length) _ _ _
                  refine take_unds hsel hQ [(43, 134), (44, 135), (45, 136), (46, 137), (47, 138), (48, 139), (49, 140), (50, 141), (51, 142), (52, 143), (53, 144), (54, 145), (55, 146), (56, 147), (57, 148), (58, 149)] 2 _ _ (by decide +kernel) (by kernel_rfl) ?_
                  change wpAny _ _ _ _ 2 #[true, true, true, true, true, true, true, true, true, true, true, true, true, true, true, true, true, true, true, true, true, true, true, true, true, true, true, true, true, true, true, true, true, true, true, true, true, true, true, true, true, true, true, true, true, true, true, true, true, true, true, true, true, true, true, true, true, true, true, false, false] _ _
                  simp only [List.foldl_cons, List.foldl_nil, Act.put, List.setIfInBounds_toArray, List.set_cons_zero, List.set_cons_succ]
                  refine take_op (i := 59) (d := 150) (v := .bool false) rfl rfl hsel (by decide +kernel) (by decide +kernel) hQ (Or.inl ⟨by rfl, fun _ => by first | rfl | (go_simp; done) | (go_simp; rfl)⟩) ?_
                  simp only [Act.put, List.setIfInBounds_toArray, List.set_cons_zero, List.set_cons_succ]
                  refine take_op (i := 60) (d := 151) (v := .bool false) rfl rfl hsel (by decide +kernel) (by decide +kernel) hQ (Or.inl ⟨by rfl, fun _ => by first | rfl | (go_simp; done) | (go_simp; rfl)⟩) ?_
                  simp only [Act.put, List.setIfInBounds_toArray, List.set_cons_zero, List.set_cons_succ]
                  refine wpAny_done (by kernel_rfl) (hN _ _ ?_) _
                  go_wp2
                  exact ⟨⟨i + 1, hlt, by go_num, HB6.out⟩, by simp [intOf]; omega⟩
                · go_simp
                  refine hK _ _ ?_
                  try simp only [Act.put, List.setIfInBounds_toArray, List.set_cons_zero, List.set_cons_succ]
                  clear hK K
                  refine wpAny_ready (rs := [26]) (by decide +kernel) (by simp) ?_
                  refine AllReady.cons rfl (fun K hK => ?_) AllReady.nil
                  go_simp
                  go_at_call 35
                  refine (HPA.out _ ((HB15.out.trans (HBr.out.mono HB15.out.size)).drew)).mono ?_; rintro e w6 ⟨rfl, hb6⟩
                  have hb6' : Below wr.heap.size wr w6 := ((Below.refl _ _).drew).trans (hb6.mono (Nat.le_refl _))
                  have hb56 := HBr.out.trans (hb6'.mono HBr.out.size)
                  have c6 := (HK.out w6 hb56).2
                  have HB6 := Lib.hid hb56
                  clear hb6 hb6' hb56
                  refine hK _ _ ?_
                  try simp only [Act.put, List.setIfInBounds_toArray, List.set_cons_zero, List.set_cons_succ]
                  clear hK K
                  refine take_op (i := 31) (d := 122) (v := .bool false) rfl rfl hsel (by decide +kernel) (by decide +kernel) hQ (Or.inl ⟨by rfl, fun _ => by first | rfl | (go_simp; done) | (go_simp; rfl)⟩) ?_
                  simp only [Act.put, List.setIfInBounds_toArray, List.set_cons_zero, List.set_cons_succ]
                  refine take_op (i := 32) (d := 123) (v := .bool false) rfl rfl hsel (by decide +kernel) (by decide +kernel) hQ (Or.inl ⟨by rfl, fun _ => by first | rfl | (go_simp; done) | (go_simp; rfl)⟩) ?_
                  simp only [Act.put, List.setIfInBounds_toArray, List.set_cons_zero, List.set_cons_succ]
                  refine take_op (i := 33) (d := 124) (v := .bool false) rfl rfl hsel (by decide +kernel) (by decide +kernel) hQ (Or.inl ⟨by rfl, fun _ => by first | rfl | (go_simp; done) | (go_simp; rfl)⟩) ?_
                  simp only [Act.put, List.setIfInBounds_toArray, List.set_cons_zero, List.set_cons_succ]
                  refine take_op (i := 34) (d := 125) (v := .bool false) rfl rfl hsel (by decide +kernel) (by decide +kernel) hQ (Or.inl ⟨by rfl, fun _ => by first | rfl | (go_simp; done) | (go_simp; rfl)⟩) ?_
                  simp only [Act.put, List.setIfInBounds_toArray, List.set_cons_zero, List.set_cons_succ]
                  refine take_op (i := 35) (d := 126) (v := .bool false) rfl rfl hsel (by decide +kernel) (by decide +kernel) hQ (Or.inl ⟨by rfl, fun _ => by first | rfl | (go_simp; done) | (go_simp; rfl)⟩) ?_
                  simp only [Act.put, List.setIfInBounds_toArray, List.set_cons_zero, List.set_cons_succ]
                  change wpAny _ _ _ _ (20 + ([(36, 127), (37, 128), (38, 129), (39, 130), (40, 131)] : List (Nat × Nat)).length) _ _ _
                  refine take_unds hsel hQ [(36, 127), (37, 128), (38, 129), (39, 130), (40, 131)] 20 _ _ (by decide +kernel) (by kernel_rfl) ?_
                  change wpAny _ _ _ _ 20 #[true, true, true, true, true, true, true, true, true, true, true, true, true, true, true, true, true, true, true, true, true, true, true, true, true, true, true, true, true, true, true, true, true, true, true, true, true, true, true, true, true, false, false, false, false, false, false, false, false, false, false, false, false, false, false, false, false, false, false, false, false] _ _
                  simp only [List.foldl_cons, List.foldl_nil, Act.put, List.setIfInBounds_toArray, List.set_cons_zero, List.set_cons_succ]
                  refine take_op (i := 41) (d := 132) (v := .bool false) rfl rfl hsel (by decide +kernel) (by decide +kernel) hQ (Or.inl ⟨by rfl, fun _ => by first | rfl | (go_simp; done) | (go_simp; rfl)⟩) ?_
                  simp only [Act.put, List.setIfInBounds_toArray, List.set_cons_zero, List.set_cons_succ]
                  refine take_op (i := 42) (d := 133) (v := .bool false) rfl rfl hsel (by decide +kernel) (by decide +kernel) hQ (Or.inl ⟨by rfl, fun _ => by first | rfl | (go_simp; done) | (go_simp; rfl)⟩) ?_
                  simp only [Act.put, List.setIfInBounds_toArray, List.set_cons_zero, List.set_cons_succ]
                  change wpAny _ _ _ _ (2 + ([(43, 134), (44, 135), (45, 136), (46, 137), (47, 138), (48, 139), (49, 140), (50, 141), (51, 142), (52, 143), (53, 144), (54, 145), (55, 146), (56, 147), (57, 148), (58, 149)] : List (Nat × Nat)).length) _ _ _
                  refine take_unds hsel hQ [(43, 134), (44, 135), (45, 136), (46, 137), (47, 138), (48, 139), (49, 140), (50, 141), (51, 142), (52, 143), (53, 144), (54, 145), (55, 146), (56, 147), (57, 148), (58, 149)] 2 _ _ (by decide +kernel) (by kernel_rfl) ?_
                  change wpAny _ _ _ _ 2 #[true, true, true, true, true, true, true, true, true, true, true, true, true, true, true, true, true, true, true, true, true, true, true, true, true, true, true, true, true, true, true, true, true, true, true, true, true, true, true, true, true, true, true, true, true, true, true, true, true, true, true, true, true, true, true, true, true, true, true, false, false] _ _
                  simp only [List.foldl_cons, List.foldl_nil, Act.put, List.setIfInBounds_toArray, List.set_cons_zero, List.set_cons_succ]
                  refine take_op (i := 59) (d := 150) (v := .bool false) rfl rfl hsel (by decide +kernel) (by decide +kernel) hQ (Or.inl ⟨by rfl, fun _ => by first | rfl | (go_simp; done) | (go_simp; rfl)⟩) ?_
                  simp only [Act.put, List.setIfInBounds_toArray, List.set_cons_zero, List.set_cons_succ]
                  refine take_op (i := 60) (d := 151) (v := .bool false) rfl rfl hsel (by decide +kernel) (by decide +kernel) hQ (Or.inl ⟨by rfl, fun _ => by first | rfl | (go_simp; done) | (go_simp; rfl)⟩) ?_
                  simp only [Act.put, List.setIfInBounds_toArray, List.set_cons_zero, List.set_cons_succ]
                  refine wpAny_done (by kernel_rfl) (hN _ _ ?_) _
                  go_wp2
                  exact ⟨⟨i + 1, hlt, by go_num, HB6.out⟩, by simp [intOf]; omega⟩
            · obtain rfl : i = N := by omega
              have cF := HC.out F hF _ (HB25.out.trans (hbel.mono HB25.out.size))
              rw [Hself.out] at cF
              have htt' : (t == t) = true := by simp
              clear hbel
              go_wp2
              go_ret
              exact ⟨ret_bool (by first | rfl | (simp; done)), HB1.out.trans ((HB15.out.trans (HBr.out.mono HB15.out.size)).mono HB1.out.size)⟩
        | true =>
          have hT5l := HlenO.out t' hp
          have hl5 := Hlater.out t' hp hle
          rw [hp, ptX_yes hp] at h5
          generalize tabA (N : Int) net ch (F : Int) t' = T5 at *
          have H5 := Lib.hid h5
          have Hlat := Lib.hid hl5
          clear h5 hp Hlater HlenO hl5
          refine (H5.out _ HB4.out).mono ?_; rintro e w5 ⟨ad5, cp5, rfl, _, ho5, _, hb5⟩
          obtain ⟨g5, rfl, hgl5, hat5, _⟩ := ho5 (by rintro rfl; simp at hT5l; omega)
          have HC5 := Lib.hid (fun (i : Nat) (hi : i < N) (W : World) (hb : Below w5.heap.size w5 W) => (show W.cell? ⟨g5, i, none⟩ = some (.int .i64 (fT T5 (i : Int))) by
            have h9 := hat5 i (by rw [hT5l]; exact hi)
            rw [Nat.zero_add] at h9
            rw [hb.cell (p := ⟨g5, i, none⟩) hgl5, h9, fT_get (by rw [hT5l]; exact hi)]))
          rw [hT5l]
          have HB25 := Lib.hid (HB24.out.trans (hb5.mono HB24.out.size))
          have HB15 := Lib.hid (HB4.out.trans (hb5.mono HB4.out.size))
          clear hb5 ho5 hat5 hT5l
          go_wp2
          go_loopw [16] (fun iv wr => ∃ i : Nat, i ≤ N ∧ iv = .int .i64 i ∧ Below w5.heap.size w5 wr) (fun iv _ => N - (intOf iv).toNat)
          case atStart => exact ⟨0, Nat.zero_le _, rfl, Below.refl _ _⟩
          case round =>
            obtain ⟨i, hi, rfl, hbel⟩ := hrel
            have HBr := Lib.hid hbel
            by_cases hlt : i < N
            · obtain ⟨hx1, hpa, hx2, hx3⟩ := Hlaw.out (i : Int) (by omega) (by omega)
              have hlt' : (i : Int) < (N : Int) := by omega
              have hlat := Hlat.out (i : Int) (by omega) (by omega)
              have HK := Lib.hid (fun (w' : World) (h : Below w5.heap.size w5 w') => show Below w5.heap.size w5 w' ∧ w'.cell? ⟨g, i, none⟩ = some (.int .i64 (fT T (i : Int))) ∧ w'.cell? ⟨g5, i, none⟩ = some (.int .i64 (fT T5 (i : Int))) from ⟨h, HC.out i hlt _ (HB25.out.trans (h.mono HB25.out.size)), HC5.out i hlt _ h⟩)
              generalize fT T5 (i : Int) = y at *
              have Hpa := Lib.hid hpa
              generalize fT T (i : Int) = x at *
              clear hpa hbel
              have hxx : (x != x) = false := by simp
              by_cases hx : 0 ≤ x
              · have d1 : decide (0 ≤ x) = true := decide_eq_true hx
                have d2 : decide (x < t) = false := decide_eq_false (by have := hx1 hx; omega)
                by_cases hy : 0 ≤ y
                · have d3 : decide (0 ≤ y) = true := decide_eq_true hy
                  have d4 : decide (x < 0) = false := decide_eq_false (by omega)
                  have d5 : decide (y < x) = false := decide_eq_false (by have := (hlat hy).2; omega)
                  clear hlat hx1 hx hy hx2 hx3
                  have h9 := HA.out (i : Int)
                  simp only [Hpa.out] at h9
                  have HPA := Lib.hid h9
                  clear h9
                  have HKy := Lib.hid (fun w' (h : Below w5.heap.size w5 w') => (HK.out w' h).2.2)
                  obtain ⟨_, c0, c0y⟩ := HK.out wr HBr.out
                  go_wp2_with fail
                  refine wp_region_any (by kernel_rfl) ?_
                  change wpAny _ _ _ _ 61 #[false, false, false, false, false, false, false, false, false, false, false, false, false, false, false, false, false, false, false, false, false, false, false, false, false, false, false, false, false, false, false, false, false, false, false, false, false, false, false, false, false, false, false, false, false, false, false, false, false, false, false, false, false, false, false, false, false, false, false, false, false] _ (World.drew _)
                  refine with_Q (fun _ _ _ _ _ h => h) (fun Q hQ hN => ?_)
                  refine with_sel (by kernel_rfl) (fun hsel => ?_)
                  refine take_op (i := 0) (d := 91) (v := .slice (some ⟨g, 0, none⟩) N cp) rfl rfl hsel (by decide +kernel) (by decide +kernel) hQ (Or.inl ⟨by rfl, fun _ => by first | rfl | (go_simp; done) | (go_simp; rfl)⟩) ?_
                  simp only [Act.put, List.setIfInBounds_toArray, List.set_cons_zero, List.set_cons_succ]
                  refine take_op (i := 1) (d := 92) (v := .int .i64 N) rfl rfl hsel (by decide +kernel) (by decide +kernel) hQ (Or.inl ⟨by rfl, fun _ => by first | rfl | (go_simp; done) | (go_simp; rfl)⟩) ?_
                  simp only [Act.put, List.setIfInBounds_toArray, List.set_cons_zero, List.set_cons_succ]
                  refine take_op (i := 2) (d := 93) (v := .int .i64 N) rfl rfl hsel (by decide +kernel) (by decide +kernel) hQ (Or.inl ⟨by rfl, fun _ => by first | rfl | (go_simp; done) | (go_simp; rfl)⟩) ?_
                  simp only [Act.put, List.setIfInBounds_toArray, List.set_cons_zero, List.set_cons_succ]
                  refine take_op (i := 3) (d := 94) (v := .bool false) rfl rfl hsel (by decide +kernel) (by decide +kernel) hQ (Or.inl ⟨by rfl, fun _ => by first | rfl | (go_simp; done) | (go_simp; rfl)⟩) ?_
                  simp only [Act.put, List.setIfInBounds_toArray, List.set_cons_zero, List.set_cons_succ]
                  refine take_op (i := 4) (d := 95) (v := .bool false) rfl rfl hsel (by decide +kernel) (by decide +kernel) hQ (Or.inl ⟨by rfl, fun _ => by first | rfl | (go_simp; done) | (go_simp; rfl)⟩) ?_
                  simp only [Act.put, List.setIfInBounds_toArray, List.set_cons_zero, List.set_cons_succ]
                  refine take_op (i := 5) (d := 96) (v := .slice (some ⟨g, 0, none⟩) N cp) rfl rfl hsel (by decide +kernel) (by decide +kernel) hQ (Or.inl ⟨by rfl, fun _ => by first | rfl | (go_simp; done) | (go_simp; rfl)⟩) ?_
                  simp only [Act.put, List.setIfInBounds_toArray, List.set_cons_zero, List.set_cons_succ]
                  refine take_op (i := 6) (d := 97) (v := .int .i64 i) rfl rfl hsel (by decide +kernel) (by decide +kernel) hQ (Or.inl ⟨by rfl, fun _ => by first | rfl | (go_simp; done) | (go_simp; rfl)⟩) ?_
                  simp only [Act.put, List.setIfInBounds_toArray, List.set_cons_zero, List.set_cons_succ]
                  refine take_op (i := 7) (d := 98) (v := .pointer (some ⟨g, i, none⟩)) rfl rfl hsel (by decide +kernel) (by decide +kernel) hQ (Or.inl ⟨by rfl, fun _ => by first | rfl | (go_simp; done) | (go_simp; rfl)⟩) ?_
                  simp only [Act.put, List.setIfInBounds_toArray, List.set_cons_zero, List.set_cons_succ]
                  refine wpAny_ready (rs := [8]) (by decide +kernel) (by simp) ?_
                  refine AllReady.cons rfl (fun K hK => ?_) AllReady.nil
                  go_simp
                  refine hK _ _ ?_
                  try simp only [Act.put, List.setIfInBounds_toArray, List.set_cons_zero, List.set_cons_succ]
                  clear hK K
                  refine take_op (i := 9) (d := 100) (v := .bool true) rfl rfl hsel (by decide +kernel) (by decide +kernel) hQ (Or.inl ⟨by rfl, fun _ => by first | rfl | (go_simp; done) | (go_simp; rfl)⟩) ?_
                  simp only [Act.put, List.setIfInBounds_toArray, List.set_cons_zero, List.set_cons_succ]
                  refine take_op (i := 10) (d := 101) (v := .bool true) rfl rfl hsel (by decide +kernel) (by decide +kernel) hQ (Or.inl ⟨by rfl, fun _ => by first | rfl | (go_simp; done) | (go_simp; rfl)⟩) ?_
                  simp only [Act.put, List.setIfInBounds_toArray, List.set_cons_zero, List.set_cons_succ]
                  refine take_op (i := 11) (d := 102) (v := .slice (some ⟨g, 0, none⟩) N cp) rfl rfl hsel (by decide +kernel) (by decide +kernel) hQ (Or.inl ⟨by rfl, fun _ => by first | rfl | (go_simp; done) | (go_simp; rfl)⟩) ?_
                  simp only [Act.put, List.setIfInBounds_toArray, List.set_cons_zero, List.set_cons_succ]
                  refine take_op (i := 12) (d := 103) (v := .int .i64 i) rfl rfl hsel (by decide +kernel) (by decide +kernel) hQ (Or.inl ⟨by rfl, fun _ => by first | rfl | (go_simp; done) | (go_simp; rfl)⟩) ?_
                  simp only [Act.put, List.setIfInBounds_toArray, List.set_cons_zero, List.set_cons_succ]
                  refine take_op (i := 13) (d := 104) (v := .pointer (some ⟨g, i, none⟩)) rfl rfl hsel (by decide +kernel) (by decide +kernel) hQ (Or.inl ⟨by rfl, fun _ => by first | rfl | (go_simp; done) | (go_simp; rfl)⟩) ?_
                  simp only [Act.put, List.setIfInBounds_toArray, List.set_cons_zero, List.set_cons_succ]
                  refine take_op (i := 15) (d := 106) (v := .int .i64 t) rfl rfl hsel (by decide +kernel) (by decide +kernel) hQ (Or.inl ⟨by rfl, fun _ => by first | rfl | (go_simp; done) | (go_simp; rfl)⟩) ?_
                  simp only [Act.put, List.setIfInBounds_toArray, List.set_cons_zero, List.set_cons_succ]
                  refine wpAny_ready (rs := [14]) (by decide +kernel) (by simp) ?_
                  refine AllReady.cons rfl (fun K hK => ?_) AllReady.nil
                  go_simp
                  refine hK _ _ ?_
                  try simp only [Act.put, List.setIfInBounds_toArray, List.set_cons_zero, List.set_cons_succ]
                  clear hK K
                  refine take_op (i := 16) (d := 107) (v := .bool false) rfl rfl hsel (by decide +kernel) (by decide +kernel) hQ (Or.inl ⟨by rfl, fun _ => by first | rfl | (go_simp; done) | (go_simp; rfl)⟩) ?_
                  simp only [Act.put, List.setIfInBounds_toArray, List.set_cons_zero, List.set_cons_succ]
                  refine take_op (i := 17) (d := 108) (v := .bool false) rfl rfl hsel (by decide +kernel) (by decide +kernel) hQ (Or.inl ⟨by rfl, fun _ => by first | rfl | (go_simp; done) | (go_simp; rfl)⟩) ?_
                  simp only [Act.put, List.setIfInBounds_toArray, List.set_cons_zero, List.set_cons_succ]
                  refine take_op (i := 18) (d := 109) (v := .bool false) rfl rfl hsel (by decide +kernel) (by decide +kernel) hQ (Or.inl ⟨by rfl, fun _ => by first | rfl | (go_simp; done) | (go_simp; rfl)⟩) ?_
                  simp only [Act.put, List.setIfInBounds_toArray, List.set_cons_zero, List.set_cons_succ]
                  refine take_op (i := 19) (d := 110) (v := .bool false) rfl rfl hsel (by decide +kernel) (by decide +kernel) hQ (Or.inl ⟨by rfl, fun _ => by first | rfl | (go_simp; done) | (go_simp; rfl)⟩) ?_
                  simp only [Act.put, List.setIfInBounds_toArray, List.set_cons_zero, List.set_cons_succ]
                  refine take_op (i := 20) (d := 111) (v := .int .i64 N) rfl rfl hsel (by decide +kernel) (by decide +kernel) hQ (Or.inl ⟨by rfl, fun _ => by first | rfl | (go_simp; done) | (go_simp; rfl)⟩) ?_
                  simp only [Act.put, List.setIfInBounds_toArray, List.set_cons_zero, List.set_cons_succ]
                  refine take_op (i := 21) (d := 112) (v := sv) rfl rfl hsel (by decide +kernel) (by decide +kernel) hQ (Or.inl ⟨by rfl, fun _ => by first | rfl | (go_simp; done) | (go_simp; rfl)⟩) ?_
                  simp only [Act.put, List.setIfInBounds_toArray, List.set_cons_zero, List.set_cons_succ]
                  refine take_op (i := 22) (d := 113) (v := .int .i64 F) rfl rfl hsel (by decide +kernel) (by decide +kernel) hQ (Or.inl ⟨by rfl, fun _ => by first | rfl | (go_simp; done) | (go_simp; rfl)⟩) ?_
                  simp only [Act.put, List.setIfInBounds_toArray, List.set_cons_zero, List.set_cons_succ]
                  refine take_op (i := 23) (d := 114) (v := .int .i64 i) rfl rfl hsel (by decide +kernel) (by decide +kernel) hQ (Or.inl ⟨by rfl, fun _ => by first | rfl | (go_simp; done) | (go_simp; rfl)⟩) ?_
                  simp only [Act.put, List.setIfInBounds_toArray, List.set_cons_zero, List.set_cons_succ]
                  refine take_op (i := 24) (d := 115) (v := .int .i64 t) rfl rfl hsel (by decide +kernel) (by decide +kernel) hQ (Or.inl ⟨by rfl, fun _ => by first | rfl | (go_simp; done) | (go_simp; rfl)⟩) ?_
                  simp only [Act.put, List.setIfInBounds_toArray, List.set_cons_zero, List.set_cons_succ]
                  refine take_op (i := 25) (d := 116) (v := .int .i64 ch) rfl rfl hsel (by decide +kernel) (by decide +kernel) hQ (Or.inl ⟨by rfl, fun _ => by first | rfl | (go_simp; done) | (go_simp; rfl)⟩) ?_
                  simp only [Act.put, List.setIfInBounds_toArray, List.set_cons_zero, List.set_cons_succ]
                  refine take_op (i := 27) (d := 118) (v := .slice (some ⟨g, 0, none⟩) N cp) rfl rfl hsel (by decide +kernel) (by decide +kernel) hQ (Or.inl ⟨by rfl, fun _ => by first | rfl | (go_simp; done) | (go_simp; rfl)⟩) ?_
                  simp only [Act.put, List.setIfInBounds_toArray, List.set_cons_zero, List.set_cons_succ]
                  refine take_op (i := 28) (d := 119) (v := .int .i64 i) rfl rfl hsel (by decide +kernel) (by decide +kernel) hQ (Or.inl ⟨by rfl, fun _ => by first | rfl | (go_simp; done) | (go_simp; rfl)⟩) ?_
                  simp only [Act.put, List.setIfInBounds_toArray, List.set_cons_zero, List.set_cons_succ]
                  refine take_op (i := 29) (d := 120) (v := .pointer (some ⟨g, i, none⟩)) rfl rfl hsel (by decide +kernel) (by decide +kernel) hQ (Or.inl ⟨by rfl, fun _ => by first | rfl | (go_simp; done) | (go_simp; rfl)⟩) ?_
                  simp only [Act.put, List.setIfInBounds_toArray, List.set_cons_zero, List.set_cons_succ]
                  refine wpAny_ready (rs := [26, 30]) (by decide +kernel) (by simp) ?_
                  refine AllReady.cons rfl (fun K hK => ?_) (AllReady.cons rfl (fun K hK => ?_) AllReady.nil)
                  · go_simp
                    go_at_call 35
                    refine (HPA.out _ ((HB15.out.trans (HBr.out.mono HB15.out.size)).drew)).mono ?_; rintro e w6 ⟨rfl, hb6⟩
                    have hb6' : Below wr.heap.size wr w6 := ((Below.refl _ _).drew).trans (hb6.mono (Nat.le_refl _))
                    have hb56 := HBr.out.trans (hb6'.mono HBr.out.size)
                    have c6 := (HK.out w6 hb56).2.1
                    have y6 := HKy.out w6 hb56
                    have HB6 := Lib.hid hb56
                    clear hb6 hb6' hb56
                    refine hK _ _ ?_
                    try simp only [Act.put, List.setIfInBounds_toArray, List.set_cons_zero, List.set_cons_succ]
                    clear hK K
                    refine wpAny_ready (rs := [30]) (by decide +kernel) (by simp) ?_
                    refine AllReady.cons rfl (fun K hK => ?_) AllReady.nil
                    go_simp
                    refine hK _ _ ?_
                    try simp only [Act.put, List.setIfInBounds_toArray, List.set_cons_zero, List.set_cons_succ]
                    clear hK K
                    refine take_op (i := 31) (d := 122) (v := .bool false) rfl rfl hsel (by decide +kernel) (by decide +kernel) hQ (Or.inl ⟨by rfl, fun _ => by first | rfl | (go_simp; done) | (go_simp; rfl)⟩) ?_
                    simp only [Act.put, List.setIfInBounds_toArray, List.set_cons_zero, List.set_cons_succ]
                    refine take_op (i := 32) (d := 123) (v := .bool false) rfl rfl hsel (by decide +kernel) (by decide +kernel) hQ (Or.inl ⟨by rfl, fun _ => by first | rfl | (go_simp; done) | (go_simp; rfl)⟩) ?_
                    simp only [Act.put, List.setIfInBounds_toArray, List.set_cons_zero, List.set_cons_succ]
                    refine take_op (i := 33) (d := 124) (v := .bool false) rfl rfl hsel (by decide +kernel) (by decide +kernel) hQ (Or.inl ⟨by rfl, fun _ => by first | rfl | (go_simp; done) | (go_simp; rfl)⟩) ?_
                    simp only [Act.put, List.setIfInBounds_toArray, List.set_cons_zero, List.set_cons_succ]
                    refine take_op (i := 34) (d := 125) (v := .bool true) rfl rfl hsel (by decide +kernel) (by decide +kernel) hQ (Or.inl ⟨by rfl, fun _ => by first | rfl | (go_simp; done) | (go_simp; rfl)⟩) ?_
                    simp only [Act.put, List.setIfInBounds_toArray, List.set_cons_zero, List.set_cons_succ]
                    refine take_op (i := 35) (d := 126) (v := .bool true) rfl rfl hsel (by decide +kernel) (by decide +kernel) hQ (Or.inl ⟨by rfl, fun _ => by first | rfl | (go_simp; done) | (go_simp; rfl)⟩) ?_
                    simp only [Act.put, List.setIfInBounds_toArray, List.set_cons_zero, List.set_cons_succ]
                    refine take_op (i := 36) (d := 127) (v := .slice (some ⟨g5, 0, none⟩) N cp5) rfl rfl hsel (by decide +kernel) (by decide +kernel) hQ (Or.inl ⟨by rfl, fun _ => by first | rfl | (go_simp; done) | (go_simp; rfl)⟩) ?_
                    simp only [Act.put, List.setIfInBounds_toArray, List.set_cons_zero, List.set_cons_succ]
                    refine take_op (i := 37) (d := 128) (v := .int .i64 i) rfl rfl hsel (by decide +kernel) (by decide +kernel) hQ (Or.inl ⟨by rfl, fun _ => by first | rfl | (go_simp; done) | (go_simp; rfl)⟩) ?_
                    simp only [Act.put, List.setIfInBounds_toArray, List.set_cons_zero, List.set_cons_succ]
                    refine take_op (i := 38) (d := 129) (v := .pointer (some ⟨g5, i, none⟩)) rfl rfl hsel (by decide +kernel) (by decide +kernel) hQ (Or.inl ⟨by rfl, fun _ => by first | rfl | (go_simp; done) | (go_simp; rfl)⟩) ?_
                    simp only [Act.put, List.setIfInBounds_toArray, List.set_cons_zero, List.set_cons_succ]
                    refine wpAny_ready (rs := [39]) (by decide +kernel) (by simp) ?_
                    refine AllReady.cons rfl (fun K hK => ?_) AllReady.nil
                    go_simp
                    refine hK _ _ ?_
                    try simp only [Act.put, List.setIfInBounds_toArray, List.set_cons_zero, List.set_cons_succ]
                    clear hK K
                    refine take_op (i := 40) (d := 131) (v := .bool true) rfl rfl hsel (by decide +kernel) (by decide +kernel) hQ (Or.inl ⟨by rfl, fun _ => by first | rfl | (go_simp; done) | (go_simp; rfl)⟩) ?_
                    simp only [Act.put, List.setIfInBounds_toArray, List.set_cons_zero, List.set_cons_succ]
                    refine take_op (i := 41) (d := 132) (v := .bool true) rfl rfl hsel (by decide +kernel) (by decide +kernel) hQ (Or.inl ⟨by rfl, fun _ => by first | rfl | (go_simp; done) | (go_simp; rfl)⟩) ?_
                    simp only [Act.put, List.setIfInBounds_toArray, List.set_cons_zero, List.set_cons_succ]
                    refine take_op (i := 42) (d := 133) (v := .bool true) rfl rfl hsel (by decide +kernel) (by decide +kernel) hQ (Or.inl ⟨by rfl, fun _ => by first | rfl | (go_simp; done) | (go_simp; rfl)⟩) ?_
                    simp only [Act.put, List.setIfInBounds_toArray, List.set_cons_zero, List.set_cons_succ]
                    refine take_op (i := 43) (d := 134) (v := .slice (some ⟨g, 0, none⟩) N cp) rfl rfl hsel (by decide +kernel) (by decide +kernel) hQ (Or.inl ⟨by rfl, fun _ => by first | rfl | (go_simp; done) | (go_simp; rfl)⟩) ?_
                    simp only [Act.put, List.setIfInBounds_toArray, List.set_cons_zero, List.set_cons_succ]
                    refine take_op (i := 44) (d := 135) (v := .int .i64 i) rfl rfl hsel (by decide +kernel) (by decide +kernel) hQ (Or.inl ⟨by rfl, fun _ => by first | rfl | (go_simp; done) | (go_simp; rfl)⟩) ?_
                    simp only [Act.put, List.setIfInBounds_toArray, List.set_cons_zero, List.set_cons_succ]
                    refine take_op (i := 45) (d := 136) (v := .pointer (some ⟨g, i, none⟩)) rfl rfl hsel (by decide +kernel) (by decide +kernel) hQ (Or.inl ⟨by rfl, fun _ => by first | rfl | (go_simp; done) | (go_simp; rfl)⟩) ?_
                    simp only [Act.put, List.setIfInBounds_toArray, List.set_cons_zero, List.set_cons_succ]
                    refine wpAny_ready (rs := [46]) (by decide +kernel) (by simp) ?_
                    refine AllReady.cons rfl (fun K hK => ?_) AllReady.nil
                    go_simp
                    refine hK _ _ ?_
                    try simp only [Act.put, List.setIfInBounds_toArray, List.set_cons_zero, List.set_cons_succ]
                    clear hK K
                    refine take_op (i := 47) (d := 138) (v := .bool false) rfl rfl hsel (by decide +kernel) (by decide +kernel) hQ (Or.inl ⟨by rfl, fun _ => by first | rfl | (go_simp; done) | (go_simp; rfl)⟩) ?_
                    simp only [Act.put, List.setIfInBounds_toArray, List.set_cons_zero, List.set_cons_succ]
                    refine take_op (i := 48) (d := 139) (v := .bool false) rfl rfl hsel (by decide +kernel) (by decide +kernel) hQ (Or.inl ⟨by rfl, fun _ => by first | rfl | (go_simp; done) | (go_simp; rfl)⟩) ?_
                    simp only [Act.put, List.setIfInBounds_toArray, List.set_cons_zero, List.set_cons_succ]
                    refine take_op (i := 49) (d := 140) (v := .slice (some ⟨g5, 0, none⟩) N cp5) rfl rfl hsel (by decide +kernel) (by decide +kernel) hQ (Or.inl ⟨by rfl, fun _ => by first | rfl | (go_simp; done) | (go_simp; rfl)⟩) ?_
                    simp only [Act.put, List.setIfInBounds_toArray, List.set_cons_zero, List.set_cons_succ]
                    refine take_op (i := 50) (d := 141) (v := .int .i64 i) rfl rfl hsel (by decide +kernel) (by decide +kernel) hQ (Or.inl ⟨by rfl, fun _ => by first | rfl | (go_simp; done) | (go_simp; rfl)⟩) ?_
                    simp only [Act.put, List.setIfInBounds_toArray, List.set_cons_zero, List.set_cons_succ]
                    refine take_op (i := 51) (d := 142) (v := .pointer (some ⟨g5, i, none⟩)) rfl rfl hsel (by decide +kernel) (by decide +kernel) hQ (Or.inl ⟨by rfl, fun _ => by first | rfl | (go_simp; done) | (go_simp; rfl)⟩) ?_
                    simp only [Act.put, List.setIfInBounds_toArray, List.set_cons_zero, List.set_cons_succ]
                    refine take_op (i := 53) (d := 144) (v := .slice (some ⟨g, 0, none⟩) N cp) rfl rfl hsel (by decide +kernel) (by decide +kernel) hQ (Or.inl ⟨by rfl, fun _ => by first | rfl | (go_simp; done) | (go_simp; rfl)⟩) ?_
                    simp only [Act.put, List.setIfInBounds_toArray, List.set_cons_zero, List.set_cons_succ]
                    refine take_op (i := 54) (d := 145) (v := .int .i64 i) rfl rfl hsel (by decide +kernel) (by decide +kernel) hQ (Or.inl ⟨by rfl, fun _ => by first | rfl | (go_simp; done) | (go_simp; rfl)⟩) ?_
                    simp only [Act.put, List.setIfInBounds_toArray, List.set_cons_zero, List.set_cons_succ]
                    refine take_op (i := 55) (d := 146) (v := .pointer (some ⟨g, i, none⟩)) rfl rfl hsel (by decide +kernel) (by decide +kernel) hQ (Or.inl ⟨by rfl, fun _ => by first | rfl | (go_simp; done) | (go_simp; rfl)⟩) ?_
                    simp only [Act.put, List.setIfInBounds_toArray, List.set_cons_zero, List.set_cons_succ]
                    refine wpAny_ready (rs := [52, 56]) (by decide +kernel) (by simp) ?_
                    refine AllReady.cons rfl (fun K hK => ?_) (AllReady.cons rfl (fun K hK => ?_) AllReady.nil)
                    · go_simp
                      refine hK _ _ ?_
                      try simp only [Act.put, List.setIfInBounds_toArray, List.set_cons_zero, List.set_cons_succ]
                      clear hK K
                      refine wpAny_ready (rs := [56]) (by decide +kernel) (by simp) ?_
                      refine AllReady.cons rfl (fun K hK => ?_) AllReady.nil
                      go_simp
                      refine hK _ _ ?_
                      try simp only [Act.put, List.setIfInBounds_toArray, List.set_cons_zero, List.set_cons_succ]
                      clear hK K
                      refine take_op (i := 57) (d := 148) (v := .bool false) rfl rfl hsel (by decide +kernel) (by decide +kernel) hQ (Or.inl ⟨by rfl, fun _ => by first | rfl | (go_simp; done) | (go_simp; rfl)⟩) ?_
                      simp only [Act.put, List.setIfInBounds_toArray, List.set_cons_zero, List.set_cons_succ]
                      refine take_op (i := 58) (d := 149) (v := .bool false) rfl rfl hsel (by decide +kernel) (by decide +kernel) hQ (Or.inl ⟨by rfl, fun _ => by first | rfl | (go_simp; done) | (go_simp; rfl)⟩) ?_
                      simp only [Act.put, List.setIfInBounds_toArray, List.set_cons_zero, List.set_cons_succ]
                      refine take_op (i := 59) (d := 150) (v := .bool false) rfl rfl hsel (by decide +kernel) (by decide +kernel) hQ (Or.inl ⟨by rfl, fun _ => by first | rfl | (go_simp; done) | (go_simp; rfl)⟩) ?_
                      simp only [Act.put, List.setIfInBounds_toArray, List.set_cons_zero, List.set_cons_succ]
                      refine take_op (i := 60) (d := 151) (v := .bool false) rfl rfl hsel (by decide +kernel) (by decide +kernel) hQ (Or.inl ⟨by rfl, fun _ => by first | rfl | (go_simp; done) | (go_simp; rfl)⟩) ?_
                      simp only [Act.put, List.setIfInBounds_toArray, List.set_cons_zero, List.set_cons_succ]
                      refine wpAny_done (by kernel_rfl) (hN _ _ ?_) _
                      go_wp2
                      exact ⟨⟨i + 1, hlt, by go_num, HB6.out⟩, by simp [intOf]; omega⟩
                    · go_simp
                      refine hK _ _ ?_
                      try simp only [Act.put, List.setIfInBounds_toArray, List.set_cons_zero, List.set_cons_succ]
                      clear hK K
                      refine wpAny_ready (rs := [52]) (by decide +kernel) (by simp) ?_
                      refine AllReady.cons rfl (fun K hK => ?_) AllReady.nil
                      go_simp
                      refine hK _ _ ?_
                      try simp only [Act.put, List.setIfInBounds_toArray, List.set_cons_zero, List.set_cons_succ]
                      clear hK K
                      refine take_op (i := 57) (d := 148) (v := .bool false) rfl rfl hsel (by decide +kernel) (by decide +kernel) hQ (Or.inl ⟨by rfl, fun _ => by first | rfl | (go_simp; done) | (go_simp; rfl)⟩) ?_
                      simp only [Act.put, List.setIfInBounds_toArray, List.set_cons_zero, List.set_cons_succ]
                      refine take_op (i := 58) (d := 149) (v := .bool false) rfl rfl hsel (by decide +kernel) (by decide +kernel) hQ (Or.inl ⟨by rfl, fun _ => by first | rfl | (go_simp; done) | (go_simp; rfl)⟩) ?_
                      simp only [Act.put, List.setIfInBounds_toArray, List.set_cons_zero, List.set_cons_succ]
                      refine take_op (i := 59) (d := 150) (v := .bool false) rfl rfl hsel (by decide +kernel) (by decide +kernel) hQ (Or.inl ⟨by rfl, fun _ => by first | rfl | (go_simp; done) | (go_simp; rfl)⟩) ?_
                      simp only [Act.put, List.setIfInBounds_toArray, List.set_cons_zero, List.set_cons_succ]
                      refine take_op (i := 60) (d := 151) (v := .bool false) rfl rfl hsel (by decide +kernel) (by decide +kernel) hQ (Or.inl ⟨by rfl, fun _ => by first | rfl | (go_simp; done) | (go_simp; rfl)⟩) ?_
                      simp only [Act.put, List.setIfInBounds_toArray, List.set_cons_zero, List.set_cons_succ]
                      refine wpAny_done (by kernel_rfl) (hN _ _ ?_) _
                      go_wp2
                      exact ⟨⟨i + 1, hlt, by go_num, HB6.out⟩, by simp [intOf]; omega⟩
                  · go_simp
                    refine hK _ _ ?_
                    try simp only [Act.put, List.setIfInBounds_toArray, List.set_cons_zero, List.set_cons_succ]
                    clear hK K
                    refine wpAny_ready (rs := [26]) (by decide +kernel) (by simp) ?_
                    refine AllReady.cons rfl (fun K hK => ?_) AllReady.nil
                    go_simp
                    go_at_call 35
                    refine (HPA.out _ ((HB15.out.trans (HBr.out.mono HB15.out.size)).drew)).mono ?_; rintro e w6 ⟨rfl, hb6⟩
                    have hb6' : Below wr.heap.size wr w6 := ((Below.refl _ _).drew).trans (hb6.mono (Nat.le_refl _))
                    have hb56 := HBr.out.trans (hb6'.mono HBr.out.size)
                    have c6 := (HK.out w6 hb56).2.1
                    have y6 := HKy.out w6 hb56
                    have HB6 := Lib.hid hb56
                    clear hb6 hb6' hb56
                    refine hK _ _ ?_
                    try simp only [Act.put, List.setIfInBounds_toArray, List.set_cons_zero, List.set_cons_succ]
                    clear hK K
                    refine take_op (i := 31) (d := 122) (v := .bool false) rfl rfl hsel (by decide +kernel) (by decide +kernel) hQ (Or.inl ⟨by rfl, fun _ => by first | rfl | (go_simp; done) | (go_simp; rfl)⟩) ?_
                    simp only [Act.put, List.setIfInBounds_toArray, List.set_cons_zero, List.set_cons_succ]
                    refine take_op (i := 32) (d := 123) (v := .bool false) rfl rfl hsel (by decide +kernel) (by decide +kernel) hQ (Or.inl ⟨by rfl, fun _ => by first | rfl | (go_simp; done) | (go_simp; rfl)⟩) ?_
                    simp only [Act.put, List.setIfInBounds_toArray, List.set_cons_zero, List.set_cons_succ]
                    refine take_op (i := 33) (d := 124) (v := .bool false) rfl rfl hsel (by decide +kernel) (by decide +kernel) hQ (Or.inl ⟨by rfl, fun _ => by first | rfl | (go_simp; done) | (go_simp; rfl)⟩) ?_
                    simp only [Act.put, List.setIfInBounds_toArray, List.set_cons_zero, List.set_cons_succ]
                    refine take_op (i := 34) (d := 125) (v := .bool true) rfl rfl hsel (by decide +kernel) (by decide +kernel) hQ (Or.inl ⟨by rfl, fun _ => by first | rfl | (go_simp; done) | (go_simp; rfl)⟩) ?_
                    simp only [Act.put, List.setIfInBounds_toArray, List.set_cons_zero, List.set_cons_succ]
                    refine take_op (i := 35) (d := 126) (v := .bool true) rfl rfl hsel (by decide +kernel) (by decide +kernel) hQ (Or.inl ⟨by rfl, fun _ => by first | rfl | (go_simp; done) | (go_simp; rfl)⟩) ?_
                    simp only [Act.put, List.setIfInBounds_toArray, List.set_cons_zero, List.set_cons_succ]
                    refine take_op (i := 36) (d := 127) (v := .slice (some ⟨g5, 0, none⟩) N cp5) rfl rfl hsel (by decide +kernel) (by decide +kernel) hQ (Or.inl ⟨by rfl, fun _ => by first | rfl | (go_simp; done) | (go_simp; rfl)⟩) ?_
                    simp only [Act.put, List.setIfInBounds_toArray, List.set_cons_zero, List.set_cons_succ]
                    refine take_op (i := 37) (d := 128) (v := .int .i64 i) rfl rfl hsel (by decide +kernel) (by decide +kernel) hQ (Or.inl ⟨by rfl, fun _ => by first | rfl | (go_simp; done) | (go_simp; rfl)⟩) ?_
                    simp only [Act.put, List.setIfInBounds_toArray, List.set_cons_zero, List.set_cons_succ]
                    refine take_op (i := 38) (d := 129) (v := .pointer (some ⟨g5, i, none⟩)) rfl rfl hsel (by decide +kernel) (by decide +kernel) hQ (Or.inl ⟨by rfl, fun _ => by first | rfl | (go_simp; done) | (go_simp; rfl)⟩) ?_
                    simp only [Act.put, List.setIfInBounds_toArray, List.set_cons_zero, List.set_cons_succ]
                    refine wpAny_ready (rs := [39]) (by decide +kernel) (by simp) ?_
                    refine AllReady.cons rfl (fun K hK => ?_) AllReady.nil
                    go_simp
                    refine hK _ _ ?_
                    try simp only [Act.put, List.setIfInBounds_toArray, List.set_cons_zero, List.set_cons_succ]
                    clear hK K
                    refine take_op (i := 40) (d := 131) (v := .bool true) rfl rfl hsel (by decide +kernel) (by decide +kernel) hQ (Or.inl ⟨by rfl, fun _ => by first | rfl | (go_simp; done) | (go_simp; rfl)⟩) ?_
                    simp only [Act.put, List.setIfInBounds_toArray, List.set_cons_zero, List.set_cons_succ]
                    refine take_op (i := 41) (d := 132) (v := .bool true) rfl rfl hsel (by decide +kernel) (by decide +kernel) hQ (Or.inl ⟨by rfl, fun _ => by first | rfl | (go_simp; done) | (go_simp; rfl)⟩) ?_
                    simp only [Act.put, List.setIfInBounds_toArray, List.set_cons_zero, List.set_cons_succ]
                    refine take_op (i := 42) (d := 133) (v := .bool true) rfl rfl hsel (by decide +kernel) (by decide +kernel) hQ (Or.inl ⟨by rfl, fun _ => by first | rfl | (go_simp; done) | (go_simp; rfl)⟩) ?_
                    simp only [Act.put, List.setIfInBounds_toArray, List.set_cons_zero, List.set_cons_succ]
                    refine take_op (i := 43) (d := 134) (v := .slice (some ⟨g, 0, none⟩) N cp) rfl rfl hsel (by decide +kernel) (by decide +kernel) hQ (Or.inl ⟨by rfl, fun _ => by first | rfl | (go_simp; done) | (go_simp; rfl)⟩) ?_
                    simp only [Act.put, List.setIfInBounds_toArray, List.set_cons_zero, List.set_cons_succ]
                    refine take_op (i := 44) (d := 135) (v := .int .i64 i) rfl rfl hsel (by decide +kernel) (by decide +kernel) hQ (Or.inl ⟨by rfl, fun _ => by first | rfl | (go_simp; done) | (go_simp; rfl)⟩) ?_
                    simp only [Act.put, List.setIfInBounds_toArray, List.set_cons_zero, List.set_cons_succ]
                    refine take_op (i := 45) (d := 136) (v := .pointer (some ⟨g, i, none⟩)) rfl rfl hsel (by decide +kernel) (by decide +kernel) hQ (Or.inl ⟨by rfl, fun _ => by first | rfl | (go_simp; done) | (go_simp; rfl)⟩) ?_
                    simp only [Act.put, List.setIfInBounds_toArray, List.set_cons_zero, List.set_cons_succ]
                    refine wpAny_ready (rs := [46]) (by decide +kernel) (by simp) ?_
                    refine AllReady.cons rfl (fun K hK => ?_) AllReady.nil
                    go_simp
                    refine hK _ _ ?_
                    try simp only [Act.put, List.setIfInBounds_toArray, List.set_cons_zero, List.set_cons_succ]
                    clear hK K
                    refine take_op (i := 47) (d := 138) (v := .bool false) rfl rfl hsel (by decide +kernel) (by decide +kernel) hQ (Or.inl ⟨by rfl, fun _ => by first | rfl | (go_simp; done) | (go_simp; rfl)⟩) ?_
                    simp only [Act.put, List.setIfInBounds_toArray, List.set_cons_zero, List.set_cons_succ]
                    refine take_op (i := 48) (d := 139) (v := .bool false) rfl rfl hsel (by decide +kernel) (by decide +kernel) hQ (Or.inl ⟨by rfl, fun _ => by first | rfl | (go_simp; done) | (go_simp; rfl)⟩) ?_
                    simp only [Act.put, List.setIfInBounds_toArray, List.set_cons_zero, List.set_cons_succ]
                    refine take_op (i := 49) (d := 140) (v := .slice (some ⟨g5, 0, none⟩) N cp5) rfl rfl hsel (by decide +kernel) (by decide +kernel) hQ (Or.inl ⟨by rfl, fun _ => by first | rfl | (go_simp; done) | (go_simp; rfl)⟩) ?_
                    simp only [Act.put, List.setIfInBounds_toArray, List.set_cons_zero, List.set_cons_succ]
                    refine take_op (i := 50) (d := 141) (v := .int .i64 i) rfl rfl hsel (by decide +kernel) (by decide +kernel) hQ (Or.inl ⟨by rfl, fun _ => by first | rfl | (go_simp; done) | (go_simp; rfl)⟩) ?_
                    simp only [Act.put, List.setIfInBounds_toArray, List.set_cons_zero, List.set_cons_succ]
                    refine take_op (i := 51) (d := 142) (v := .pointer (some ⟨g5, i, none⟩)) rfl rfl hsel (by decide +kernel) (by decide +kernel) hQ (Or.inl ⟨by rfl, fun _ => by first | rfl | (go_simp; done) | (go_simp; rfl)⟩) ?_
                    simp only [Act.put, List.setIfInBounds_toArray, List.set_cons_zero, List.set_cons_succ]
                    refine take_op (i := 53) (d := 144) (v := .slice (some ⟨g, 0, none⟩) N cp) rfl rfl hsel (by decide +kernel) (by decide +kernel) hQ (Or.inl ⟨by rfl, fun _ => by first | rfl | (go_simp; done) | (go_simp; rfl)⟩) ?_
                    simp only [Act.put, List.setIfInBounds_toArray, List.set_cons_zero, List.set_cons_succ]
                    refine take_op (i := 54) (d := 145) (v := .int .i64 i) rfl rfl hsel (by decide +kernel) (by decide +kernel) hQ (Or.inl ⟨by rfl, fun _ => by first | rfl | (go_simp; done) | (go_simp; rfl)⟩) ?_
                    simp only [Act.put, List.setIfInBounds_toArray, List.set_cons_zero, List.set_cons_succ]
                    refine take_op (i := 55) (d := 146) (v := .pointer (some ⟨g, i, none⟩)) rfl rfl hsel (by decide +kernel) (by decide +kernel) hQ (Or.inl ⟨by rfl, fun _ => by first | rfl | (go_simp; done) | (go_simp; rfl)⟩) ?_
                    simp only [Act.put, List.setIfInBounds_toArray, List.set_cons_zero, List.set_cons_succ]
                    refine wpAny_ready (rs := [52, 56]) (by decide +kernel) (by simp) ?_
                    refine AllReady.cons rfl (fun K hK => ?_) (AllReady.cons rfl (fun K hK => ?_) AllReady.nil)
                    · go_simp
                      refine hK _ _ ?_
                      try simp only [Act.put, List.setIfInBounds_toArray, List.set_cons_zero, List.set_cons_succ]
                      clear hK K
                      refine wpAny_ready (rs := [56]) (by decide +kernel) (by simp) ?_
                      refine AllReady.cons rfl (fun K hK => ?_) AllReady.nil
                      go_simp
                      refine hK _ _ ?_
                      try simp only [Act.put, List.setIfInBounds_toArray, List.set_cons_zero, List.set_cons_succ]
                      clear hK K
                      refine take_op (i := 57) (d := 148) (v := .bool false) rfl rfl hsel (by decide +kernel) (by decide +kernel) hQ (Or.inl ⟨by rfl, fun _ => by first | rfl | (go_simp; done) | (go_simp; rfl)⟩) ?_
                      simp only [Act.put, List.setIfInBounds_toArray, List.set_cons_zero, List.set_cons_succ]
                      refine take_op (i := 58) (d := 149) (v := .bool false) rfl rfl hsel (by decide +kernel) (by decide +kernel) hQ (Or.inl ⟨by rfl, fun _ => by first | rfl | (go_simp; done) | (go_simp; rfl)⟩) ?_
                      simp only [Act.put, List.setIfInBounds_toArray, List.set_cons_zero, List.set_cons_succ]
                      refine take_op (i := 59) (d := 150) (v := .bool false) rfl rfl hsel (by decide +kernel) (by decide +kernel) hQ (Or.inl ⟨by rfl, fun _ => by first | rfl | (go_simp; done) | (go_simp; rfl)⟩) ?_
                      simp only [Act.put, List.setIfInBounds_toArray, List.set_cons_zero, List.set_cons_succ]
                      refine take_op (i := 60) (d := 151) (v := .bool false) rfl rfl hsel (by decide +kernel) (by decide +kernel) hQ (Or.inl ⟨by rfl, fun _ => by first | rfl | (go_simp; done) | (go_simp; rfl)⟩) ?_
                      simp only [Act.put, List.setIfInBounds_toArray, List.set_cons_zero, List.set_cons_succ]
                      refine wpAny_done (by kernel_rfl) (hN _ _ ?_) _
                      go_wp2
                      exact ⟨⟨i + 1, hlt, by go_num, HB6.out⟩, by simp [intOf]; omega⟩
                    · go_simp
                      refine hK _ _ ?_
                      try simp only [Act.put, List.setIfInBounds_toArray, List.set_cons_zero, List.set_cons_succ]
                      clear hK K
                      refine wpAny_ready (rs := [52]) (by decide +kernel) (by simp) ?_
                      refine AllReady.cons rfl (fun K hK => ?_) AllReady.nil
                      go_simp
                      refine hK _ _ ?_
                      try simp only [Act.put, List.setIfInBounds_toArray, List.set_cons_zero, List.set_cons_succ]
                      clear hK K
                      refine take_op (i := 57) (d := 148) (v := .bool false) rfl rfl hsel (by decide +kernel) (by decide +kernel) hQ (Or.inl ⟨by rfl, fun _ => by first | rfl | (go_simp; done) | (go_simp; rfl)⟩) ?_
                      simp only [Act.put, List.setIfInBounds_toArray, List.set_cons_zero, List.set_cons_succ]
                      refine take_op (i := 58) (d := 149) (v := .bool false) rfl rfl hsel (by decide +kernel) (by decide +kernel) hQ (Or.inl ⟨by rfl, fun _ => by first | rfl | (go_simp; done) | (go_simp; rfl)⟩) ?_
                      simp only [Act.put, List.setIfInBounds_toArray, List.set_cons_zero, List.set_cons_succ]
                      refine take_op (i := 59) (d := 150) (v := .bool false) rfl rfl hsel (by decide +kernel) (by decide +kernel) hQ (Or.inl ⟨by rfl, fun _ => by first | rfl | (go_simp; done) | (go_simp; rfl)⟩) ?_
                      simp only [Act.put, List.setIfInBounds_toArray, List.set_cons_zero, List.set_cons_succ]
                      refine take_op (i := 60) (d := 151) (v := .bool false) rfl rfl hsel (by decide +kernel) (by decide +kernel) hQ (Or.inl ⟨by rfl, fun _ => by first | rfl | (go_simp; done) | (go_simp; rfl)⟩) ?_
                      simp only [Act.put, List.setIfInBounds_toArray, List.set_cons_zero, List.set_cons_succ]
                      refine wpAny_done (by kernel_rfl) (hN _ _ ?_) _
                      go_wp2
                      exact ⟨⟨i + 1, hlt, by go_num, HB6.out⟩, by simp [intOf]; omega⟩
                · have d3 : decide (0 ≤ y) = false := decide_eq_false hy
                  clear hlat hx1 hx hy hx2 hx3
                  have h9 := HA.out (i : Int)
                  simp only [Hpa.out] at h9
                  have HPA := Lib.hid h9
                  clear h9
                  have HKy := Lib.hid (fun w' (h : Below w5.heap.size w5 w') => (HK.out w' h).2.2)
                  obtain ⟨_, c0, c0y⟩ := HK.out wr HBr.out
                  go_wp2_with fail
                  refine wp_region_any (by kernel_rfl) ?_
                  change wpAny _ _ _ _ 61 #[false, false, false, false, false, false, false, false, false, false, false, false, false, false, false, false, false, false, false, false, false, false, false, false, false, false, false, false, false, false, false, false, false, false, false, false, false, false, false, false, false, false, false, false, false, false, false, false, false, false, false, false, false, false, false, false, false, false, false, false, false] _ (World.drew _)
                  refine with_Q (fun _ _ _ _ _ h => h) (fun Q hQ hN => ?_)
                  refine with_sel (by kernel_rfl) (fun hsel => ?_)
                  refine take_op (i := 0) (d := 91) (v := .slice (some ⟨g, 0, none⟩) N cp) rfl rfl hsel (by decide +kernel) (by decide +kernel) hQ (Or.inl ⟨by rfl, fun _ => by first | rfl | (go_simp; done) | (go_simp; rfl)⟩) ?_
                  simp only [Act.put, List.setIfInBounds_toArray, List.set_cons_zero, List.set_cons_succ]
                  refine take_op (i := 1) (d := 92) (v := .int .i64 N) rfl rfl hsel (by decide +kernel) (by decide +kernel) hQ (Or.inl ⟨by rfl, fun _ => by first | rfl | (go_simp; done) | (go_simp; rfl)⟩) ?_
                  simp only [Act.put, List.setIfInBounds_toArray, List.set_cons_zero, List.set_cons_succ]
                  refine take_op (i := 2) (d := 93) (v := .int .i64 N) rfl rfl hsel (by decide +kernel) (by decide +kernel) hQ (Or.inl ⟨by rfl, fun _ => by first | rfl | (go_simp; done) | (go_simp; rfl)⟩) ?_
                  simp only [Act.put, List.setIfInBounds_toArray, List.set_cons_zero, List.set_cons_succ]
                  refine take_op (i := 3) (d := 94) (v := .bool false) rfl rfl hsel (by decide +kernel) (by decide +kernel) hQ (Or.inl ⟨by rfl, fun _ => by first | rfl | (go_simp; done) | (go_simp; rfl)⟩) ?_
                  simp only [Act.put, List.setIfInBounds_toArray, List.set_cons_zero, List.set_cons_succ]
                  refine take_op (i := 4) (d := 95) (v := .bool false) rfl rfl hsel (by decide +kernel) (by decide +kernel) hQ (Or.inl ⟨by rfl, fun _ => by first | rfl | (go_simp; done) | (go_simp; rfl)⟩) ?_
                  simp only [Act.put, List.setIfInBounds_toArray, List.set_cons_zero, List.set_cons_succ]
                  refine take_op (i := 5) (d := 96) (v := .slice (some ⟨g, 0, none⟩) N cp) rfl rfl hsel (by decide +kernel) (by decide +kernel) hQ (Or.inl ⟨by rfl, fun _ => by first | rfl | (go_simp; done) | (go_simp; rfl)⟩) ?_
                  simp only [Act.put, List.setIfInBounds_toArray, List.set_cons_zero, List.set_cons_succ]
                  refine take_op (i := 6) (d := 97) (v := .int .i64 i) rfl rfl hsel (by decide +kernel) (by decide +kernel) hQ (Or.inl ⟨by rfl, fun _ => by first | rfl | (go_simp; done) | (go_simp; rfl)⟩) ?_
                  simp only [Act.put, List.setIfInBounds_toArray, List.set_cons_zero, List.set_cons_succ]
                  refine take_op (i := 7) (d := 98) (v := .pointer (some ⟨g, i, none⟩)) rfl rfl hsel (by decide +kernel) (by decide +kernel) hQ (Or.inl ⟨by rfl, fun _ => by first | rfl | (go_simp; done) | (go_simp; rfl)⟩) ?_
                  simp only [Act.put, List.setIfInBounds_toArray, List.set_cons_zero, List.set_cons_succ]
                  refine wpAny_ready (rs := [8]) (by decide +kernel) (by simp) ?_
                  refine AllReady.cons rfl (fun K hK => ?_) AllReady.nil
                  go_simp
                  refine hK _ _ ?_
                  try simp only [Act.put, List.setIfInBounds_toArray, List.set_cons_zero, List.set_cons_succ]
                  clear hK K
                  refine take_op (i := 9) (d := 100) (v := .bool true) rfl rfl hsel (by decide +kernel) (by decide +kernel) hQ (Or.inl ⟨by rfl, fun _ => by first | rfl | (go_simp; done) | (go_simp; rfl)⟩) ?_
                  simp only [Act.put, List.setIfInBounds_toArray, List.set_cons_zero, List.set_cons_succ]
                  refine take_op (i := 10) (d := 101) (v := .bool true) rfl rfl hsel (by decide +kernel) (by decide +kernel) hQ (Or.inl ⟨by rfl, fun _ => by first | rfl | (go_simp; done) | (go_simp; rfl)⟩) ?_
                  simp only [Act.put, List.setIfInBounds_toArray, List.set_cons_zero, List.set_cons_succ]
                  refine take_op (i := 11) (d := 102) (v := .slice (some ⟨g, 0, none⟩) N cp) rfl rfl hsel (by decide +kernel) (by decide +kernel) hQ (Or.inl ⟨by rfl, fun _ => by first | rfl | (go_simp; done) | (go_simp; rfl)⟩) ?_
                  simp only [Act.put, List.setIfInBounds_toArray, List.set_cons_zero, List.set_cons_succ]
                  refine take_op (i := 12) (d := 103) (v := .int .i64 i) rfl rfl hsel (by decide +kernel) (by decide +kernel) hQ (Or.inl ⟨by rfl, fun _ => by first | rfl | (go_simp; done) | (go_simp; rfl)⟩) ?_
                  simp only [Act.put, List.setIfInBounds_toArray, List.set_cons_zero, List.set_cons_succ]
                  refine take_op (i := 13) (d := 104) (v := .pointer (some ⟨g, i, none⟩)) rfl rfl hsel (by decide +kernel) (by decide +kernel) hQ (Or.inl ⟨by rfl, fun _ => by first | rfl | (go_simp; done) | (go_simp; rfl)⟩) ?_
                  simp only [Act.put, List.setIfInBounds_toArray, List.set_cons_zero, List.set_cons_succ]
                  refine take_op (i := 15) (d := 106) (v := .int .i64 t) rfl rfl hsel (by decide +kernel) (by decide +kernel) hQ (Or.inl ⟨by rfl, fun _ => by first | rfl | (go_simp; done) | (go_simp; rfl)⟩) ?_
                  simp only [Act.put, List.setIfInBounds_toArray, List.set_cons_zero, List.set_cons_succ]
                  refine wpAny_ready (rs := [14]) (by decide +kernel) (by simp) ?_
                  refine AllReady.cons rfl (fun K hK => ?_) AllReady.nil
                  go_simp
                  refine hK _ _ ?_
                  try simp only [Act.put, List.setIfInBounds_toArray, List.set_cons_zero, List.set_cons_succ]
                  clear hK K
                  refine take_op (i := 16) (d := 107) (v := .bool false) rfl rfl hsel (by decide +kernel) (by decide +kernel) hQ (Or.inl ⟨by rfl, fun _ => by first | rfl | (go_simp; done) | (go_simp; rfl)⟩) ?_
                  simp only [Act.put, List.setIfInBounds_toArray, List.set_cons_zero, List.set_cons_succ]
                  refine take_op (i := 17) (d := 108) (v := .bool false) rfl rfl hsel (by decide +kernel) (by decide +kernel) hQ (Or.inl ⟨by rfl, fun _ => by first | rfl | (go_simp; done) | (go_simp; rfl)⟩) ?_
                  simp only [Act.put, List.setIfInBounds_toArray, List.set_cons_zero, List.set_cons_succ]
                  refine take_op (i := 18) (d := 109) (v := .bool false) rfl rfl hsel (by decide +kernel) (by decide +kernel) hQ (Or.inl ⟨by rfl, fun _ => by first | rfl | (go_simp; done) | (go_simp; rfl)⟩) ?_
                  simp only [Act.put, List.setIfInBounds_toArray, List.set_cons_zero, List.set_cons_succ]
                  refine take_op (i := 19) (d := 110) (v := .bool false) rfl rfl hsel (by decide +kernel) (by decide +kernel) hQ (Or.inl ⟨by rfl, fun _ => by first | rfl | (go_simp; done) | (go_simp; rfl)⟩) ?_
                  simp only [Act.put, List.setIfInBounds_toArray, List.set_cons_zero, List.set_cons_succ]
                  refine take_op (i := 20) (d := 111) (v := .int .i64 N) rfl rfl hsel (by decide +kernel) (by decide +kernel) hQ (Or.inl ⟨by rfl, fun _ => by first | rfl | (go_simp; done) | (go_simp; rfl)⟩) ?_
                  simp only [Act.put, List.setIfInBounds_toArray, List.set_cons_zero, List.set_cons_succ]
                  refine take_op (i := 21) (d := 112) (v := sv) rfl rfl hsel (by decide +kernel) (by decide +kernel) hQ (Or.inl ⟨by rfl, fun _ => by first | rfl | (go_simp; done) | (go_simp; rfl)⟩) ?_
                  simp only [Act.put, List.setIfInBounds_toArray, List.set_cons_zero, List.set_cons_succ]
                  refine take_op (i := 22) (d := 113) (v := .int .i64 F) rfl rfl hsel (by decide +kernel) (by decide +kernel) hQ (Or.inl ⟨by rfl, fun _ => by first | rfl | (go_simp; done) | (go_simp; rfl)⟩) ?_
                  simp only [Act.put, List.setIfInBounds_toArray, List.set_cons_zero, List.set_cons_succ]
                  refine take_op (i := 23) (d := 114) (v := .int .i64 i) rfl rfl hsel (by decide +kernel) (by decide +kernel) hQ (Or.inl ⟨by rfl, fun _ => by first | rfl | (go_simp; done) | (go_simp; rfl)⟩) ?_
                  simp only [Act.put, List.setIfInBounds_toArray, List.set_cons_zero, List.set_cons_succ]
                  refine take_op (i := 24) (d := 115) (v := .int .i64 t) rfl rfl hsel (by decide +kernel) (by decide +kernel) hQ (Or.inl ⟨by rfl, fun _ => by first | rfl | (go_simp; done) | (go_simp; rfl)⟩) ?_
                  simp only [Act.put, List.setIfInBounds_toArray, List.set_cons_zero, List.set_cons_succ]
                  refine take_op (i := 25) (d := 116) (v := .int .i64 ch) rfl rfl hsel (by decide +kernel) (by decide +kernel) hQ (Or.inl ⟨by rfl, fun _ => by first | rfl | (go_simp; done) | (go_simp; rfl)⟩) ?_
                  simp only [Act.put, List.setIfInBounds_toArray, List.set_cons_zero, List.set_cons_succ]
                  refine take_op (i := 27) (d := 118) (v := .slice (some ⟨g, 0, none⟩) N cp) rfl rfl hsel (by decide +kernel) (by decide +kernel) hQ (Or.inl ⟨by rfl, fun _ => by first | rfl | (go_simp; done) | (go_simp; rfl)⟩) ?_
                  simp only [Act.put, List.setIfInBounds_toArray, List.set_cons_zero, List.set_cons_succ]
                  refine take_op (i := 28) (d := 119) (v := .int .i64 i) rfl rfl hsel (by decide +kernel) (by decide +kernel) hQ (Or.inl ⟨by rfl, fun _ => by first | rfl | (go_simp; done) | (go_simp; rfl)⟩) ?_
                  simp only [Act.put, List.setIfInBounds_toArray, List.set_cons_zero, List.set_cons_succ]
                  refine take_op (i := 29) (d := 120) (v := .pointer (some ⟨g, i, none⟩)) rfl rfl hsel (by decide +kernel) (by decide +kernel) hQ (Or.inl ⟨by rfl, fun _ => by first | rfl | (go_simp; done) | (go_simp; rfl)⟩) ?_
                  simp only [Act.put, List.setIfInBounds_toArray, List.set_cons_zero, List.set_cons_succ]
                  refine wpAny_ready (rs := [26, 30]) (by decide +kernel) (by simp) ?_
                  refine AllReady.cons rfl (fun K hK => ?_) (AllReady.cons rfl (fun K hK => ?_) AllReady.nil)
                  · go_simp
                    go_at_call 35
                    refine (HPA.out _ ((HB15.out.trans (HBr.out.mono HB15.out.size)).drew)).mono ?_; rintro e w6 ⟨rfl, hb6⟩
                    have hb6' : Below wr.heap.size wr w6 := ((Below.refl _ _).drew).trans (hb6.mono (Nat.le_refl _))
                    have hb56 := HBr.out.trans (hb6'.mono HBr.out.size)
                    have c6 := (HK.out w6 hb56).2.1
                    have y6 := HKy.out w6 hb56
                    have HB6 := Lib.hid hb56
                    clear hb6 hb6' hb56
                    refine hK _ _ ?_
                    try simp only [Act.put, List.setIfInBounds_toArray, List.set_cons_zero, List.set_cons_succ]
                    clear hK K
                    refine wpAny_ready (rs := [30]) (by decide +kernel) (by simp) ?_
                    refine AllReady.cons rfl (fun K hK => ?_) AllReady.nil
                    go_simp
                    refine hK _ _ ?_
                    try simp only [Act.put, List.setIfInBounds_toArray, List.set_cons_zero, List.set_cons_succ]
                    clear hK K
                    refine take_op (i := 31) (d := 122) (v := .bool false) rfl rfl hsel (by decide +kernel) (by decide +kernel) hQ (Or.inl ⟨by rfl, fun _ => by first | rfl | (go_simp; done) | (go_simp; rfl)⟩) ?_
                    simp only [Act.put, List.setIfInBounds_toArray, List.set_cons_zero, List.set_cons_succ]
                    refine take_op (i := 32) (d := 123) (v := .bool false) rfl rfl hsel (by decide +kernel) (by decide +kernel) hQ (Or.inl ⟨by rfl, fun _ => by first | rfl | (go_simp; done) | (go_simp; rfl)⟩) ?_
                    simp only [Act.put, List.setIfInBounds_toArray, List.set_cons_zero, List.set_cons_succ]
                    refine take_op (i := 33) (d := 124) (v := .bool false) rfl rfl hsel (by decide +kernel) (by decide +kernel) hQ (Or.inl ⟨by rfl, fun _ => by first | rfl | (go_simp; done) | (go_simp; rfl)⟩) ?_
                    simp only [Act.put, List.setIfInBounds_toArray, List.set_cons_zero, List.set_cons_succ]
                    refine take_op (i := 34) (d := 125) (v := .bool true) rfl rfl hsel (by decide +kernel) (by decide +kernel) hQ (Or.inl ⟨by rfl, fun _ => by first | rfl | (go_simp; done) | (go_simp; rfl)⟩) ?_
                    simp only [Act.put, List.setIfInBounds_toArray, List.set_cons_zero, List.set_cons_succ]
                    refine take_op (i := 35) (d := 126) (v := .bool true) rfl rfl hsel (by decide +kernel) (by decide +kernel) hQ (Or.inl ⟨by rfl, fun _ => by first | rfl | (go_simp; done) | (go_simp; rfl)⟩) ?_
                    simp only [Act.put, List.setIfInBounds_toArray, List.set_cons_zero, List.set_cons_succ]
                    refine take_op (i := 36) (d := 127) (v := .slice (some ⟨g5, 0, none⟩) N cp5) rfl rfl hsel (by decide +kernel) (by decide +kernel) hQ (Or.inl ⟨by rfl, fun _ => by first | rfl | (go_simp; done) | (go_simp; rfl)⟩) ?_
                    simp only [Act.put, List.setIfInBounds_toArray, List.set_cons_zero, List.set_cons_succ]
                    refine take_op (i := 37) (d := 128) (v := .int .i64 i) rfl rfl hsel (by decide +kernel) (by decide +kernel) hQ (Or.inl ⟨by rfl, fun _ => by first | rfl | (go_simp; done) | (go_simp; rfl)⟩) ?_
                    simp only [Act.put, List.setIfInBounds_toArray, List.set_cons_zero, List.set_cons_succ]
                    refine take_op (i := 38) (d := 129) (v := .pointer (some ⟨g5, i, none⟩)) rfl rfl hsel (by decide +kernel) (by decide +kernel) hQ (Or.inl ⟨by rfl, fun _ => by first | rfl | (go_simp; done) | (go_simp; rfl)⟩) ?_
                    simp only [Act.put, List.setIfInBounds_toArray, List.set_cons_zero, List.set_cons_succ]
                    refine wpAny_ready (rs := [39]) (by decide +kernel) (by simp) ?_
                    refine AllReady.cons rfl (fun K hK => ?_) AllReady.nil
                    go_simp
                    refine hK _ _ ?_
                    try simp only [Act.put, List.setIfInBounds_toArray, List.set_cons_zero, List.set_cons_succ]
                    clear hK K
                    refine take_op (i := 40) (d := 131) (v := .bool false) rfl rfl hsel (by decide +kernel) (by decide +kernel) hQ (Or.inl ⟨by rfl, fun _ => by first | rfl | (go_simp; done) | (go_simp; rfl)⟩) ?_
                    simp only [Act.put, List.setIfInBounds_toArray, List.set_cons_zero, List.set_cons_succ]
                    refine take_op (i := 41) (d := 132) (v := .bool false) rfl rfl hsel (by decide +kernel) (by decide +kernel) hQ (Or.inl ⟨by rfl, fun _ => by first | rfl | (go_simp; done) | (go_simp; rfl)⟩) ?_
                    simp only [Act.put, List.setIfInBounds_toArray, List.set_cons_zero, List.set_cons_succ]
                    refine take_op (i := 42) (d := 133) (v := .bool false) rfl rfl hsel (by decide +kernel) (by decide +kernel) hQ (Or.inl ⟨by rfl, fun _ => by first | rfl | (go_simp; done) | (go_simp; rfl)⟩) ?_
                    simp only [Act.put, List.setIfInBounds_toArray, List.set_cons_zero, List.set_cons_succ]
                    change wpAny _ _ _ _ (2 + ([(43, 134), (44, 135), (45, 136), (46, 137), (47, 138), (48, 139), (49, 140), (50, 141), (51, 142), (52, 143), (53, 144), (54, 145), (55, 146), (56, 147), (57, 148), (58, 149)] : List (Nat × Nat)).length) _ _ _
                    refine take_unds hsel hQ [(43, 134), (44, 135), (45, 136), (46, 137), (47, 138), (48, 139), (49, 140), (50, 141), (51, 142), (52, 143), (53, 144), (54, 145), (55, 146), (56, 147), (57, 148), (58, 149)] 2 _ _ (by decide +kernel) (by kernel_rfl) ?_
                    change wpAny _ _ _ _ 2 #[true, true, true, true, true, true, true, true, true, true, true, true, true, true, true, true, true, true, true, true, true, true, true, true, true, true, true, true, true, true, true, true, true, true, true, true, true, true, true, true, true, true, true, true, true, true, true, true, true, true, true, true, true, true, true, true, true, true, true, false, false] _ _
                    simp only [List.foldl_cons, List.foldl_nil, Act.put, List.setIfInBounds_toArray, List.set_cons_zero, List.set_cons_succ]
                    refine take_op (i := 59) (d := 150) (v := .bool false) rfl rfl hsel (by decide +kernel) (by decide +kernel) hQ (Or.inl ⟨by rfl, fun _ => by first | rfl | (go_simp; done) | (go_simp; rfl)⟩) ?_
                    simp only [Act.put, List.setIfInBounds_toArray, List.set_cons_zero, List.set_cons_succ]
                    refine take_op (i := 60) (d := 151) (v := .bool false) rfl rfl hsel (by decide +kernel) (by decide +kernel) hQ (Or.inl ⟨by rfl, fun _ => by first | rfl | (go_simp; done) | (go_simp; rfl)⟩) ?_
                    simp only [Act.put, List.setIfInBounds_toArray, List.set_cons_zero, List.set_cons_succ]
                    refine wpAny_done (by kernel_rfl) (hN _ _ ?_) _
                    go_wp2
                    exact ⟨⟨i + 1, hlt, by go_num, HB6.out⟩, by simp [intOf]; omega⟩
                  · go_simp
                    refine hK _ _ ?_
                    try simp only [Act.put, List.setIfInBounds_toArray, List.set_cons_zero, List.set_cons_succ]
                    clear hK K
                    refine wpAny_ready (rs := [26]) (by decide +kernel) (by simp) ?_
                    refine AllReady.cons rfl (fun K hK => ?_) AllReady.nil
                    go_simp
                    go_at_call 35
                    refine (HPA.out _ ((HB15.out.trans (HBr.out.mono HB15.out.size)).drew)).mono ?_; rintro e w6 ⟨rfl, hb6⟩
                    have hb6' : Below wr.heap.size wr w6 := ((Below.refl _ _).drew).trans (hb6.mono (Nat.le_refl _))
                    have hb56 := HBr.out.trans (hb6'.mono HBr.out.size)
                    have c6 := (HK.out w6 hb56).2.1
                    have y6 := HKy.out w6 hb56
                    have HB6 := Lib.hid hb56
                    clear hb6 hb6' hb56
                    refine hK _ _ ?_
                    try simp only [Act.put, List.setIfInBounds_toArray, List.set_cons_zero, List.set_cons_succ]
                    clear hK K
                    refine take_op (i := 31) (d := 122) (v := .bool false) rfl rfl hsel (by decide +kernel) (by decide +kernel) hQ (Or.inl ⟨by rfl, fun _ => by first | rfl | (go_simp; done) | (go_simp; rfl)⟩) ?_
                    simp only [Act.put, List.setIfInBounds_toArray, List.set_cons_zero, List.set_cons_succ]
                    refine take_op (i := 32) (d := 123) (v := .bool false) rfl rfl hsel (by decide +kernel) (by decide +kernel) hQ (Or.inl ⟨by rfl, fun _ => by first | rfl | (go_simp; done) | (go_simp; rfl)⟩) ?_
                    simp only [Act.put, List.setIfInBounds_toArray, List.set_cons_zero, List.set_cons_succ]
                    refine take_op (i := 33) (d := 124) (v := .bool false) rfl rfl hsel (by decide +kernel) (by decide +kernel) hQ (Or.inl ⟨by rfl, fun _ => by first | rfl | (go_simp; done) | (go_simp; rfl)⟩) ?_
                    simp only [Act.put, List.setIfInBounds_toArray, List.set_cons_zero, List.set_cons_succ]
                    refine take_op (i := 34) (d := 125) (v := .bool true) rfl rfl hsel (by decide +kernel) (by decide +kernel) hQ (Or.inl ⟨by rfl, fun _ => by first | rfl | (go_simp; done) | (go_simp; rfl)⟩) ?_
                    simp only [Act.put, List.setIfInBounds_toArray, List.set_cons_zero, List.set_cons_succ]
                    refine take_op (i := 35) (d := 126) (v := .bool true) rfl rfl hsel (by decide +kernel) (by decide +kernel) hQ (Or.inl ⟨by rfl, fun _ => by first | rfl | (go_simp; done) | (go_simp; rfl)⟩) ?_
                    simp only [Act.put, List.setIfInBounds_toArray, List.set_cons_zero, List.set_cons_succ]
                    refine take_op (i := 36) (d := 127) (v := .slice (some ⟨g5, 0, none⟩) N cp5) rfl rfl hsel (by decide +kernel) (by decide +kernel) hQ (Or.inl ⟨by rfl, fun _ => by first | rfl | (go_simp; done) | (go_simp; rfl)⟩) ?_
                    simp only [Act.put, List.setIfInBounds_toArray, List.set_cons_zero, List.set_cons_succ]
                    refine take_op (i := 37) (d := 128) (v := .int .i64 i) rfl rfl hsel (by decide +kernel) (by decide +kernel) hQ (Or.inl ⟨by rfl, fun _ => by first | rfl | (go_simp; done) | (go_simp; rfl)⟩) ?_
                    simp only [Act.put, List.setIfInBounds_toArray, List.set_cons_zero, List.set_cons_succ]
                    refine take_op (i := 38) (d := 129) (v := .pointer (some ⟨g5, i, none⟩)) rfl rfl hsel (by decide +kernel) (by decide +kernel) hQ (Or.inl ⟨by rfl, fun _ => by first | rfl | (go_simp; done) | (go_simp; rfl)⟩) ?_
                    simp only [Act.put, List.setIfInBounds_toArray, List.set_cons_zero, List.set_cons_succ]
                    refine wpAny_ready (rs := [39]) (by decide +kernel) (by simp) ?_
                    refine AllReady.cons rfl (fun K hK => ?_) AllReady.nil
                    go_simp
                    refine hK _ _ ?_
                    try simp only [Act.put, List.setIfInBounds_toArray, List.set_cons_zero, List.set_cons_succ]
                    clear hK K
                    refine take_op (i := 40) (d := 131) (v := .bool false) rfl rfl hsel (by decide +kernel) (by decide +kernel) hQ (Or.inl ⟨by rfl, fun _ => by first | rfl | (go_simp; done) | (go_simp; rfl)⟩) ?_
                    simp only [Act.put, List.setIfInBounds_toArray, List.set_cons_zero, List.set_cons_succ]
                    refine take_op (i := 41) (d := 132) (v := .bool false) rfl rfl hsel (by decide +kernel) (by decide +kernel) hQ (Or.inl ⟨by rfl, fun _ => by first | rfl | (go_simp; done) | (go_simp; rfl)⟩) ?_
                    simp only [Act.put, List.setIfInBounds_toArray, List.set_cons_zero, List.set_cons_succ]
                    refine take_op (i := 42) (d := 133) (v := .bool false) rfl rfl hsel (by decide +kernel) (by decide +kernel) hQ (Or.inl ⟨by rfl, fun _ => by first | rfl | (go_simp; done) | (go_simp; rfl)⟩) ?_
                    simp only [Act.put, List.setIfInBounds_toArray, List.set_cons_zero, List.set_cons_succ]
                    change wpAny _ _ _ _ (2 + ([(43, 134), (44, 135), (45, 136), (46, 137), (47, 138), (48, 139), (49, 140), (50, 141), (51, 142), (52, 143), (53, 144), (54, 145), (55, 146), (56, 147), (57, 148), (58, 149)] : List (Nat × Nat)).length) _ _ _
                    refine take_unds hsel hQ [(43, 134), (44, 135), (45, 136), (46, 137), (47, 138), (48, 139), (49, 140), (50, 141), (51, 142), (52, 143), (53, 144), (54, 145), (55, 146), (56, 147), (57, 148), (58, 149)] 2 _ _ (by decide +kernel) (by kernel_rfl) ?_
                    change wpAny _ _ _ _ 2 #[true, true, true, true, true, true, true, true, true, true, true, true, true, true, true, true, true, true, true, true, true, true, true, true, true, true, true, true, true, true, true, true, true, true, true, true, true, true, true, true, true, true, true, true, true, true, true, true, true, true, true, true, true, true, true, true, true, true, true, false, false] _ _
                    simp only [List.foldl_cons, List.foldl_nil, Act.put, List.setIfInBounds_toArray, List.set_cons_zero, List.set_cons_succ]
                    refine take_op (i := 59) (d := 150) (v := .bool false) rfl rfl hsel (by decide +kernel) (by decide +kernel) hQ (Or.inl ⟨by rfl, fun _ => by first | rfl | (go_simp; done) | (go_simp; rfl)⟩) ?_
                    simp only [Act.put, List.setIfInBounds_toArray, List.set_cons_zero, List.set_cons_succ]
                    refine take_op (i := 60) (d := 151) (v := .bool false) rfl rfl hsel (by decide +kernel) (by decide +kernel) hQ (Or.inl ⟨by rfl, fun _ => by first | rfl | (go_simp; done) | (go_simp; rfl)⟩) ?_
                    simp only [Act.put, List.setIfInBounds_toArray, List.set_cons_zero, List.set_cons_succ]
                    refine wpAny_done (by kernel_rfl) (hN _ _ ?_) _
                    go_wp2
                    exact ⟨⟨i + 1, hlt, by go_num, HB6.out⟩, by simp [intOf]; omega⟩
              · have d1 : decide (0 ≤ x) = false := decide_eq_false hx
                have d3 : decide (0 ≤ y) = false := decide_eq_false (fun h => hx (hlat h).1)
                clear hlat hx1 hx hx2 hx3
                have h9 := HA.out (i : Int)
                simp only [Hpa.out] at h9
                have HPA := Lib.hid h9
                clear h9
                have HKy := Lib.hid (fun w' (h : Below w5.heap.size w5 w') => (HK.out w' h).2.2)
                obtain ⟨_, c0, c0y⟩ := HK.out wr HBr.out
                go_wp2_with fail
                refine wp_region_any (by kernel_rfl) ?_
                change wpAny _ _ _ _ 61 #[false, false, false, false, false, false, false, false, false, false, false, false, false, false, false, false, false, false, false, false, false, false, false, false, false, false, false, false, false, false, false, false, false, false, false, false, false, false, false, false, false, false, false, false, false, false, false, false, false, false, false, false, false, false, false, false, false, false, false, false, false] _ (World.drew _)
                refine with_Q (fun _ _ _ _ _ h => h) (fun Q hQ hN => ?_)
                refine with_sel (by kernel_rfl) (fun hsel => ?_)
                refine take_op (i := 0) (d := 91) (v := .slice (some ⟨g, 0, none⟩) N cp) rfl rfl hsel (by decide +kernel) (by decide +kernel) hQ (Or.inl ⟨by rfl, fun _ => by first | rfl | (go_simp; done) | (go_simp; rfl)⟩) ?_
                simp only [Act.put, List.setIfInBounds_toArray, List.set_cons_zero, List.set_cons_succ]
                refine take_op (i := 1) (d := 92) (v := .int .i64 N) rfl rfl hsel (by decide +kernel) (by decide +kernel) hQ (Or.inl ⟨by rfl, fun _ => by first | rfl | (go_simp; done) | (go_simp; rfl)⟩) ?_
                simp only [Act.put, List.setIfInBounds_toArray, List.set_cons_zero, List.set_cons_succ]
                refine take_op (i := 2) (d := 93) (v := .int .i64 N) rfl rfl hsel (by decide +kernel) (by decide +kernel) hQ (Or.inl ⟨by rfl, fun _ => by first | rfl | (go_simp; done) | (go_simp; rfl)⟩) ?_
                simp only [Act.put, List.setIfInBounds_toArray, List.set_cons_zero, List.set_cons_succ]
                refine take_op (i := 3) (d := 94) (v := .bool false) rfl rfl hsel (by decide +kernel) (by decide +kernel) hQ (Or.inl ⟨by rfl, fun _ => by first | rfl | (go_simp; done) | (go_simp; rfl)⟩) ?_
                simp only [Act.put, List.setIfInBounds_toArray, List.set_cons_zero, List.set_cons_succ]
                refine take_op (i := 4) (d := 95) (v := .bool false) rfl rfl hsel (by decide +kernel) (by decide +kernel) hQ (Or.inl ⟨by rfl, fun _ => by first | rfl | (go_simp; done) | (go_simp; rfl)⟩) ?_
                simp only [Act.put, List.setIfInBounds_toArray, List.set_cons_zero, List.set_cons_succ]
                refine take_op (i := 5) (d := 96) (v := .slice (some ⟨g, 0, none⟩) N cp) rfl rfl hsel (by decide +kernel) (by decide +kernel) hQ (Or.inl ⟨by rfl, fun _ => by first | rfl | (go_simp; done) | (go_simp; rfl)⟩) ?_
                simp only [Act.put, List.setIfInBounds_toArray, List.set_cons_zero, List.set_cons_succ]
                refine take_op (i := 6) (d := 97) (v := .int .i64 i) rfl rfl hsel (by decide +kernel) (by decide +kernel) hQ (Or.inl ⟨by rfl, fun _ => by first | rfl | (go_simp; done) | (go_simp; rfl)⟩) ?_
                simp only [Act.put, List.setIfInBounds_toArray, List.set_cons_zero, List.set_cons_succ]
                refine take_op (i := 7) (d := 98) (v := .pointer (some ⟨g, i, none⟩)) rfl rfl hsel (by decide +kernel) (by decide +kernel) hQ (Or.inl ⟨by rfl, fun _ => by first | rfl | (go_simp; done) | (go_simp; rfl)⟩) ?_
                simp only [Act.put, List.setIfInBounds_toArray, List.set_cons_zero, List.set_cons_succ]
                refine wpAny_ready (rs := [8]) (by decide +kernel) (by simp) ?_
                refine AllReady.cons rfl (fun K hK => ?_) AllReady.nil
                go_simp
                refine hK _ _ ?_
                try simp only [Act.put, List.setIfInBounds_toArray, List.set_cons_zero, List.set_cons_succ]
                clear hK K
                refine take_op (i := 9) (d := 100) (v := .bool false) rfl rfl hsel (by decide +kernel) (by decide +kernel) hQ (Or.inl ⟨by rfl, fun _ => by first | rfl | (go_simp; done) | (go_simp; rfl)⟩) ?_
                simp only [Act.put, List.setIfInBounds_toArray, List.set_cons_zero, List.set_cons_succ]
                refine take_op (i := 10) (d := 101) (v := .bool false) rfl rfl hsel (by decide +kernel) (by decide +kernel) hQ (Or.inl ⟨by rfl, fun _ => by first | rfl | (go_simp; done) | (go_simp; rfl)⟩) ?_
                simp only [Act.put, List.setIfInBounds_toArray, List.set_cons_zero, List.set_cons_succ]
                change wpAny _ _ _ _ (44 + ([(11, 102), (12, 103), (13, 104), (14, 105), (15, 106), (16, 107)] : List (Nat × Nat)).length) _ _ _
                refine take_unds hsel hQ [(11, 102), (12, 103), (13, 104), (14, 105), (15, 106), (16, 107)] 44 _ _ (by decide +kernel) (by kernel_rfl) ?_
                change wpAny _ _ _ _ 44 #[true, true, true, true, true, true, true, true, true, true, true, true, true, true, true, true, true, false, false, false, false, false, false, false, false, false, false, false, false, false, false, false, false, false, false, false, false, false, false, false, false, false, false, false, false, false, false, false, false, false, false, false, false, false, false, false, false, false, false, false, false] _ _
                simp only [List.foldl_cons, List.foldl_nil, Act.put, List.setIfInBounds_toArray, List.set_cons_zero, List.set_cons_succ]
                refine take_op (i := 17) (d := 108) (v := .bool false) rfl rfl hsel (by decide +kernel) (by decide +kernel) hQ (Or.inl ⟨by rfl, fun _ => by first | rfl | (go_simp; done) | (go_simp; rfl)⟩) ?_
                simp only [Act.put, List.setIfInBounds_toArray, List.set_cons_zero, List.set_cons_succ]
                refine take_op (i := 18) (d := 109) (v := .bool false) rfl rfl hsel (by decide +kernel) (by decide +kernel) hQ (Or.inl ⟨by rfl, fun _ => by first | rfl | (go_simp; done) | (go_simp; rfl)⟩) ?_
                simp only [Act.put, List.setIfInBounds_toArray, List.set_cons_zero, List.set_cons_succ]
                refine take_op (i := 19) (d := 110) (v := .bool false) rfl rfl hsel (by decide +kernel) (by decide +kernel) hQ (Or.inl ⟨by rfl, fun _ => by first | rfl | (go_simp; done) | (go_simp; rfl)⟩) ?_
                simp only [Act.put, List.setIfInBounds_toArray, List.set_cons_zero, List.set_cons_succ]
                refine take_op (i := 20) (d := 111) (v := .int .i64 N) rfl rfl hsel (by decide +kernel) (by decide +kernel) hQ (Or.inl ⟨by rfl, fun _ => by first | rfl | (go_simp; done) | (go_simp; rfl)⟩) ?_
                simp only [Act.put, List.setIfInBounds_toArray, List.set_cons_zero, List.set_cons_succ]
                refine take_op (i := 21) (d := 112) (v := sv) rfl rfl hsel (by decide +kernel) (by decide +kernel) hQ (Or.inl ⟨by rfl, fun _ => by first | rfl | (go_simp; done) | (go_simp; rfl)⟩) ?_
                simp only [Act.put, List.setIfInBounds_toArray, List.set_cons_zero, List.set_cons_succ]
                refine take_op (i := 22) (d := 113) (v := .int .i64 F) rfl rfl hsel (by decide +kernel) (by decide +kernel) hQ (Or.inl ⟨by rfl, fun _ => by first | rfl | (go_simp; done) | (go_simp; rfl)⟩) ?_
                simp only [Act.put, List.setIfInBounds_toArray, List.set_cons_zero, List.set_cons_succ]
                refine take_op (i := 23) (d := 114) (v := .int .i64 i) rfl rfl hsel (by decide +kernel) (by decide +kernel) hQ (Or.inl ⟨by rfl, fun _ => by first | rfl | (go_simp; done) | (go_simp; rfl)⟩) ?_
                simp only [Act.put, List.setIfInBounds_toArray, List.set_cons_zero, List.set_cons_succ]
                refine take_op (i := 24) (d := 115) (v := .int .i64 t) rfl rfl hsel (by decide +kernel) (by decide +kernel) hQ (Or.inl ⟨by rfl, fun _ => by first | rfl | (go_simp; done) | (go_simp; rfl)⟩) ?_
                simp only [Act.put, List.setIfInBounds_toArray, List.set_cons_zero, List.set_cons_succ]
                refine take_op (i := 25) (d := 116) (v := .int .i64 ch) rfl rfl hsel (by decide +kernel) (by decide +kernel) hQ (Or.inl ⟨by rfl, fun _ => by first | rfl | (go_simp; done) | (go_simp; rfl)⟩) ?_
                simp only [Act.put, List.setIfInBounds_toArray, List.set_cons_zero, List.set_cons_succ]
                refine take_op (i := 27) (d := 118) (v := .slice (some ⟨g, 0, none⟩) N cp) rfl rfl hsel (by decide +kernel) (by decide +kernel) hQ (Or.inl ⟨by rfl, fun _ => by first | rfl | (go_simp; done) | (go_simp; rfl)⟩) ?_
                simp only [Act.put, List.setIfInBounds_toArray, List.set_cons_zero, List.set_cons_succ]
                refine take_op (i := 28) (d := 119) (v := .int .i64 i) rfl rfl hsel (by decide +kernel) (by decide +kernel) hQ (Or.inl ⟨by rfl, fun _ => by first | rfl | (go_simp; done) | (go_simp; rfl)⟩) ?_
                simp only [Act.put, List.setIfInBounds_toArray, List.set_cons_zero, List.set_cons_succ]
                refine take_op (i := 29) (d := 120) (v := .pointer (some ⟨g, i, none⟩)) rfl rfl hsel (by decide +kernel) (by decide +kernel) hQ (Or.inl ⟨by rfl, fun _ => by first | rfl | (go_simp; done) | (go_simp; rfl)⟩) ?_
                simp only [Act.put, List.setIfInBounds_toArray, List.set_cons_zero, List.set_cons_succ]
                refine wpAny_ready (rs := [26, 30]) (by decide +kernel) (by simp) ?_
                refine AllReady.cons rfl (fun K hK => ?_) (AllReady.cons rfl (fun K hK => ?_) AllReady.nil)
                · go_simp
                  go_at_call 35
                  refine (HPA.out _ ((HB15.out.trans (HBr.out.mono HB15.out.size)).drew)).mono ?_; rintro e w6 ⟨rfl, hb6⟩
                  have hb6' : Below wr.heap.size wr w6 := ((Below.refl _ _).drew).trans (hb6.mono (Nat.le_refl _))
                  have hb56 := HBr.out.trans (hb6'.mono HBr.out.size)
                  have c6 := (HK.out w6 hb56).2.1
                  have y6 := HKy.out w6 hb56
                  have HB6 := Lib.hid hb56
                  clear hb6 hb6' hb56
                  refine hK _ _ ?_
                  try simp only [Act.put, List.setIfInBounds_toArray, List.set_cons_zero, List.set_cons_succ]
                  clear hK K
                  refine wpAny_ready (rs := [30]) (by decide +kernel) (by simp) ?_
                  refine AllReady.cons rfl (fun K hK => ?_) AllReady.nil
                  go_simp
                  refine hK _ _ ?_
                  try simp only [Act.put, List.setIfInBounds_toArray, List.set_cons_zero, List.set_cons_succ]
                  clear hK K
                  refine take_op (i := 31) (d := 122) (v := .bool false) rfl rfl hsel (by decide +kernel) (by decide +kernel) hQ (Or.inl ⟨by rfl, fun _ => by first | rfl | (go_simp; done) | (go_simp; rfl)⟩) ?_
                  simp only [Act.put, List.setIfInBounds_toArray, List.set_cons_zero, List.set_cons_succ]
                  refine take_op (i := 32) (d := 123) (v := .bool false) rfl rfl hsel (by decide +kernel) (by decide +kernel) hQ (Or.inl ⟨by rfl, fun _ => by first | rfl | (go_simp; done) | (go_simp; rfl)⟩) ?_
                  simp only [Act.put, List.setIfInBounds_toArray, List.set_cons_zero, List.set_cons_succ]
                  refine take_op (i := 33) (d := 124) (v := .bool false) rfl rfl hsel (by decide +kernel) (by decide +kernel) hQ (Or.inl ⟨by rfl, fun _ => by first | rfl | (go_simp; done) | (go_simp; rfl)⟩) ?_
                  simp only [Act.put, List.setIfInBounds_toArray, List.set_cons_zero, List.set_cons_succ]
                  refine take_op (i := 34) (d := 125) (v := .bool true) rfl rfl hsel (by decide +kernel) (by decide +kernel) hQ (Or.inl ⟨by rfl, fun _ => by first | rfl | (go_simp; done) | (go_simp; rfl)⟩) ?_
                  simp only [Act.put, List.setIfInBounds_toArray, List.set_cons_zero, List.set_cons_succ]
                  refine take_op (i := 35) (d := 126) (v := .bool true) rfl rfl hsel (by decide +kernel) (by decide +kernel) hQ (Or.inl ⟨by rfl, fun _ => by first | rfl | (go_simp; done) | (go_simp; rfl)⟩) ?_
                  simp only [Act.put, List.setIfInBounds_toArray, List.set_cons_zero, List.set_cons_succ]
                  refine take_op (i := 36) (d := 127) (v := .slice (some ⟨g5, 0, none⟩) N cp5) rfl rfl hsel (by decide +kernel) (by decide +kernel) hQ (Or.inl ⟨by rfl, fun _ => by first | rfl | (go_simp; done) | (go_simp; rfl)⟩) ?_
                  simp only [Act.put, List.setIfInBounds_toArray, List.set_cons_zero, List.set_cons_succ]
                  refine take_op (i := 37) (d := 128) (v := .int .i64 i) rfl rfl hsel (by decide +kernel) (by decide +kernel) hQ (Or.inl ⟨by rfl, fun _ => by first | rfl | (go_simp; done) | (go_simp; rfl)⟩) ?_
                  simp only [Act.put, List.setIfInBounds_toArray, List.set_cons_zero, List.set_cons_succ]
                  refine take_op (i := 38) (d := 129) (v := .pointer (some ⟨g5, i, none⟩)) rfl rfl hsel (by decide +kernel) (by decide +kernel) hQ (Or.inl ⟨by rfl, fun _ => by first | rfl | (go_simp; done) | (go_simp; rfl)⟩) ?_
                  simp only [Act.put, List.setIfInBounds_toArray, List.set_cons_zero, List.set_cons_succ]
                  refine wpAny_ready (rs := [39]) (by decide +kernel) (by simp) ?_
                  refine AllReady.cons rfl (fun K hK => ?_) AllReady.nil
                  go_simp
                  refine hK _ _ ?_
                  try simp only [Act.put, List.setIfInBounds_toArray, List.set_cons_zero, List.set_cons_succ]
                  clear hK K
                  refine take_op (i := 40) (d := 131) (v := .bool false) rfl rfl hsel (by decide +kernel) (by decide +kernel) hQ (Or.inl ⟨by rfl, fun _ => by first | rfl | (go_simp; done) | (go_simp; rfl)⟩) ?_
                  simp only [Act.put, List.setIfInBounds_toArray, List.set_cons_zero, List.set_cons_succ]
                  refine take_op (i := 41) (d := 132) (v := .bool false) rfl rfl hsel (by decide +kernel) (by decide +kernel) hQ (Or.inl ⟨by rfl, fun _ => by first | rfl | (go_simp; done) | (go_simp; rfl)⟩) ?_
                  simp only [Act.put, List.setIfInBounds_toArray, List.set_cons_zero, List.set_cons_succ]
                  refine take_op (i := 42) (d := 133) (v := .bool false) rfl rfl hsel (by decide +kernel) (by decide +kernel) hQ (Or.inl ⟨by rfl, fun _ => by first | rfl | (go_simp; done) | (go_simp; rfl)⟩) ?_
                  simp only [Act.put, List.setIfInBounds_toArray, List.set_cons_zero, List.set_cons_succ]
                  change wpAny _ _ _ _ (2 + ([(43, 134), (44, 135), (45, 136), (46, 137), (47, 138), (48, 139), (49, 140), (50, 141), (51, 142), (52, 143), (53, 144), (54, 145), (55, 146), (56, 147), (57, 148), (58, 149)] : List (Nat × Nat)).length) _ _ _
                  refine take_unds hsel hQ [(43, 134), (44, 135), (45, 136), (46, 137), (47, 138), (48, 139), (49, 140), (50, 141), (51, 142), (52, 143), (53, 144), (54, 145), (55, 146), (56, 147), (57, 148), (58, 149)] 2 _ _ (by decide +kernel) (by kernel_rfl) ?_
                  change wpAny _ _ _ _ 2 #[true, true, true, true, true, true, true, true, true, true, true, true, true, true, true, true, true, true, true, true, true, true, true, true, true, true, true, true, true, true, true, true, true, true, true, true, true, true, true, true, true, true, true, true, true, true, true, true, true, true, true, true, true, true, true, true, true, true, true, false, false] _ _
                  simp only [List.foldl_cons, List.foldl_nil, Act.put, List.setIfInBounds_toArray, List.set_cons_zero, List.set_cons_succ]
                  refine take_op (i := 59) (d := 150) (v := .bool false) rfl rfl hsel (by decide +kernel) (by decide +kernel) hQ (Or.inl ⟨by rfl, fun _ => by first | rfl | (go_simp; done) | (go_simp; rfl)⟩) ?_
                  simp only [Act.put, List.setIfInBounds_toArray, List.set_cons_zero, List.set_cons_succ]
                  refine take_op (i := 60) (d := 151) (v := .bool false) rfl rfl hsel (by decide +kernel) (by decide +kernel) hQ (Or.inl ⟨by rfl, fun _ => by first | rfl | (go_simp; done) | (go_simp; rfl)⟩) ?_
                  simp only [Act.put, List.setIfInBounds_toArray, List.set_cons_zero, List.set_cons_succ]
                  refine wpAny_done (by kernel_rfl) (hN _ _ ?_) _
                  go_wp2
                  exact ⟨⟨i + 1, hlt, by go_num, HB6.out⟩, by simp [intOf]; omega⟩
                · go_simp
                  refine hK _ _ ?_
                  try simp only [Act.put, List.setIfInBounds_toArray, List.set_cons_zero, List.set_cons_succ]
                  clear hK K
                  refine wpAny_ready (rs := [26]) (by decide +kernel) (by simp) ?_
                  refine AllReady.cons rfl (fun K hK => ?_) AllReady.nil
                  go_simp
                  go_at_call 35
                  refine (HPA.out _ ((HB15.out.trans (HBr.out.mono HB15.out.size)).drew)).mono ?_; rintro e w6 ⟨rfl, hb6⟩
                  have hb6' : Below wr.heap.size wr w6 := ((Below.refl _ _).drew).trans (hb6.mono (Nat.le_refl _))
                  have hb56 := HBr.out.trans (hb6'.mono HBr.out.size)
                  have c6 := (HK.out w6 hb56).2.1
                  have y6 := HKy.out w6 hb56
                  have HB6 := Lib.hid hb56
                  clear hb6 hb6' hb56
                  refine hK _ _ ?_
                  try simp only [Act.put, List.setIfInBounds_toArray, List.set_cons_zero, List.set_cons_succ]
                  clear hK K
                  refine take_op (i := 31) (d := 122) (v := .bool false) rfl rfl hsel (by decide +kernel) (by decide +kernel) hQ (Or.inl ⟨by rfl, fun _ => by first | rfl | (go_simp; done) | (go_simp; rfl)⟩) ?_
                  simp only [Act.put, List.setIfInBounds_toArray, List.set_cons_zero, List.set_cons_succ]
                  refine take_op (i := 32) (d := 123) (v := .bool false) rfl rfl hsel (by decide +kernel) (by decide +kernel) hQ (Or.inl ⟨by rfl, fun _ => by first | rfl | (go_simp; done) | (go_simp; rfl)⟩) ?_
                  simp only [Act.put, List.setIfInBounds_toArray, List.set_cons_zero, List.set_cons_succ]
                  refine take_op (i := 33) (d := 124) (v := .bool false) rfl rfl hsel (by decide +kernel) (by decide +kernel) hQ (Or.inl ⟨by rfl, fun _ => by first | rfl | (go_simp; done) | (go_simp; rfl)⟩) ?_
                  simp only [Act.put, List.setIfInBounds_toArray, List.set_cons_zero, List.set_cons_succ]
                  refine take_op (i := 34) (d := 125) (v := .bool true) rfl rfl hsel (by decide +kernel) (by decide +kernel) hQ (Or.inl ⟨by rfl, fun _ => by first | rfl | (go_simp; done) | (go_simp; rfl)⟩) ?_
                  simp only [Act.put, List.setIfInBounds_toArray, List.set_cons_zero, List.set_cons_succ]
                  refine take_op (i := 35) (d := 126) (v := .bool true) rfl rfl hsel (by decide +kernel) (by decide +kernel) hQ (Or.inl ⟨by rfl, fun _ => by first | rfl | (go_simp; done) | (go_simp; rfl)⟩) ?_
                  simp only [Act.put, List.setIfInBounds_toArray, List.set_cons_zero, List.set_cons_succ]
                  refine take_op (i := 36) (d := 127) (v := .slice (some ⟨g5, 0, none⟩) N cp5) rfl rfl hsel (by decide +kernel) (by decide +kernel) hQ (Or.inl ⟨by rfl, fun _ => by first | rfl | (go_simp; done) | (go_simp; rfl)⟩) ?_
                  simp only [Act.put, List.setIfInBounds_toArray, List.set_cons_zero, List.set_cons_succ]
                  refine take_op (i := 37) (d := 128) (v := .int .i64 i) rfl rfl hsel (by decide +kernel) (by decide +kernel) hQ (Or.inl ⟨by rfl, fun _ => by first | rfl | (go_simp; done) | (go_simp; rfl)⟩) ?_
                  simp only [Act.put, List.setIfInBounds_toArray, List.set_cons_zero, List.set_cons_succ]
                  refine take_op (i := 38) (d := 129) (v := .pointer (some ⟨g5, i, none⟩)) rfl rfl hsel (by decide +kernel) (by decide +kernel) hQ (Or.inl ⟨by rfl, fun _ => by first | rfl | (go_simp; done) | (go_simp; rfl)⟩) ?_
                  simp only [Act.put, List.setIfInBounds_toArray, List.set_cons_zero, List.set_cons_succ]
                  refine wpAny_ready (rs := [39]) (by decide +kernel) (by simp) ?_
                  refine AllReady.cons rfl (fun K hK => ?_) AllReady.nil
                  go_simp
                  refine hK _ _ ?_
                  try simp only [Act.put, List.setIfInBounds_toArray, List.set_cons_zero, List.set_cons_succ]
                  clear hK K
                  refine take_op (i := 40) (d := 131) (v := .bool false) rfl rfl hsel (by decide +kernel) (by decide +kernel) hQ (Or.inl ⟨by rfl, fun _ => by first | rfl | (go_simp; done) | (go_simp; rfl)⟩) ?_
                  simp only [Act.put, List.setIfInBounds_toArray, List.set_cons_zero, List.set_cons_succ]
                  refine take_op (i := 41) (d := 132) (v := .bool false) rfl rfl hsel (by decide +kernel) (by decide +kernel) hQ (Or.inl ⟨by rfl, fun _ => by first | rfl | (go_simp; done) | (go_simp; rfl)⟩) ?_
                  simp only [Act.put, List.setIfInBounds_toArray, List.set_cons_zero, List.set_cons_succ]
                  refine take_op (i := 42) (d := 133) (v := .bool false) rfl rfl hsel (by decide +kernel) (by decide +kernel) hQ (Or.inl ⟨by rfl, fun _ => by first | rfl | (go_simp; done) | (go_simp; rfl)⟩) ?_
                  simp only [Act.put, List.setIfInBounds_toArray, List.set_cons_zero, List.set_cons_succ]
                  change wpAny _ _ _ _ (2 + ([(43, 134), (44, 135), (45, 136), (46, 137), (47, 138), (48, 139), (49, 140), (50, 141), (51, 142), (52, 143), (53, 144), (54, 145), (55, 146), (56, 147), (57, 148), (58, 149)] : List (Nat × Nat)).length) _ _ _
                  refine take_unds hsel hQ [(43, 134), (44, 135), (45, 136), (46, 137), (47, 138), (48, 139), (49, 140), (50, 141), (51, 142), (52, 143), (53, 144), (54, 145), (55, 146), (56, 147), (57, 148), (58, 149)] 2 _ _ (by decide +kernel) (by kernel_rfl) ?_
                  change wpAny _ _ _ _ 2 #[true, true, true, true, true, true, true, true, true, true, true, true, true, true, true, true, true, true, true, true, true, true, true, true, true, true, true, true, true, true, true, true, true, true, true, true, true, true, true, true, true, true, true, true, true, true, true, true, true, true, true, true, true, true, true, true, true, true, true, false, false] _ _
                  simp only [List.foldl_cons, List.foldl_nil, Act.put, List.setIfInBounds_toArray, List.set_cons_zero, List.set_cons_succ]
                  refine take_op (i := 59) (d := 150) (v := .bool false) rfl rfl hsel (by decide +kernel) (by decide +kernel) hQ (Or.inl ⟨by rfl, fun _ => by first | rfl | (go_simp; done) | (go_simp; rfl)⟩) ?_
                  simp only [Act.put, List.setIfInBounds_toArray, List.set_cons_zero, List.set_cons_succ]
                  refine take_op (i := 60) (d := 151) (v := .bool false) rfl rfl hsel (by decide +kernel) (by decide +kernel) hQ (Or.inl ⟨by rfl, fun _ => by first | rfl | (go_simp; done) | (go_simp; rfl)⟩) ?_
                  simp only [Act.put, List.setIfInBounds_toArray, List.set_cons_zero, List.set_cons_succ]
                  refine wpAny_done (by kernel_rfl) (hN _ _ ?_) _
                  go_wp2
                  exact ⟨⟨i + 1, hlt, by go_num, HB6.out⟩, by simp [intOf]; omega⟩
            · obtain rfl : i = N := by omega
              have cF := HC.out F hF _ (HB25.out.trans (hbel.mono HB25.out.size))
              rw [Hself.out] at cF
              have htt' : (t == t) = true := by simp
              clear hbel
              go_wp2
              go_ret
              exact ⟨ret_bool (by first | rfl | (simp; done)), HB1.out.trans ((HB15.out.trans (HBr.out.mono HB15.out.size)).mono HB1.out.size)⟩
    · have hk' : (1048576 : Int) < (l'.length : Int) := by omega
      go_enter Try.func14, Try.ntmps14
      go_wp2
      go_ret
      exact ⟨rfl, Below.refl _ _⟩
  · have hl' : (1048576 : Int) < (l.length : Int) := by omega
    go_enter Try.func14, Try.ntmps14
    go_wp2
    go_ret
    exact ⟨rfl, Below.refl _ _⟩

end Go.Proofs.Ytmkcnoaphoiiaaa.lawFnPostTable
