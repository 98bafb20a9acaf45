/- The model's PostFewest. -/
import Derived.Test.YtmkcnoaphoiiaaaM7
namespace Go.Proofs.Ytmkcnoaphoiiaaa
open Go.RowKit
set_option linter.unusedVariables false
set_option linter.unusedSimpArgs false

def T5Rel (N K : Nat) (net : List (List Rd)) (ch f t0 : Int) (w : World) (tv rv : Value) (wr : World) : Prop := ∃ (r g cap : Nat) (sv : Value), r ≤ K ∧ rv = .int .i64 r ∧ sv = tv ∧ sv = .slice (some ⟨g, 0, none⟩) N cap ∧ TabAt wr g N (tabB (N : Int) net ch f t0 r) ∧ Below w.heap.size w wr

theorem paX_none {n : Int} {net : List (List Rd)} {f to t0 ch : Int} (h : ¬ (okT7 n net f t0 ch = true ∧ isTown n to = true)) : paX n net f to t0 ch = -1 := by unfold paX; rw [if_neg h]

set_option maxRecDepth 100000 in
set_option maxHeartbeats 4000000 in
theorem postFewest1_any (n : Int) (v : Value) (net : List (List Rd)) (f to t0 ch : Int) (w : World) (hv : NtIn w v net) (hm : totN net ≤ 1048577) (wn : W64 n) :
    Calls Try.prog 47 #[.int .i64 n, v, .int .i64 f, .int .i64 to, .int .i64 t0, .int .i64 ch] w (Gives (.int .i64 (fewX n net f to t0 ch)) w) := by
  have HC := Lib.hid (postArrive1_any n v net f to t0 ch w hv hm wn)
  have Hv := Lib.hid hv
  obtain ⟨i0, hi, hz0, hz1, hz2⟩ := info_parts Try.info3
  by_cases hneg : paX n net f to t0 ch < 0
  · have hx : fewX n net f to t0 ch = -1 := by
      by_cases ho : okT7 n net f t0 ch = true ∧ isTown n to = true
      · rcases pa_few ho.1 ho.2 with ⟨h, _⟩ | ⟨_, h⟩
        · omega
        · exact fewX_no ho.2 h ho.1
      · exact fewX_bad ho
    have Hx := Lib.hid hx
    generalize paX n net f to t0 ch = p at *
    clear hv hx
    go_enter Try.func47, Try.ntmps47
    go_wp2_with fail
    refine HC.out.mono ?_; rintro e w1 ⟨rfl, hb⟩
    clear HC
    go_wp2
    go_ret
    exact ⟨ret_int Hx.out.symm, hb⟩
  · have ho : okT7 n net f t0 ch = true ∧ isTown n to = true := by
      by_cases ho : okT7 n net f t0 ch = true ∧ isTown n to = true
      · exact ho
      · exact absurd (paX_none ho) (by omega)
    obtain ⟨K, hK⟩ : ∃ K, FewIs net ch f t0 to K := by
      rcases pa_few ho.1 ho.2 with ⟨_, h⟩ | ⟨h, _⟩
      · exact h
      · exact absurd h hneg
    have Hx := Lib.hid (fewX_yes ho.1 ho.2 hK)
    obtain ⟨o1, ⟨o2, o3⟩, o4, o6⟩ := okT7_iff.1 ho.1
    obtain ⟨hk1, hk2⟩ := tabB_few o1 o4 o6 (isTown_iff.1 ho.2) hK
    have HK1 := Lib.hid hk1
    have HK2 := Lib.hid hk2
    obtain ⟨t1, t2⟩ := isTown_iff.1 ho.2
    have n1 := (okNet_iff.1 o1).1.1
    have hn8 := (okNet_iff.1 o1).1.2.1
    have hlt := few_lt o1 o2 o4 hK
    obtain ⟨N, rfl⟩ : ∃ N : Nat, n = (N : Int) := ⟨n.toNat, by omega⟩
    have hN : N ≤ 8 := by omega
    have O1 := Lib.hid o1
    obtain ⟨F, rfl⟩ : ∃ F : Nat, f = (F : Int) := ⟨f.toNat, by omega⟩
    have hF : F < N := by omega
    obtain ⟨TO, rfl⟩ : ∃ TO : Nat, to = (TO : Int) := ⟨to.toNat, by omega⟩
    have hTO : TO < N := by omega
    have Ht := Lib.hid o6
    have Hm := Lib.hid hm
    generalize paX (N : Int) net (F : Int) (TO : Int) t0 ch = p at *
    clear hv hm ho hK o1 o4 o6 hk1 hk2 t1 t2
    go_enter Try.func47, Try.ntmps47
    go_wp2_with fail
    refine HC.out.mono ?_; rintro e w1 ⟨rfl, hb1⟩
    have hR0 := Lib.hid (RowI.made w1 w.heap.size hb1.size)
    have hB0 := Lib.hid (hb1.alloc hb1.size (.cells #[] 3))
    clear HC hb1
    go_wp2
    go_loopw [13, 14] (fun v iv wr => T1Rel N w v iv wr) (fun _ iv _ => N - (intOf iv).toNat)
    case atStart => exact ⟨0, _, Nat.zero_le _, rfl, rfl, hR0.out, hB0.out⟩
    case round =>
      obtain ⟨k, sv, hk, rfl, rfl, hrow, hbel⟩ := hrel
      have HB := Lib.hid hbel
      have HR := Lib.hid hrow
      by_cases hlt : k < N
      · have hrow' := hrow
        unfold RowI at hrow'
        rw [List.length_replicate] at hrow'
        obtain ⟨en, hen⟩ : ∃ en, en = (List.replicate k (-1 : Int)).map (Value.int .i64) := ⟨_, rfl⟩
        rw [← hen] at hrow'
        have Hen := Lib.hid hen
        have hsz := hbel.size
        have hlt' : (k : Int) < (N : Int) := by omega
        clear hen hrow hbel
        go_wp2_with (at_builtin; refine wpList_append_own _ rfl _ _ 38 rfl w.heap.size 3 i0 _ 1 8 Try.underlying38 hi hz0 hz1 hz2 rfl (by decide) _ k en rfl (World.ownsRow.alloc hrow' _) ⟨wr.heap.size, 0, none⟩ 1 1 [.int .i64 (-1)] rfl rfl (one_int wr (-1)) (by simp [Value.oneCell']) (by simp only [maxLen]; omega) (by omega) (by simp; omega) ?_; intro v' w8 hown8 hgrow8 _; have HO8 := Lib.hid hown8; have HB8 := Lib.hid ((HB.out.alloc HB.out.size _).grown hgrow8 (by simp; omega) (fun j hj => (hrow'.lt j hj).1)); clear hown8 hgrow8 hrow')
        refine ⟨⟨k + 1, v', hlt, by go_num, rfl, ?_, HB8.out⟩, by simp [intOf]; omega⟩
        rw [List.replicate_succ']
        refine RowI.snoc ?_
        rw [← Hen.out, List.length_replicate]
        exact HO8.out
      · obtain rfl : k = N := by omega
        obtain ⟨g, cp, rfl, hcp, hat, hroom, hg, hgl⟩ := hrow.open2 (by simp; omega)
        rw [List.length_replicate] at hcp hroom ⊢
        have hTab : TabAt wr g k (List.replicate k (-1)) := ⟨⟨by simp, fun i hi => by rw [fT_at]; simp [List.getD, hi]⟩, hgl, hat, hroom⟩
        have hTab2 := hTab.set hF (x := t0) (by have := Ht.out; omega) Ht.out.2
        have c0 := hTab.cell hF
        have f0 := hroom.2 F
        have HT2 := Lib.hid hTab2
        have HB2 := Lib.hid (hbel.setCell (p := ⟨g, F, none⟩) hg (.int .i64 t0))
        have hF' : (F : Int) < (k : Int) := by omega
        have hini : (List.replicate k (-1 : Int)).set F t0 = tabB (k : Int) net ch (F : Int) t0 0 := rfl
        rw [hini] at HT2
        clear hrow hbel hat hroom hTab hTab2 hini HR hlt hk hgl hg
        go_wp2
        generalize wr.setCell ⟨g, F, none⟩ (.int .i64 t0) = w2 at *
        clear c0 f0
        go_loopw [13, 15] (fun tv rv wr => T5Rel k K net ch (F : Int) t0 w tv rv wr) (fun _ rv _ => K + 1 - (intOf rv).toNat)
        case atStart => exact ⟨0, g, cp, _, Nat.zero_le _, rfl, rfl, rfl, HT2.out, HB2.out⟩
        case round =>
          clear HT2 HB2 hcp
          obtain ⟨r, g, cp, sv, hr, rfl, rfl, rfl, htab, hbel⟩ := hrel
          have HT := Lib.hid htab
          have HB3 := Lib.hid hbel
          have c1 := htab.cell hTO
          have hTO' : (TO : Int) < (k : Int) := by omega
          clear htab hbel
          by_cases hrK : r < K
          · have hneg := HK2.out r hrK
            have hsuc : tabB (k : Int) net ch (F : Int) t0 (r + 1) = rndB ch (F : Int) net (tabB (k : Int) net ch (F : Int) t0 r) := rfl
            have Hsuc := Lib.hid hsuc
            generalize tabB (k : Int) net ch (F : Int) t0 r = Tr at *
            clear hsuc
            generalize fT Tr (TO : Int) = y at *
            go_wp2_with fail
            refine (l7Round_any k v net (F : Int) ch g cp Tr _ (Hv.out.below HB3.out) Hm.out O1.out (by omega) (by omega) (by omega) (by omega) HT.out).mono ?_
            rintro e w4 ⟨g4, cap4, rfl, hcp4, hg4, htab4, hb4⟩
            have HT4 := Lib.hid htab4
            have HB4 := Lib.hid (HB3.out.trans (hb4.mono HB3.out.size))
            clear htab4 hb4 hcp4 hg4 c1
            go_wp2
            exact ⟨⟨r + 1, g4, cap4, _, hrK, by go_num, rfl, rfl, by rw [Hsuc.out]; exact HT4.out, HB4.out⟩, by simp [intOf]; omega⟩
          · obtain rfl : r = K := by omega
            have hpos := HK1.out
            generalize tabB (k : Int) net ch (F : Int) t0 r = Tr at *
            generalize fT Tr (TO : Int) = y at *
            have hy : ¬ y < 0 := by omega
            go_wp2
            go_ret
            exact ⟨ret_int Hx.out.symm, HB3.out⟩

end Go.Proofs.Ytmkcnoaphoiiaaa
