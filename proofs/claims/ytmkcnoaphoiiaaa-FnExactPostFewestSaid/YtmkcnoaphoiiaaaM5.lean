/- The model's PostTable, PostArrive, PostReach. -/
import Derived.Test.YtmkcnoaphoiiaaaM4
namespace Go.Proofs.Ytmkcnoaphoiiaaa
open Go.RowKit

theorem TabAt.own {w : World} {g N cap : Nat} {T : List Int} (h : TabAt w g N T) (hc : N ≤ cap) : ∃ (ad : Option Addr) (cp : Nat), (Value.slice (some ⟨g, 0, none⟩) N cap) = .slice ad T.length cp ∧ T.length ≤ cp ∧ OwnI w ad T ∧ ∀ j, inBlk ad j → j = g :=
  ⟨some ⟨g, 0, none⟩, cap, by rw [h.ok.1], by rw [h.ok.1]; exact hc, fun _ => ⟨g, rfl, h.lt, h.at_, by rw [h.ok.1]; exact h.room⟩, fun j hj => by obtain ⟨o, ho⟩ := hj; cases ho; rfl⟩

set_option maxRecDepth 100000 in
set_option maxHeartbeats 1000000 in
theorem postTable1_any (n : Int) (v : Value) (net : List (List Rd)) (f t0 ch : Int) (w : World) (hv : NtIn w v net) (hm : totN net ≤ 1048577) (wn : W64 n) :
    Calls Try.prog 28 #[.int .i64 n, v, .int .i64 f, .int .i64 t0, .int .i64 ch] w (IntsOk (ptX n net f t0 ch) (okT7 n net f t0 ch) w) := by
  have HC := Lib.hid (l7Ok_any n v net f t0 ch w hv hm wn)
  have HV := Lib.hid hv
  have Hm := Lib.hid hm
  clear hv hm
  cases ho : okT7 n net f t0 ch with
  | false =>
    rw [ho] at HC
    have Ho := Lib.hid ho; clear ho
    go_enter Try.func28, Try.ntmps28
    go_wp2_with fail
    refine HC.out.mono ?_; rintro e w1 ⟨rfl, hb⟩
    have HB := Lib.hid hb
    clear HC hb
    go_wp2
    go_ret2
    rw [ptX_no Ho.out]
    exact IntsOk.no HB.out.size (by simp) (HB.out.alloc HB.out.size _)
  | true =>
    rw [ho] at HC
    have Ho := Lib.hid ho
    have n1 := (okNet_iff.1 (okT7_iff.1 ho).1).1.1
    obtain ⟨N, rfl⟩ : ∃ N : Nat, n = (N : Int) := ⟨n.toNat, by omega⟩
    have Hx := Lib.hid (ptX_yes ho)
    clear ho n1
    go_enter Try.func28, Try.ntmps28
    go_wp2_with fail
    refine HC.out.mono ?_; rintro e w1 ⟨rfl, hb⟩
    have HB := Lib.hid hb
    clear HC hb
    go_wp2_with fail
    refine (l7Table_any N v net f t0 ch _ (HV.out.below HB.out) Hm.out Ho.out).mono ?_; rintro e w2 ⟨g, cap, rfl, hcp, hg, htab, hb2⟩
    have HT := Lib.hid (And.intro htab (And.intro hcp hg))
    have HB2 := Lib.hid (HB.out.trans (hb2.mono HB.out.size))
    clear htab hcp hg hb2
    go_wp2
    go_ret2
    rw [Hx.out]
    obtain ⟨ad, cp, e1, e2, e3, e4⟩ := HT.out.1.own HT.out.2.1
    exact ⟨ad, cp, by rw [← e1]; rfl, e2, e3, fun j hj => by rw [e4 j hj]; have := HT.out.2.2; have := HB.out.size; have := HT.out.1.lt; omega, HB2.out⟩

theorem IntsOk.at_ {xs : List Int} {ok : Bool} {w : World} {e : Ending} {w' : World} (h : IntsOk xs ok w e w') (h0 : 0 < xs.length) : ∃ g cap, e = .returned (.tuple #[.slice (some ⟨g, 0, none⟩) xs.length cap, .bool ok]) ∧ g < w'.heap.size ∧ IntAt w' g 0 xs ∧ Below w.heap.size w w' := by
  obtain ⟨ad, cp, rfl, hc, ho, _, hb⟩ := h
  obtain ⟨g, rfl, hlt, hat, _⟩ := ho (by rintro rfl; simp at h0)
  exact ⟨g, cp, rfl, hlt, hat, hb⟩

set_option maxRecDepth 100000 in
set_option maxHeartbeats 1000000 in
theorem postArrive1_any (n : Int) (v : Value) (net : List (List Rd)) (f to t0 ch : Int) (w : World) (hv : NtIn w v net) (hm : totN net ≤ 1048577) (wn : W64 n) :
    Calls Try.prog 34 #[.int .i64 n, v, .int .i64 f, .int .i64 to, .int .i64 t0, .int .i64 ch] w (Gives (.int .i64 (paX n net f to t0 ch)) w) := by
  have HC := Lib.hid (postTable1_any n v net f t0 ch w hv hm wn)
  clear hv hm
  cases ho : okT7 n net f t0 ch with
  | false =>
    rw [ho] at HC
    have Hp := Lib.hid (show paX n net f to t0 ch = -1 by unfold paX; rw [if_neg (by rw [ho]; simp)])
    clear ho
    go_enter Try.func34, Try.ntmps34
    go_wp2_with fail
    refine HC.out.mono ?_; rintro e w1 ⟨ad, cp, rfl, _, _, _, hb⟩
    clear HC
    go_wp2
    go_ret
    exact ⟨ret_int Hp.out.symm, hb⟩
  | true =>
    rw [ho, ptX_yes ho] at HC
    obtain ⟨o1, ⟨o2, o3⟩, ⟨o4, o5⟩, o6, o7⟩ := okT7_iff.1 ho
    have n1 := (okNet_iff.1 o1).1.1
    have n8 := (okNet_iff.1 o1).1.2.1
    obtain ⟨N, rfl⟩ : ∃ N : Nat, n = (N : Int) := ⟨n.toNat, by omega⟩
    have hlen := tabA_len (ch := ch) o1 ⟨o4, o5⟩ ⟨o6, o7⟩
    have Hp := Lib.hid (show paX (N : Int) net f to t0 ch = if isTown (N : Int) to = true then fT (tabA (N : Int) net ch f t0) to else -1 by unfold paX; rw [ho]; simp)
    generalize tabA (N : Int) net ch f t0 = T at *
    have hpos : 0 < T.length := by omega
    have hTN : T.length = N := by omega
    clear ho o1 o2 o3 o4 o5 o6 o7 hlen
    by_cases hto : 0 ≤ to ∧ to ≤ (N : Int) - 1
    · have hin : inB to 0 ((N : Int) - 1) = true := (inB_iff _ _ _).2 hto
      rw [if_pos (isTown_iff.2 ⟨hto.1, by omega⟩)] at Hp
      obtain ⟨t0', ht1⟩ := hto
      obtain ⟨K, rfl⟩ : ∃ K : Nat, to = (K : Int) := ⟨to.toNat, by omega⟩
      have hK : K < T.length := by omega
      go_enter Try.func34, Try.ntmps34
      go_wp2_with fail
      refine HC.out.mono ?_; intro e w1 hx
      obtain ⟨g, cap, rfl, hg, hat, hb⟩ := hx.at_ hpos
      have c0 : w1.cell? ⟨g, K, none⟩ = some (.int .i64 (fT T (K : Int))) := by
        have := hat K hK
        rw [Nat.zero_add] at this
        rw [this, fT_get hK]
      have hK' : (K : Int) < (T.length : Int) := by omega
      have HTN := Lib.hid hTN
      clear hx hat HC hTN
      go_wp2_with fail
      refine (l6In_any _ _ _ _).mono ?_; rintro e w' ⟨rfl, rfl⟩
      rw [hin]
      go_wp2
      go_ret
      exact ⟨ret_int Hp.out.symm, hb⟩
    · have hin : inB to 0 ((N : Int) - 1) = false := Bool.eq_false_iff.2 (fun h => hto ((inB_iff _ _ _).1 h))
      rw [if_neg (by intro h; have := isTown_iff.1 h; omega)] at Hp
      have HTN := Lib.hid hTN
      clear hto hTN
      go_enter Try.func34, Try.ntmps34
      go_wp2_with fail
      refine HC.out.mono ?_; intro e w1 hx
      obtain ⟨g, cap, rfl, hg, hat, hb⟩ := hx.at_ hpos
      clear hx hat HC
      go_wp2_with fail
      refine (l6In_any _ _ _ _).mono ?_; rintro e w' ⟨rfl, rfl⟩
      rw [hin]
      go_wp2
      go_ret
      exact ⟨ret_int Hp.out.symm, hb⟩

def R1Rel (ad : Option Addr) (T : List Int) (u : Int) (B1 : Nat) (w : World) (v iv : Value) (wr : World) : Prop := ∃ (k : Nat) (sv : Value), k ≤ T.length ∧ iv = .int .i64 k ∧ sv = v ∧ RowI wr w.heap.size sv (rchTo T u k) ∧ Below w.heap.size w wr ∧ OwnI wr ad T ∧ (∀ q, sv.ownBlock = some q → q = w.heap.size ∨ B1 ≤ q) ∧ B1 ≤ wr.heap.size

set_option maxRecDepth 100000 in
set_option maxHeartbeats 2000000 in
theorem postReach1_any (n : Int) (v : Value) (net : List (List Rd)) (f t0 ch u : Int) (w : World) (hv : NtIn w v net) (hm : totN net ≤ 1048577) (wn : W64 n) :
    Calls Try.prog 36 #[.int .i64 n, v, .int .i64 f, .int .i64 t0, .int .i64 ch, .int .i64 u] w (IntsOne (rchX n net f t0 ch u) w) := by
  have hb0 : Below w.heap.size w (w.alloc (.cells #[] 3)) := (Below.refl _ _).alloc (Nat.le_refl _) _
  have HC := Lib.hid (postTable1_any n v net f t0 ch _ (hv.below hb0) hm wn)
  have HR := Lib.hid (RowI.made w w.heap.size (Nat.le_refl _))
  have HB0 := Lib.hid hb0
  obtain ⟨i0, hi, hz0, hz1, hz2⟩ := info_parts Try.info3
  clear hv hm hb0
  obtain ⟨T, ok, hT, hrx, hT8⟩ : ∃ T ok, ptX n net f t0 ch = T ∧ rchX n net f t0 ch u = rchTo T u T.length ∧ T.length ≤ 8 := by
    cases ho : okT7 n net f t0 ch with
    | false => exact ⟨[], false, ptX_no ho, by unfold rchX; rw [ho]; rfl, by simp⟩
    | true =>
      obtain ⟨o1, ⟨o2, o3⟩, o4, o6⟩ := okT7_iff.1 ho
      have hl := tabA_len (ch := ch) o1 o4 o6
      have n8 := (okNet_iff.1 o1).1.2.1
      exact ⟨_, true, ptX_yes ho, by unfold rchX; rw [ho, if_pos rfl]; congr 1; omega, by omega⟩
  rw [hT] at HC
  have Hrx := Lib.hid hrx
  clear hT hrx
  go_enter Try.func36, Try.ntmps36
  go_wp2_with fail
  have Hw0 := Lib.hid (show (w.alloc (.cells #[] 3)).heap.size = w.heap.size + 1 by simp)
  generalize w.alloc (.cells #[] 3) = w0 at *
  refine HC.out.mono ?_; rintro e w1 ⟨ad, cap, rfl, hcap, hown, hblk, hb⟩
  have Hblk := Lib.hid (show ∀ j, inBlk ad j → w.heap.size < j ∧ j < w1.heap.size from fun j hj => by have := hblk j hj; have := Hw0.out; omega)
  clear hblk
  have HR1 := Lib.hid (HR.out.below hb)
  have HB1 := Lib.hid (HB0.out.trans (hb.mono HB0.out.size))
  have Hown := Lib.hid hown
  clear HC hb hown hcap
  go_wp2
  go_loopw [13, 16] (fun v iv wr => R1Rel ad T u w1.heap.size w v iv wr) (fun _ iv _ => T.length - (intOf iv).toNat)
  case atStart => exact ⟨0, _, Nat.zero_le _, rfl, rfl, HR1.out, HB1.out, Hown.out, fun q hq => .inl (Option.some.inj hq).symm, Nat.le_refl _⟩
  case round =>
    obtain ⟨k, sv, hk, rfl, rfl, hrow, hbel, hown, hq, hB1⟩ := hrel
    have HQ := Lib.hid hq
    have HB1' := Lib.hid hB1
    have HO := Lib.hid hown
    have HRr := Lib.hid hrow
    have HBr := Lib.hid hbel
    have hsz := hbel.size
    by_cases hlt : k < T.length
    · obtain ⟨g, rfl, hg, hat, _⟩ := hown (by rintro rfl; simp at hlt)
      have c0 : wr.cell? ⟨g, k, none⟩ = some (.int .i64 (fT T (k : Int))) := by
        have := hat k hlt
        rw [Nat.zero_add] at this
        rw [this, fT_get hlt]
      have Htk := Lib.hid (rchTo_succ T u k)
      have Hl := Lib.hid (rchTo_len T u k)
      have hlt' : (k : Int) < (T.length : Int) := by omega
      clear hat hbel
      by_cases h0 : 0 ≤ fT T (k : Int)
      · have hd0 : decide (0 ≤ fT T (k : Int)) = true := decide_eq_true h0
        by_cases hu : fT T (k : Int) ≤ u
        · have Hyes := Lib.hid (show rchB T u k = true by unfold rchB; simp [h0, hu])
          rw [Hyes.out, if_pos rfl] at Htk
          have hrow' := hrow
          unfold RowI at hrow'
          have hd : decide (fT T (k : Int) ≤ u) = true := decide_eq_true hu
          generalize fT T (k : Int) = x at *
          obtain ⟨en, hen⟩ : ∃ en, en = (rchTo T u k).map (Value.int .i64) := ⟨_, rfl⟩
          rw [← hen] at hrow'
          have Hen := Lib.hid hen
          obtain ⟨m, hm⟩ : ∃ m, m = (rchTo T u k).length := ⟨_, rfl⟩
          rw [← hm] at hrow'
          have hm8 : m ≤ 8 := by have := Hl.out; omega
          have Hm := Lib.hid hm
          have hgne : ∀ q, sv.ownBlock = some q → w.heap.size ≤ q := fun q hq => (hrow'.lt q hq).1
          clear hen hm hrow
          go_wp2_with (at_builtin; refine wpList_append_lies _ rfl _ _ 38 rfl w.heap.size 3 i0 _ 1 8 Try.underlying38 hi hz0 hz1 hz2 rfl (by decide) _ m en rfl (World.ownsRow.alloc hrow' _) ⟨wr.heap.size, 0, none⟩ 1 1 [.int .i64 (k : Int)] rfl rfl (one_int wr (k : Int)) (by simp [Value.oneCell']) (by decide) (by simp only [maxLen]; omega) (by omega) (by simp; omega) _ rfl ?_; intro g2 cp2 w8 hown8 hgrow8 hlie8 _; have HO8 := Lib.hid hown8; have HG8 := Lib.hid hgrow8; have HL8 := Lib.hid hlie8; have HB8 := Lib.hid ((HBr.out.alloc HBr.out.size _).grown hgrow8 (by simp; omega) (fun j hj => (hrow'.lt j hj).1)); clear hown8 hgrow8 hlie8 hrow')
          have hg8 := HG8.out
          have hT : Touch (fun q => sv.ownBlock = some q) wr w8 := ⟨by rw [hg8.os]; rfl, by rw [hg8.tape]; rfl, by rw [hg8.output]; rfl, by have := hg8.size; simp at this; omega, fun j hj hS => (hg8.block j (by simp; omega) (fun e => hS e.symm)).trans (((Below.refl wr.heap.size wr).alloc (Nat.le_refl _) _).block j hj)⟩
          refine ⟨⟨k + 1, .slice (some ⟨g2, 0, none⟩) (m + 1) cp2, hlt, by go_num, rfl, ?_, HB8.out, ?_, fun q hq => ?_, ?_⟩, by simp [intOf]; omega⟩
          · rw [Htk.out]
            refine RowI.snoc ?_
            rw [← Hen.out, ← Hm.out]
            exact HO8.out
          · exact HO.out.touch hT (fun j hj hS => by have := Hblk.out j hj; rcases HQ.out j hS with h | h <;> omega)
          · have hq2 : some g2 = some q := hq
            injection hq2 with hq2
            rcases HL8.out with h | h
            · exact HQ.out q (by rw [← hq2]; exact h)
            · right; have := HB1'.out; simp at h; omega
          · have := hT.size; have := HB1'.out; omega
        · have Hno := Lib.hid (show rchB T u k = false by unfold rchB; simp [hu])
          rw [Hno.out, if_neg (by simp), List.append_nil] at Htk
          have hd : decide (fT T (k : Int) ≤ u) = false := decide_eq_false hu
          clear hrow
          go_wp2
          exact ⟨⟨k + 1, sv, hlt, by go_num, rfl, by rw [Htk.out]; exact HRr.out, HBr.out, HO.out, HQ.out, HB1'.out⟩, by simp [intOf]; omega⟩
      · have Hno := Lib.hid (show rchB T u k = false by unfold rchB; simp [h0])
        rw [Hno.out, if_neg (by simp), List.append_nil] at Htk
        have hd0 : decide (0 ≤ fT T (k : Int)) = false := decide_eq_false h0
        clear hrow
        go_wp2
        exact ⟨⟨k + 1, sv, hlt, by go_num, rfl, by rw [Htk.out]; exact HRr.out, HBr.out, HO.out, HQ.out, HB1'.out⟩, by simp [intOf]; omega⟩
    · obtain rfl : k = T.length := by omega
      clear hrow hbel
      go_wp2
      go_ret
      rw [Hrx.out]
      exact IntsOne.row HRr.out (Nat.le_refl _) HBr.out

end Go.Proofs.Ytmkcnoaphoiiaaa
