/- The program's PostTable, PostArrive, PostReach. -/
import Derived.Test.YtmkcnoaphoiiaaaJR
import Derived.Test.YtmkcnoaphoiiaaaIO
namespace Go.Proofs.Ytmkcnoaphoiiaaa
open Go.RowKit

theorem one_int (w : World) (x : Int) : ∀ j u, ([Value.int .i64 x])[j]? = some u → (w.alloc (.cells #[.int .i64 x] 3)).cell? ((⟨w.heap.size, 0, none⟩ : Addr).add j) = some u := news1 w #[.int .i64 x] 3
theorem take_int {T : List Int} {k : Nat} (h : k < T.length) : T.take (k + 1) = T.take k ++ [fT T (k : Int)] := by
  rw [List.take_succ_eq_append_getElem h, fT_at]; simp [List.getD, h]

def PtRel (T : List Int) (w1 : World) (v iv : Value) (wr : World) : Prop := ∃ (k : Nat) (sv : Value), k ≤ T.length ∧ iv = .int .i64 k ∧ sv = v ∧ RowI wr w1.heap.size sv (T.take k) ∧ Below w1.heap.size w1 wr

set_option maxRecDepth 100000 in
set_option maxHeartbeats 2000000 in
theorem postTable2_any (n : Int) (v : Value) (net : List (List Rd)) (f t0 ch : Int) (w : World) (hv : NtIn w v net) (hm : totN net ≤ 1048577) :
    Calls Try.prog 29 #[.int .i64 n, v, .int .i64 f, .int .i64 t0, .int .i64 ch] w (IntsOk (ptX n net f t0 ch) (okT7 n net f t0 ch) w) := by
  have HC := Lib.hid (ptOf_any n v net f t0 ch w hv hm)
  obtain ⟨i0, hi, hz0, hz1, hz2⟩ := info_parts Try.info3
  clear hv hm
  cases ho : okT7 n net f t0 ch with
  | false =>
    have Ho := Lib.hid ho; clear ho
    go_enter Try.func29, Try.ntmps29
    go_wp2_with fail
    refine HC.out.mono ?_; rintro e w1 ⟨_, h1⟩
    obtain ⟨rfl, hb⟩ := h1 Ho.out
    have HB := Lib.hid hb
    clear h1 HC hb
    go_wp2
    go_ret2
    rw [ptX_no Ho.out]
    exact IntsOk.no HB.out.size (by simp) (HB.out.alloc HB.out.size _)
  | true =>
    have Ho := Lib.hid ho
    have Hat := Lib.hid (fun (u : Int) => pt_at ho (u := u))
    have Hx := Lib.hid (ptX_yes ho)
    obtain ⟨o1, ⟨o2, o3⟩, ⟨o4, o5⟩, o6, o7⟩ := okT7_iff.1 ho
    have n8 := (okNet_iff.1 o1).1.2.1
    obtain ⟨N, rfl⟩ : ∃ N : Nat, n = (N : Int) := ⟨n.toNat, by omega⟩
    have hlen : (tabA (N : Int) net ch f t0).length = N := by have := tabA_len (ch := ch) o1 ⟨o4, o5⟩ ⟨o6, o7⟩; omega
    have hN : N ≤ 8 := by omega
    clear ho o1 o2 o3 o4 o5 o6 o7 n8
    generalize tabA (N : Int) net ch f t0 = T at *
    have Hlen := Lib.hid hlen
    clear hlen
    go_enter Try.func29, Try.ntmps29
    go_wp2_with fail
    refine HC.out.mono ?_; rintro e w1 ⟨h1, _⟩
    obtain ⟨tb, eb, pb, _, _, _, _, _, _, rfl, hT, _, hb⟩ := h1 Ho.out
    rw [show (N : Int).toNat = N from rfl] at hT
    have HT := Lib.hid hT
    have HB := Lib.hid hb
    have HR := Lib.hid (RowI.made w1 w1.heap.size (Nat.le_refl _))
    have HB1 := Lib.hid ((Below.refl w1.heap.size w1).alloc (Nat.le_refl _) (.cells #[] 3))
    clear h1 HC hT hb
    go_wp2
    go_loopw [14, 30] (fun v iv wr => PtRel T w1 v iv wr) (fun _ iv _ => N - (intOf iv).toNat)
    case atStart => exact ⟨0, _, Nat.zero_le _, rfl, rfl, HR.out, HB1.out⟩
    case round =>
      obtain ⟨k, sv, hk, rfl, rfl, hrow, hbel⟩ := hrel
      rw [Hlen.out] at hk
      have HRr := Lib.hid hrow
      have HBr := Lib.hid hbel
      have hsz := hbel.size
      by_cases hlt : k < N
      · have hPT := HT.out.below hbel
        have Htk := Lib.hid (take_int (T := T) (k := k) (by rw [Hlen.out]; exact hlt))
        have Hv := Lib.hid (show tmO (tab1 net ch f t0 0 (k : Int)) = fT T (k : Int) from Hat.out (k : Int) (by omega) (by omega))
        have hlt' : (k : Int) < (N : Int) := by omega
        have hrow' : wr.ownsRow w1.heap.size 3 1 sv k ((T.take k).map (Value.int .i64)) := by
          have e : (T.take k).length = k := by rw [List.length_take, Hlen.out]; omega
          unfold RowI at hrow; rwa [e] at hrow
        have Hl := Lib.hid (show (T.take k).length = k by rw [List.length_take, Hlen.out]; omega)
        clear hrow hbel
        go_wp2_with fail
        refine (time_any tb eb pb N _ (k : Int) _ hPT (And.intro (Int.natCast_nonneg k) hlt')).mono ?_; rintro e w' ⟨rfl, rfl⟩
        rw [Hv.out]
        clear hPT
        obtain ⟨en, hen⟩ : ∃ en, en = (T.take k).map (Value.int .i64) := ⟨_, rfl⟩
        rw [← hen] at hrow'
        obtain ⟨x, hx⟩ : ∃ x, x = fT T (k : Int) := ⟨_, rfl⟩
        rw [← hx]
        have Hex := Lib.hid (And.intro hen hx)
        clear hen hx
        go_wp2_with (at_builtin; refine wpList_append_own _ rfl _ _ 38 rfl w1.heap.size 3 i0 _ 1 8 Try.underlying38 hi hz0 hz1 hz2 rfl (by decide) _ k en rfl (World.ownsRow.alloc hrow' _) ⟨w'.heap.size, 0, none⟩ 1 1 [.int .i64 x] rfl rfl (one_int w' x) (by simp [Value.oneCell']) (by simp only [maxLen]; omega) (by omega) (by simp; omega) ?_; intro v' w8 hown8 hgrow8 _; have HO8 := Lib.hid hown8; have HB8 := Lib.hid ((HBr.out.alloc HBr.out.size _).grown hgrow8 (by simp; omega) (fun j hj => (hrow'.lt j hj).1)); clear hown8 hgrow8 hrow')
        refine ⟨⟨k + 1, v', by rw [Hlen.out]; exact hlt, by go_num, rfl, ?_, HB8.out⟩, by simp [intOf]; omega⟩
        rw [Htk.out, ← Hex.out.2]
        refine RowI.snoc ?_
        rw [← Hex.out.1, Hl.out]
        exact HO8.out
      · obtain rfl : k = N := by omega
        clear hrow hbel
        go_wp2
        go_ret2
        rw [Hx.out]
        have hr := HRr.out
        rw [← Hlen.out, List.take_length] at hr
        exact IntsOk.row true hr HB.out.size (HB.out.trans (HBr.out.mono HB.out.size))

set_option maxRecDepth 100000 in
set_option maxHeartbeats 2000000 in
theorem postArrive2_any (n : Int) (v : Value) (net : List (List Rd)) (f to t0 ch : Int) (w : World) (hv : NtIn w v net) (hm : totN net ≤ 1048577) :
    Calls Try.prog 35 #[.int .i64 n, v, .int .i64 f, .int .i64 to, .int .i64 t0, .int .i64 ch] w (Gives (.int .i64 (paX n net f to t0 ch)) w) := by
  have HC := Lib.hid (ptOf_any n v net f t0 ch w hv hm)
  clear hv hm
  cases ho : okT7 n net f t0 ch with
  | false =>
    have Ho := Lib.hid ho
    have Hp := Lib.hid (show paX n net f to t0 ch = -1 by unfold paX; rw [if_neg (by rw [ho]; simp)])
    clear ho
    go_enter Try.func35, Try.ntmps35
    go_wp2_with fail
    refine HC.out.mono ?_; rintro e w1 ⟨_, h1⟩
    obtain ⟨rfl, hb⟩ := h1 Ho.out
    have HB := Lib.hid hb
    clear h1 HC hb
    go_wp2
    go_ret
    exact ⟨ret_int Hp.out.symm, HB.out⟩
  | true =>
    have Ho := Lib.hid ho
    have Hat := Lib.hid (fun (u : Int) => pt_at ho (u := u))
    obtain ⟨o1, _⟩ := okT7_iff.1 ho
    have n1 := (okNet_iff.1 o1).1.1
    obtain ⟨N, rfl⟩ : ∃ N : Nat, n = (N : Int) := ⟨n.toNat, by omega⟩
    have Hp := Lib.hid (show paX (N : Int) net f to t0 ch = if isTown (N : Int) to = true then fT (tabA (N : Int) net ch f t0) to else -1 by unfold paX; rw [ho]; simp)
    clear ho o1 n1
    generalize tabA (N : Int) net ch f t0 = T at *
    go_enter Try.func35, Try.ntmps35
    go_wp2_with fail
    refine HC.out.mono ?_; rintro e w1 ⟨h1, _⟩
    obtain ⟨tb, eb, pb, _, _, _, _, _, _, rfl, hT, _, hb⟩ := h1 Ho.out
    rw [show (N : Int).toNat = N from rfl] at hT
    have HT := Lib.hid hT
    have HB := Lib.hid hb
    clear h1 HC hT hb
    go_wp2_with fail
    refine (hasTown_any _ to _).mono ?_; rintro e w' ⟨rfl, rfl⟩
    cases hq : isTown (N : Int) to with
    | false =>
      rw [hq] at Hp
      clear hq
      go_wp2
      go_ret
      exact ⟨ret_int Hp.out.symm, HB.out⟩
    | true =>
      rw [hq, if_pos rfl] at Hp
      have hq2 := isTown_iff.1 hq
      have Hv := Lib.hid (show tmO (tab1 net ch f t0 0 to) = fT T to from Hat.out to hq2.1 hq2.2)
      clear hq
      go_wp2_with fail
      refine (time_any tb eb pb N _ to _ HT.out hq2).mono ?_; rintro e w2 ⟨rfl, rfl⟩
      rw [Hv.out]
      clear hq2
      go_wp2
      go_ret
      exact ⟨ret_int Hp.out.symm, HB.out⟩

def RcRel (T : List Int) (u : Int) (N : Nat) (w1 : World) (v iv : Value) (wr : World) : Prop := ∃ (k : Nat) (sv : Value), k ≤ N ∧ iv = .int .i64 k ∧ sv = v ∧ RowI wr w1.heap.size sv (rchTo T u k) ∧ Below w1.heap.size w1 wr

theorem tmO_some {o : Option Ltr} : (o.isSome = true → ∃ y, o = some y ∧ tmO o = y.t) ∧ (o.isSome = false → tmO o = -1) := by
  cases o with
  | none => exact ⟨fun h => by simp at h, fun _ => rfl⟩
  | some y => exact ⟨fun _ => ⟨y, rfl, rfl⟩, fun h => by simp at h⟩

set_option maxRecDepth 100000 in
set_option maxHeartbeats 2000000 in
theorem postReach2_any (n : Int) (v : Value) (net : List (List Rd)) (f t0 ch u : Int) (w : World) (hv : NtIn w v net) (hm : totN net ≤ 1048577) :
    Calls Try.prog 37 #[.int .i64 n, v, .int .i64 f, .int .i64 t0, .int .i64 ch, .int .i64 u] w (IntsOne (rchX n net f t0 ch u) w) := by
  have HC := Lib.hid (ptOf_any n v net f t0 ch w hv hm)
  obtain ⟨i0, hi, hz0, hz1, hz2⟩ := info_parts Try.info3
  clear hv hm
  cases ho : okT7 n net f t0 ch with
  | false =>
    have Ho := Lib.hid ho
    have Hp := Lib.hid (show rchX n net f t0 ch u = [] by unfold rchX; rw [ho]; rfl)
    clear ho
    go_enter Try.func37, Try.ntmps37
    go_wp2_with fail
    refine HC.out.mono ?_; rintro e w1 ⟨_, h1⟩
    obtain ⟨rfl, hb⟩ := h1 Ho.out
    have HB := Lib.hid hb
    clear h1 HC hb
    go_wp2
    go_ret
    rw [Hp.out]
    exact IntsOne.row (RowI.made w1 w.heap.size HB.out.size) (Nat.le_refl _) (HB.out.alloc HB.out.size _)
  | true =>
    have Ho := Lib.hid ho
    have Hat := Lib.hid (fun (u : Int) => pt_at ho (u := u))
    obtain ⟨o1, ⟨o2, o3⟩, ⟨o4, o5⟩, o6, o7⟩ := okT7_iff.1 ho
    have n8 := (okNet_iff.1 o1).1.2.1
    obtain ⟨N, rfl⟩ : ∃ N : Nat, n = (N : Int) := ⟨n.toNat, by omega⟩
    have Hp := Lib.hid (show rchX (N : Int) net f t0 ch u = rchTo (tabA (N : Int) net ch f t0) u N by unfold rchX; rw [ho]; rfl)
    have hN : N ≤ 8 := by omega
    have Hge := Lib.hid (fun (k : Nat) (hk : k < N) (y : Ltr) (e : tab1 net ch f t0 0 (k : Int) = some y) => (show 0 ≤ y.t by
      obtain ⟨⟨_, _, h2⟩, _⟩ := tab1_lok o1 o2 e
      have := h2.ge o1 o2; omega))
    clear ho o1 o2 o3 o4 o5 o6 o7 n8
    generalize tabA (N : Int) net ch f t0 = T at *
    go_enter Try.func37, Try.ntmps37
    go_wp2_with fail
    refine HC.out.mono ?_; rintro e w1 ⟨h1, _⟩
    obtain ⟨tb, eb, pb, _, _, _, _, _, _, rfl, hT, _, hb⟩ := h1 Ho.out
    rw [show (N : Int).toNat = N from rfl] at hT
    have HT := Lib.hid hT
    have HB := Lib.hid hb
    have HR := Lib.hid (RowI.made w1 w1.heap.size (Nat.le_refl _))
    have HB1 := Lib.hid ((Below.refl w1.heap.size w1).alloc (Nat.le_refl _) (.cells #[] 3))
    clear h1 HC hT hb
    go_wp2
    go_loopw [15, 31] (fun v iv wr => RcRel T u N w1 v iv wr) (fun _ iv _ => N - (intOf iv).toNat)
    case atStart => exact ⟨0, _, Nat.zero_le _, rfl, rfl, HR.out, HB1.out⟩
    case round =>
      obtain ⟨k, sv, hk, rfl, rfl, hrow, hbel⟩ := hrel
      have HRr := Lib.hid hrow
      have HBr := Lib.hid hbel
      have hsz := hbel.size
      by_cases hlt : k < N
      · have HPT := Lib.hid (HT.out.below hbel)
        have Htk := Lib.hid (rchTo_succ T u k)
        have hv9 : tmO (tab1 net ch f t0 0 (k : Int)) = fT T (k : Int) := Hat.out (k : Int) (by omega) (by omega)
        have hlt' : (k : Int) < (N : Int) := by omega
        have Hl := Lib.hid (rchTo_len T u k)
        have Hin := Lib.hid (And.intro (Int.natCast_nonneg k) hlt')
        have hge := Hge.out k hlt
        clear hrow hbel
        go_wp2_with fail
        refine (has_any tb eb pb N _ (k : Int) _ HPT.out Hin.out).mono ?_; rintro e w' ⟨rfl, rfl⟩
        cases hs : (tab1 net ch f t0 0 (k : Int)).isSome with
        | false =>
          have Hno := Lib.hid (show rchB T u k = false by
            unfold rchB; rw [← hv9, tmO_some.2 hs]; rfl)
          rw [Hno.out, if_neg (by simp), List.append_nil] at Htk
          clear hs hv9 hge
          go_wp2
          exact ⟨⟨k + 1, sv, hlt, by go_num, rfl, by rw [Htk.out]; exact HRr.out, HBr.out⟩, by simp [intOf]; omega⟩
        | true =>
          have hpos : 0 ≤ fT T (k : Int) := by
            obtain ⟨y, e1, e2⟩ := tmO_some.1 hs
            rw [← hv9, e2]; exact hge y e1
          clear hs hge
          go_wp2_with fail
          refine (time_any tb eb pb N _ (k : Int) _ HPT.out Hin.out).mono ?_; rintro e w2 ⟨rfl, rfl⟩
          rw [hv9]
          by_cases hu : fT T (k : Int) ≤ u
          · have Hyes := Lib.hid (show rchB T u k = true by unfold rchB; simp [hpos, hu])
            rw [Hyes.out, if_pos rfl] at Htk
            have hrow' := HRr.out
            unfold RowI at hrow'
            have hd : decide (fT T (k : Int) ≤ u) = true := decide_eq_true hu
            clear hu hv9 hpos
            generalize fT T (k : Int) = x at *
            obtain ⟨en, hen⟩ : ∃ en, en = (rchTo T u k).map (Value.int .i64) := ⟨_, rfl⟩
            rw [← hen] at hrow'
            have Hen := Lib.hid hen
            obtain ⟨m, hm⟩ : ∃ m, m = (rchTo T u k).length := ⟨_, rfl⟩
            rw [← hm] at hrow'
            have hm8 : m ≤ 8 := by have := Hl.out; omega
            have Hm := Lib.hid hm
            clear hen hm
            go_wp2_with (at_builtin; refine wpList_append_own _ rfl _ _ 38 rfl w1.heap.size 3 i0 _ 1 8 Try.underlying38 hi hz0 hz1 hz2 rfl (by decide) _ m en rfl (World.ownsRow.alloc hrow' _) ⟨w2.heap.size, 0, none⟩ 1 1 [.int .i64 (k : Int)] rfl rfl (one_int w2 (k : Int)) (by simp [Value.oneCell']) (by simp only [maxLen]; omega) (by omega) (by simp; omega) ?_; intro v' w8 hown8 hgrow8 _; have HO8 := Lib.hid hown8; have HB8 := Lib.hid ((HBr.out.alloc HBr.out.size _).grown hgrow8 (by simp; omega) (fun j hj => (hrow'.lt j hj).1)); clear hown8 hgrow8 hrow')
            refine ⟨⟨k + 1, v', hlt, by go_num, rfl, ?_, HB8.out⟩, by simp [intOf]; omega⟩
            rw [Htk.out]
            refine RowI.snoc ?_
            rw [← Hen.out, ← Hm.out]
            exact HO8.out
          · have Hno := Lib.hid (show rchB T u k = false by unfold rchB; simp [hu])
            rw [Hno.out, if_neg (by simp), List.append_nil] at Htk
            have hd : decide (fT T (k : Int) ≤ u) = false := decide_eq_false hu
            clear hv9
            go_wp2
            exact ⟨⟨k + 1, sv, hlt, by go_num, rfl, by rw [Htk.out]; exact HRr.out, HBr.out⟩, by simp [intOf]; omega⟩
      · obtain rfl : k = N := by omega
        clear hrow hbel
        go_wp2
        go_ret
        rw [Hp.out]
        exact IntsOne.row HRr.out HB.out.size (HB.out.trans (HBr.out.mono HB.out.size))

end Go.Proofs.Ytmkcnoaphoiiaaa
