/- Payments; TollMust, TollValid, TollSum of the program. -/
import Derived.Test.YthhllpnbmelidaaGU
namespace Go.Proofs.Ythhllpnbmelidaa
open Go.RowKit
set_option linter.unusedVariables false
set_option linter.unusedSimpArgs false


set_option maxRecDepth 100000 in
set_option maxHeartbeats 1000000 in
theorem payM_any (wb : Nat) (v vp : Value) (l : List Gt) (ps : List Int) (free : Int) (P : Int → Bool → Bool) (w : World) (hW : WayAt w wb v vp l ps free) (hz : validG l = true) (hfree : 0 ≤ free ∧ free ≤ 999)
    (hps : ∀ k ∈ ps, 0 ≤ k ∧ k < l.length) (hlen : ps.length ≤ 10)
    (hP : ∀ (k : Nat) (fr : Bool) w', k < l.length → Below w.heap.size w w' → Calls Try.prog 87 #[.int .i64 k, .bool fr] w' (Gives (.bool (P k fr)) w')) :
    Calls Try.prog 83 #[.pointer (some ⟨wb, 0, none⟩), .func (.func 87) #[] #[]] w fun e w' =>
      (∀ xs, simT l free P ps noTic [] = some xs → IntsOk xs true w e w') ∧ (simT l free P ps noTic [] = none → IntsOk [] false w e w') := by
  generalize htot : simT l free P ps noTic [] = tot
  have hb0 : Below w.heap.size w (w.alloc (.cells #[] 3)) := (Below.refl _ _).alloc (Nat.le_refl _) _
  have hb1 : Below w.heap.size w ((w.alloc (.cells #[] 3)).alloc (.cells #[.pointer (some ⟨wb, 0, none⟩), .func (.func 87) #[] #[], .slice (some ⟨w.heap.size, 0, none⟩) 0 0] 101)) := hb0.alloc (by simp) _
  have hC := Whole.made (w.alloc (.cells #[] 3)) 101 #[.pointer (some ⟨wb, 0, none⟩), .func (.func 87) #[] #[], .slice (some ⟨w.heap.size, 0, none⟩) 0 0]
  rw [World.size_alloc] at hC
  have hR : RowI ((w.alloc (.cells #[] 3)).alloc (.cells #[.pointer (some ⟨wb, 0, none⟩), .func (.func 87) #[] #[], .slice (some ⟨w.heap.size, 0, none⟩) 0 0] 101)) w.heap.size (.slice (some ⟨w.heap.size, 0, none⟩) 0 0) [] :=
    (RowI.made w w.heap.size (Nat.le_refl _)).below ((Below.refl _ _).alloc (Nat.le_refl _) _)
  have hpass := passesM_any w wb (w.heap.size + 1) w.heap.size 0 v vp l ps free P _ hW hb1 hz hfree hps hlen hC hR (by omega) (Nat.le_refl _) (by simp; omega) hP
  rw [htot] at hpass
  have HPa := Lib.hid hpass
  clear hpass hC hR hb0 hb1 hW hP hps htot
  go_enter Try.func83, Try.ntmps83
  go_wp2_with fail
  refine HPa.out.mono ?_; rintro e w2 ⟨hb2, hyes, hno⟩
  cases tot with
  | none =>
    obtain rfl := hno rfl
    have HB2 := Lib.hid hb2
    clear hyes hno hb2 HPa
    go_wp2
    go_ret2
    first | exact IntsOk.no HB2.out.size (by simp) (HB2.out.alloc HB2.out.size _) | exact ⟨fun xs h => absurd h (by simp), fun _ => IntsOk.no HB2.out.size (by simp) (HB2.out.alloc HB2.out.size _)⟩
  | some xs =>
    obtain ⟨rfl, g, cp, hC2, hR2⟩ := hyes xs rfl
    have HB2 := Lib.hid hb2
    have HR2 := Lib.hid hR2
    have c2 := hC2.cell (i := 2) rfl
    clear hyes hno hb2 HPa hC2 hR2
    generalize hn : xs.length = n at *
    have Hn := Lib.hid hn; clear hn
    go_wp2
    go_ret2
    refine ⟨fun ys h => ?_, fun h => absurd h (by simp)⟩
    injection h with h
    subst h
    exact IntsOk.row true HR2.out (Nat.le_refl _) HB2.out


set_option maxRecDepth 100000 in
set_option maxHeartbeats 1000000 in
theorem payV_any (wb : Nat) (pb : Nat) (v vp : Value) (l : List Gt) (ps : List Int) (free : Int) (P : Int → Bool → Bool) (w : World) (hW : WayAt w wb v vp l ps free) (hz : validG l = true) (hfree : 0 ≤ free ∧ free ≤ 999)
    (hps : ∀ k ∈ ps, 0 ≤ k ∧ k < l.length) (hlen : ps.length ≤ 10)
    (hP : ∀ (k : Nat) (fr : Bool) w', k < l.length → Below w.heap.size w w' → Calls Try.prog 84 #[.int .i64 k, .bool fr, .pointer (some ⟨pb, 0, none⟩)] w' (Gives (.bool (P k fr)) w')) :
    Calls Try.prog 83 #[.pointer (some ⟨wb, 0, none⟩), .func (.func 84) #[] #[.pointer (some ⟨pb, 0, none⟩)]] w fun e w' =>
      (∀ xs, simT l free P ps noTic [] = some xs → IntsOk xs true w e w') ∧ (simT l free P ps noTic [] = none → IntsOk [] false w e w') := by
  generalize htot : simT l free P ps noTic [] = tot
  have hb0 : Below w.heap.size w (w.alloc (.cells #[] 3)) := (Below.refl _ _).alloc (Nat.le_refl _) _
  have hb1 : Below w.heap.size w ((w.alloc (.cells #[] 3)).alloc (.cells #[.pointer (some ⟨wb, 0, none⟩), .func (.func 84) #[] #[.pointer (some ⟨pb, 0, none⟩)], .slice (some ⟨w.heap.size, 0, none⟩) 0 0] 101)) := hb0.alloc (by simp) _
  have hC := Whole.made (w.alloc (.cells #[] 3)) 101 #[.pointer (some ⟨wb, 0, none⟩), .func (.func 84) #[] #[.pointer (some ⟨pb, 0, none⟩)], .slice (some ⟨w.heap.size, 0, none⟩) 0 0]
  rw [World.size_alloc] at hC
  have hR : RowI ((w.alloc (.cells #[] 3)).alloc (.cells #[.pointer (some ⟨wb, 0, none⟩), .func (.func 84) #[] #[.pointer (some ⟨pb, 0, none⟩)], .slice (some ⟨w.heap.size, 0, none⟩) 0 0] 101)) w.heap.size (.slice (some ⟨w.heap.size, 0, none⟩) 0 0) [] :=
    (RowI.made w w.heap.size (Nat.le_refl _)).below ((Below.refl _ _).alloc (Nat.le_refl _) _)
  have hpass := passesV_any w wb (w.heap.size + 1) w.heap.size 0 pb v vp l ps free P _ hW hb1 hz hfree hps hlen hC hR (by omega) (Nat.le_refl _) (by simp; omega) hP
  rw [htot] at hpass
  have HPa := Lib.hid hpass
  clear hpass hC hR hb0 hb1 hW hP hps htot
  go_enter Try.func83, Try.ntmps83
  go_wp2_with fail
  refine HPa.out.mono ?_; rintro e w2 ⟨hb2, hyes, hno⟩
  cases tot with
  | none =>
    obtain rfl := hno rfl
    have HB2 := Lib.hid hb2
    clear hyes hno hb2 HPa
    go_wp2
    go_ret2
    first | exact IntsOk.no HB2.out.size (by simp) (HB2.out.alloc HB2.out.size _) | exact ⟨fun xs h => absurd h (by simp), fun _ => IntsOk.no HB2.out.size (by simp) (HB2.out.alloc HB2.out.size _)⟩
  | some xs =>
    obtain ⟨rfl, g, cp, hC2, hR2⟩ := hyes xs rfl
    have HB2 := Lib.hid hb2
    have HR2 := Lib.hid hR2
    have c2 := hC2.cell (i := 2) rfl
    clear hyes hno hb2 HPa hC2 hR2
    generalize hn : xs.length = n at *
    have Hn := Lib.hid hn; clear hn
    go_wp2
    go_ret2
    refine ⟨fun ys h => ?_, fun h => absurd h (by simp)⟩
    injection h with h
    subst h
    exact IntsOk.row true HR2.out (Nat.le_refl _) HB2.out


set_option maxHeartbeats 400000 in
theorem mustC_any (k : Int) (fr : Bool) (w : World) : Calls Try.prog 87 #[.int .i64 k, .bool fr] w (Gives (.bool (!fr)) w) := by
  go_enter Try.func87, Try.ntmps87
  go_wp2
  go_ret
  exact ⟨rfl, Below.refl _ _⟩

set_option maxHeartbeats 400000 in
theorem validC_any (k : Int) (fr : Bool) (pb : Nat) (vp : Value) (paid : List Int) (w : World) (hp : IntsIn w vp paid) (hl : paid.length ≤ 1048576) (hc : w.cell? ⟨pb, 0, none⟩ = some vp) :
    Calls Try.prog 84 #[.int .i64 k, .bool fr, .pointer (some ⟨pb, 0, none⟩)] w (Gives (.bool (hasL paid k)) w) := by
  have HC := Lib.hid (contains8_any vp paid k w hp hl)
  obtain ⟨a, cap, rfl, _, _⟩ := hp
  go_enter Try.func84, Try.ntmps84
  go_wp2_with fail
  refine HC.out.mono ?_; rintro e w1 ⟨rfl, hb1⟩
  go_wp2
  go_ret
  exact ⟨rfl, hb1⟩

theorem IntsOk.later8 {xs : List Int} {ok : Bool} {w w1 w' : World} {e : Ending} (h : IntsOk xs ok w1 e w') (hb : Below w.heap.size w w1) : IntsOk xs ok w e w' := by
  obtain ⟨ad, cap, rfl, hc, ho, hin, hb2⟩ := h
  exact ⟨ad, cap, rfl, hc, ho, fun j hj => ⟨Nat.le_trans hb.size (hin j hj).1, (hin j hj).2⟩, hb.trans (hb2.mono hb.size)⟩

set_option maxHeartbeats 1000000 in
theorem tm2_any (v : Value) (l : List Gt) (free f t : Int) (w : World) (hv : GtIn w v l) (hl : l.length ≤ 1048576) :
    Calls Try.prog 47 #[v, .int .i64 free, .int .i64 f, .int .i64 t] w (IntsOk (mustX l free f t) (okT l free f t) w) := by
  have HW := Lib.hid (wayOf_any v l free f t w hv hl)
  cases ho : okT l free f t with
  | false =>
    rw [mustX_no ho]
    clear hv
    go_enter Try.func47, Try.ntmps47
    go_wp2_with fail
    refine HW.out.mono ?_; rintro e w1 ⟨hb1, hno, _⟩
    obtain rfl := hno ho
    clear hno HW ho
    go_wp2
    go_ret2
    exact IntsOk.no hb1.size (by simp) (hb1.alloc hb1.size _)
  | true =>
    rw [mustX_yes ho]
    have hz := okT_valid ho
    have hten := (validG_iff.1 hz).1
    have hpl := passL_len l f t
    have hp := passL_pas hz f t
    have hsim := sim_must (free := free) hp (FU.none hp)
    have Hpay := Lib.hid (fun (wb : Nat) (vp : Value) (w' : World) (hW : WayAt w' wb v vp l (passL l f t) free) => payM_any wb v vp l (passL l f t) free (fun _ fr => !fr) w' hW hz (okT_free ho) hp.i (by omega) (fun k fr w2 _ _ => mustC_any k fr w2))
    have Hsim := Lib.hid hsim
    clear hv hz hp hsim
    go_enter Try.func47, Try.ntmps47
    go_wp2_with fail
    refine HW.out.mono ?_; rintro e w1 ⟨hb1, _, hyes⟩
    obtain ⟨wb, vp, rfl, hW1⟩ := hyes ho
    have HB1 := Lib.hid hb1
    have HP1 := Lib.hid (Hpay.out wb vp w1 hW1)
    clear hyes HW ho hb1 Hpay hW1
    go_wp2_with fail
    refine HP1.out.mono ?_; rintro e w2 ⟨h2, _⟩
    obtain ⟨ad, cp, rfl, h3⟩ := (h2 _ Hsim.out).later8 HB1.out
    have H3 := Lib.hid h3
    clear h2 h3
    generalize hn : (mustT l free (passL l f t) []).length = n at *
    have Hn := Lib.hid hn; clear hn
    go_wp2
    go_ret2
    exact ⟨ad, cp, by rw [Hn.out]; rfl, by rw [Hn.out]; exact H3.out.1, H3.out.2⟩

set_option maxHeartbeats 1000000 in
theorem tv2_any (v : Value) (l : List Gt) (free f t : Int) (vp : Value) (paid : List Int) (w : World) (hv : GtIn w v l) (hp : IntsIn w vp paid) (hl : l.length ≤ 1048576) (hpl : paid.length ≤ 1048576) :
    Calls Try.prog 43 #[v, .int .i64 free, .int .i64 f, .int .i64 t, vp] w (Gives (.bool (validT l free f t paid)) w) := by
  have hbx : Below w.heap.size w (w.alloc (.cells #[vp] 39)) := (Below.refl _ _).alloc (Nat.le_refl _) _
  have hbc : (w.alloc (.cells #[vp] 39)).cell? ⟨w.heap.size, 0, none⟩ = some vp := (Whole.made w 39 #[vp]).cell rfl
  have HW := Lib.hid (wayOf_any v l free f t _ (hv.below hbx) hl)
  have HPd := Lib.hid (hp.below hbx)
  have HBx := Lib.hid hbx
  obtain ⟨a0, cp0, rfl, _, _⟩ := hp
  cases ho : okT l free f t with
  | false =>
    have Hr := Lib.hid (validT_nok (paid := paid) ho)
    have Ho := Lib.hid ho
    clear hv hbx ho
    go_enter Try.func43, Try.ntmps43
    go_wp2_with fail
    refine HW.out.mono ?_; rintro e w1 ⟨hb1, hno, _⟩
    obtain rfl := hno Ho.out
    have HB1 := Lib.hid (HBx.out.trans (hb1.mono HBx.out.size))
    clear hno HW hb1
    go_wp2
    go_ret
    exact ⟨ret_bool Hr.out.symm, HB1.out⟩
  | true =>
    have hz := okT_valid ho
    have hten := (validG_iff.1 hz).1
    have hpn := passL_len l f t
    have hps := passL_pas hz f t
    obtain ⟨hs1, hs2⟩ := sim_valid (paid := paid) ho
    have Hs1 := Lib.hid hs1; have Hs2 := Lib.hid hs2
    have Hrl := Lib.hid (fun r (h : simT l free (fun k _ => hasL paid k) (passL l f t) noTic [] = some r) => (show r.length ≤ 10 from by
      rw [sim_has hps (FU.none hps)] at h
      split at h
      · injection h with h; rw [← h, List.nil_append]; have := List.length_filter_le (hasL paid) (passL l f t); omega
      · cases h))
    have Hpay := Lib.hid (fun (wb : Nat) (vp : Value) (w' : World) (hW : WayAt w' wb v vp l (passL l f t) free) (hb : Below (w.alloc (.cells #[.slice a0 paid.length cp0] 39)).heap.size (w.alloc (.cells #[.slice a0 paid.length cp0] 39)) w') =>
      payV_any wb w.heap.size v vp l (passL l f t) free (fun k _ => hasL paid k) w' hW hz (okT_free ho) hps.i (by omega) (fun k fr w2 _ h2 => validC_any k fr w.heap.size _ paid w2 ((HPd.out.below hb).below h2) hpl (keepCell h2 (keepCell hb hbc))))
    have Ho := Lib.hid ho
    clear hv hz hps hs1 hs2 ho hbx
    have hll : (passL l f t).length ≤ 10 := by omega
    generalize validT l free f t paid = res at *
    generalize hss : simT l free (fun k _ => hasL paid k) (passL l f t) noTic [] = tot at *
    clear hss
    go_enter Try.func43, Try.ntmps43
    go_wp2_with fail
    generalize w.alloc (.cells #[.slice a0 paid.length cp0] 39) = w0 at *
    refine HW.out.mono ?_; rintro e w1 ⟨hb1, _, hyes⟩
    obtain ⟨wb, vp, rfl, hW1⟩ := hyes Ho.out
    have HP1 := Lib.hid (Hpay.out wb vp w1 hW1 hb1)
    have Hb1 := Lib.hid hb1
    clear hyes HW hb1 Hpay hW1
    go_wp2_with fail
    refine HP1.out.mono ?_; rintro e w2 ⟨h2, h3⟩
    cases tot with
    | none =>
      have Hr := Lib.hid (Hs2.out rfl)
      obtain ⟨ad, cp, rfl, hcp, hown, hin, hb2⟩ := h3 rfl
      have HB2 := Lib.hid (HBx.out.trans ((Hb1.out.trans (hb2.mono Hb1.out.size)).mono HBx.out.size))
      clear h2 h3 hcp hown hin hb2
      go_wp2
      go_ret
      exact ⟨ret_bool Hr.out.symm, HB2.out⟩
    | some r =>
      have Hr := Lib.hid (Hs1.out r rfl)
      obtain ⟨ad, cp, rfl, hcp, hown, hin, hb2⟩ := h2 r rfl
      have Hb2 := Lib.hid (Hb1.out.trans (hb2.mono Hb1.out.size))
      have hIr := hown.ints hcp
      have hbc2 := keepCell Hb2.out hbc
      have hrl : r.length ≤ 1048576 := by have := Hrl.out r rfl; omega
      have HE := Lib.hid (equal8_any _ _ r paid w2 hIr (HPd.out.below Hb2.out) hrl hpl)
      have HB2 := Lib.hid (HBx.out.trans (Hb2.out.mono HBx.out.size))
      clear h2 h3 hcp hown hin hb2 hIr hbc
      go_wp2_with fail
      refine HE.out.mono ?_; rintro e w3 ⟨rfl, hb3⟩
      have HB3 := Lib.hid (HB2.out.trans (hb3.mono HB2.out.size))
      clear hb3
      go_wp2
      go_ret
      exact ⟨ret_bool Hr.out.symm, HB3.out⟩


def Ts2Rel (l : List Gt) (paid : List Int) (w : World) (s i : Value) (wr : World) : Prop := ∃ k : Nat, k ≤ paid.length ∧ s = .int .i64 (sumTo l paid k) ∧ i = .int .i64 k ∧ Below w.heap.size w wr


set_option maxRecDepth 100000 in
set_option maxHeartbeats 1000000 in
theorem ts2_any (v : Value) (l : List Gt) (free f t : Int) (vp : Value) (paid : List Int) (w : World) (hv : GtIn w v l) (hp : IntsIn w vp paid) (hl : l.length ≤ 1048576) (hpl : paid.length ≤ 1048576) :
    Calls Try.prog 45 #[v, .int .i64 free, .int .i64 f, .int .i64 t, vp] w (Gives (.int .i64 (sumX l free f t paid)) w) := by
  have HV := Lib.hid (tv2_any v l free f t vp paid w hv hp hl hpl)
  cases hz : validT l free f t paid with
  | false =>
    have Hr := Lib.hid (show sumX l free f t paid = -1 by unfold sumX; rw [hz]; rfl)
    rw [hz] at HV
    clear hv hp hz
    go_enter Try.func45, Try.ntmps45
    go_wp2_with fail
    refine HV.out.mono ?_; rintro e w1 ⟨rfl, hb1⟩
    go_wp2
    go_ret
    rw [Hr.out]
    exact ⟨rfl, hb1⟩
  | true =>
    have Hr := Lib.hid (show sumX l free f t paid = sumTo l paid paid.length by unfold sumX; rw [hz]; rfl)
    have h10 := validT_len hz
    have hvg := okT_valid (validT_ok hz)
    have hin : ∀ k ∈ paid, 0 ≤ k ∧ k < l.length := fun k hk => ⟨(validT_in hz hk).1, (validT_in hz hk).2.1⟩
    have Hbd := Lib.hid (fun (n : Nat) (h : n ≤ paid.length) => sumTo_bd (l := l) (paid := paid) hvg hin h)
    have Hin := Lib.hid hin
    have Hvg := Lib.hid hvg
    rw [hz] at HV
    obtain ⟨a, cap, rfl, _, ha⟩ := hv
    obtain ⟨g1, cp1, rfl, _, hp1⟩ := hp
    have Ha := Lib.hid ha
    have Hp := Lib.hid hp1
    clear ha hp1 hz hvg hin
    go_enter Try.func45, Try.ntmps45
    go_wp2_with fail
    refine HV.out.mono ?_; rintro e w1 ⟨rfl, hb1⟩
    have HB1 := Lib.hid hb1
    clear hb1
    go_wp2
    go_loopw [11, 23] (fun s i wr => Ts2Rel l paid w s i wr) (fun _ i _ => paid.length - (intOf i).toNat)
    case atStart => exact ⟨0, Nat.zero_le _, rfl, rfl, HB1.out⟩
    case round =>
      obtain ⟨k, hk, rfl, rfl, hbel⟩ := hrel
      obtain ⟨s0, s1⟩ := Hbd.out k hk
      by_cases hlt : k < paid.length
      · obtain ⟨pb, po, rfl, hpb, hprw⟩ := Hp.out (by intro h; simp [h] at hlt)
        have d0 := (hprw.below hbel hpb) k hlt
        have hsucc : sumTo l paid (k + 1) = sumTo l paid k + (gAt l (paid.getD k 0)).m := rfl
        obtain ⟨x0, x1⟩ := Hin.out _ (mem_getD8.2 ⟨k, hlt, rfl⟩)
        have hk0 : (0 : Int) ≤ (k : Int) := Int.natCast_nonneg _
        have hk1 : (k : Int) < (paid.length : Int) := by omega
        have Hbel := Lib.hid hbel
        generalize sumTo l paid k = sm at *
        generalize paid.getD k 0 = px at *
        obtain ⟨x, rfl⟩ : ∃ x : Nat, px = x := ⟨px.toNat, by omega⟩
        have hx : x < l.length := by omega
        obtain ⟨b, o, rfl, hb0, hrw⟩ := Ha.out (by intro h; simp [h] at hx)
        obtain ⟨c0, c1, c2⟩ := (hrw.below hbel hb0) x hx
        have hgx : gAt l (x : Int) = l.getD x gt0 := by unfold gAt; rw [Int.toNat_natCast]
        rw [hgx] at hsucc
        have hzx := validG_at Hvg.out hx
        have Hs := Lib.hid hsucc
        clear hprw hrw hgx hsucc hbel c0 c1
        generalize (l.getD x gt0).m = xm at *
        have hw : IntKind.i64.wrap (sm + xm) = sm + xm := IntWalk.i64_in _ (by omega)
        go_wp2
        exact ⟨⟨k + 1, hlt, by rw [Hs.out], by go_num, Hbel.out⟩, by simp [intOf]; omega⟩
      · obtain rfl : k = paid.length := by omega
        have Hbel := Lib.hid hbel
        clear hbel
        go_wp2
        go_ret
        rw [Hr.out]
        exact ⟨rfl, Hbel.out⟩


end Go.Proofs.Ythhllpnbmelidaa
