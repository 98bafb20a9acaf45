/- The model's l8Least and TollLeast. -/
import Derived.Test.YthhllpnbmelidaaGQ
import Derived.Test.YthhllpnbmelidaaAP
import Derived.Test.YthhllpnbmelidaaICL
import Derived.Deep.RegionHeld3
import Derived.BigRegion
namespace Go.Proofs.Ythhllpnbmelidaa
open Go.RowKit
set_option linter.unusedVariables false
set_option linter.unusedSimpArgs false

theorem leastP_cons (l : List Gt) (free : Int) (k : Int) (s paid : List Int) : leastP l free (k :: s) paid = if freedG l free paid k = true then min ((gAt l k).m + leastP l free s (paid ++ [k])) (leastP l free s paid) else (gAt l k).m + leastP l free s (paid ++ [k]) := rfl
theorem leastP_bd {l : List Gt} (hv : validG l = true) (free : Int) : ∀ (s paid : List Int), (∀ k ∈ s, 0 ≤ k ∧ k < l.length) → 0 ≤ leastP l free s paid ∧ leastP l free s paid ≤ 99 * s.length
  | [], _, _ => ⟨Int.le_refl _, Int.le_refl _⟩
  | k :: s, paid, h => by
    have h1 := leastP_bd hv free s (paid ++ [k]) (fun x hx => h x (List.mem_cons_of_mem _ hx))
    have h2 := leastP_bd hv free s paid (fun x hx => h x (List.mem_cons_of_mem _ hx))
    have h3 := gAt_ok hv (h k List.mem_cons_self)
    rw [leastP_cons, List.length_cons]
    split <;> omega

/-- A row of numbers that such a region has made. -/
theorem mkI {X w : World} {B n : Nat} {v : Value} {xs : List Int} {N : Option (Nat × List Value)} {zs : List Value} (h : Mk X B 3 1 w (some (v, n, zs)) N) (hz : zs = xs.map (Value.int .i64)) (hn : n = xs.length) (h0 : 0 < n) : ∃ g cp, v = .slice (some ⟨g, 0, none⟩) n cp ∧ IntsIn w v xs := by
  have ho := h.own _ _ _ rfl
  subst hz hn
  obtain ⟨ad, cap, rfl, hc, hown, _⟩ := RowI.row (l := xs) ho
  obtain ⟨b, rfl, _⟩ := hown (by intro e; rw [e] at h0; simp at h0)
  exact ⟨b, cap, rfl, hown.ints hc⟩

set_option maxRecDepth 100000 in
set_option maxHeartbeats 8000000 in
theorem least1_any (v : Value) (l : List Gt) (free : Int) (vs : Value) (ps : List Int) (hz : validG l = true) (hps : ∀ k ∈ ps, 0 ≤ k ∧ k < l.length) (hpl : ps.length ≤ 10) : ∀ (n i : Nat) (h : i + n = ps.length) (paid : List Int) (pad : Addr) (pcp : Nat) (w : World),
    GtIn w v l → IntsIn w vs ps → IntsIn w (.slice (some pad) paid.length pcp) paid → paid.length ≤ i → (∀ k ∈ paid, 0 ≤ k ∧ k < l.length) →
    Calls Try.prog 88 #[v, .int .i64 free, vs, .int .i64 i, .slice (some pad) paid.length pcp] w (Gives (.int .i64 (leastP l free (ps.drop i) paid)) w) := by
  intro n
  induction n with
  | zero =>
    intro i h paid pad pcp w hv hs hp hlen hin
    obtain rfl : i = ps.length := by omega
    have Hr := Lib.hid (show leastP l free (ps.drop ps.length) paid = 0 by rw [List.drop_length]; rfl)
    obtain ⟨a, cap, rfl, _, _⟩ := hs
    clear hp
    go_enter Try.func88, Try.ntmps88
    go_wp2
    go_ret
    rw [Hr.out]
    exact ⟨rfl, Below.refl _ _⟩
  | succ n ih =>
    intro i h paid pad pcp w hv hs hp hlen hin
    have hlt : i < ps.length := by omega
    have hten := (validG_iff.1 hz).1
    obtain ⟨x0, x1⟩ := hps _ (mem_getD8.2 ⟨i, hlt, rfl⟩)
    have HIH := Lib.hid (fun (paid' : List Int) (pad' : Addr) (pcp' : Nat) (w' : World) (hb : Below w.heap.size w w') (hp' : IntsIn w' (.slice (some pad') paid'.length pcp') paid') (hl : paid'.length ≤ i + 1) (hin' : ∀ k ∈ paid', 0 ≤ k ∧ k < l.length) =>
      ih (i + 1) (by omega) paid' pad' pcp' w' (hv.below hb) (hs.below hb) hp' hl hin')
    have hcons := leastP_cons l free (ps.getD i 0) (ps.drop (i + 1)) paid
    rw [← drop_cons8 hlt] at hcons
    obtain ⟨k, hk⟩ : ∃ k : Nat, ps.getD i 0 = k := ⟨(ps.getD i 0).toNat, by omega⟩
    have HFr := Lib.hid (fun (w' : World) (hb : Below w.heap.size w w') => freed1_any v l free _ paid k w' (hv.below hb) hz (hp.below hb) (by omega) (by omega) hin)
    have hbd1 := leastP_bd hz free (ps.drop (i + 1)) (paid ++ [(k : Int)]) (fun x hx => hps x (List.mem_of_mem_drop hx))
    have hbd2 := leastP_bd hz free (ps.drop (i + 1)) paid (fun x hx => hps x (List.mem_of_mem_drop hx))
    have hdl : (ps.drop (i + 1)).length ≤ 10 := by rw [List.length_drop]; omega
    have hkl : k < l.length := by omega
    have hzk := validG_at hz hkl
    have hgk : gAt l (k : Int) = l.getD k gt0 := by unfold gAt; rw [Int.toNat_natCast]
    rw [hk, hgk] at hcons
    have hin2 : ∀ x ∈ paid ++ [(k : Int)], 0 ≤ x ∧ x < l.length := fun x hx => by
      rw [List.mem_append, List.mem_singleton] at hx
      rcases hx with hx | rfl
      · exact hin x hx
      · omega
    have Hp := Lib.hid hp
    obtain ⟨a, cap, rfl, _, ha⟩ := hv
    obtain ⟨b, o, rfl, hb0, hrw⟩ := ha (by intro h; simp [h] at hkl)
    obtain ⟨c0, c1, c2⟩ := hrw k hkl
    obtain ⟨sa, scap, rfl, _, hsa⟩ := hs
    obtain ⟨sb, so, rfl, hsb, hsr⟩ := hsa (by intro h; simp [h] at hlt)
    have d0 := hsr i hlt
    rw [hk] at d0
    have Hin := Lib.hid hin
    have Hin2 := Lib.hid hin2
    have Hcons := Lib.hid hcons
    clear ih hsr hsa hrw ha hp hin hin2 hcons c0 c1 hk x0 x1 hgk
    generalize (l.getD k gt0).a = xa at *
    generalize (l.getD k gt0).b = xb at *
    generalize (l.getD k gt0).m = xm at *
    generalize leastP l free (ps.drop i) paid = res at *
    generalize hr1 : leastP l free (ps.drop (i + 1)) (paid ++ [(k : Int)]) = r1 at *
    generalize hr2 : leastP l free (ps.drop (i + 1)) paid = r2 at *
    have Hr1 := Lib.hid hr1; have Hr2 := Lib.hid hr2
    clear hr1 hr2
    have hb1 : 0 ≤ r1 ∧ r1 ≤ 990 := by omega
    have hb2 : 0 ≤ r2 ∧ r2 ≤ 990 := by omega
    have hne : decide ((i : Int) = (ps.length : Int)) = false := decide_eq_false (by omega)
    have hne2 : ((i : Int) == (ps.length : Int)) = false := by rw [beq_eq_false_iff_ne]; omega
    have hi0 : (0 : Int) ≤ (i : Int) := Int.natCast_nonneg _
    have hi1 : (i : Int) < (ps.length : Int) := by omega
    have hk0 : (0 : Int) ≤ (k : Int) := Int.natCast_nonneg _
    have hk1 : (k : Int) < (l.length : Int) := by omega
    have hw1 : IntKind.i64.wrap (xm + r1) = xm + r1 := IntWalk.i64_in _ (by omega)
    have hwi : IntKind.i64.wrap ((i : Int) + 1) = (i : Int) + 1 := IntWalk.i64_in _ (by omega)
    clear hbd1 hbd2
    obtain ⟨i0, hi0', hz0, hz1, hz2⟩ := info_parts Try.info3
    have hnews : ∀ (w' : World), Below w.heap.size w w' → ∀ j u, (paid.map (Value.int .i64))[j]? = some u → w'.cell? (pad.add j) = some u := fun w' hb j u hj => by
      obtain ⟨a2, c2', e1, _, h2⟩ := Hp.out.below hb
      injection e1 with e1 _ _
      have hne : paid ≠ [] := fun e => by rw [e] at hj; simp at hj
      obtain ⟨b2, o2, e2, _, h3⟩ := h2 hne
      rw [← e1] at e2
      injection e2 with e2
      rw [e2]
      exact h3.news j u hj
    have HN := Lib.hid hnews; clear hnews
    have hl2 : (paid ++ [(k : Int)]).length = paid.length + 1 := by simp
    have HIH2 := Lib.hid (fun (g gc : Nat) (w' : World) (hb : Below w.heap.size w w') (hp' : IntsIn w' (.slice (some ⟨g, 0, none⟩) (paid.length + 1) gc) (paid ++ [(k : Int)])) =>
      (show Calls Try.prog 88 #[.slice (some ⟨b, o, none⟩) l.length cap, .int .i64 free, .slice (some ⟨sb, so, none⟩) ps.length scap, .int .i64 ((i : Int) + 1), .slice (some ⟨g, 0, none⟩) (paid.length + 1) gc] w' (Gives (.int .i64 r1) w') from by
        have := HIH.out (paid ++ [(k : Int)]) ⟨g, 0, none⟩ gc w' hb (by rw [hl2]; exact hp') (by rw [hl2]; omega) Hin2.out
        rw [hl2, Hr1.out] at this
        exact this))
    have HIH3 := Lib.hid (fun (w' : World) (hb : Below w.heap.size w w') =>
      (show Calls Try.prog 88 #[.slice (some ⟨b, o, none⟩) l.length cap, .int .i64 free, .slice (some ⟨sb, so, none⟩) ps.length scap, .int .i64 ((i : Int) + 1), .slice (some pad) paid.length pcp] w' (Gives (.int .i64 r2) w') from by
        have := HIH.out paid pad pcp w' hb (Hp.out.below hb) (by omega) Hin.out
        rw [Hr2.out] at this
        exact this))
    have hmk : ∀ (wb : World) (vb : Value), Mk w w.heap.size 3 1 wb (some (vb, 0 + paid.length + 1, ([] ++ paid.map (Value.int .i64)) ++ [.int .i64 (k : Int)])) (some (wb.heap.size, [])) → True := fun _ _ _ => trivial
    clear hmk HIH
    have HMI := Lib.hid (fun (wb : World) (vb : Value) (NN : Option (Nat × List Value)) (h : Mk w w.heap.size 3 1 wb (some (vb, 0 + paid.length + 1, ([] ++ paid.map (Value.int .i64)) ++ [.int .i64 (k : Int)])) NN) => mkI (xs := paid ++ [(k : Int)]) h (by simp) (by simp) (by omega))
    have Hl2 := Lib.hid hl2; clear hl2
    have hlen10 : paid.length ≤ 10 := by omega
    go_enter Try.func88, Try.ntmps88
    go_wp2_with fail
    have HS := Lib.hid (fun (w' : World) (hb : Below w.heap.size w w') => (show w'.cell? ⟨b, o + k * 3 + 2, none⟩ = some (.int .i64 xm) ∧ w'.cell? ⟨sb, so + i, none⟩ = some (.int .i64 (k : Int)) from ⟨keepCell hb c2, keepCell hb d0⟩))
    have HM0 := Lib.hid (Mk.start w w.heap.size 3 1 (Nat.le_refl _)).drew
    have HMA := Lib.hid (show Mk w w.heap.size 3 1 ((World.drew w).alloc (.cells #[] 3)) (some (.slice (some ⟨w.heap.size, 0, none⟩) 0 0, 0, [])) none from HM0.out.zero)
    have HM1 := Lib.hid (show Mk w w.heap.size 3 1 ((World.drew w).alloc (.cells #[.int .i64 (k : Int)] 3)) none (some (w.heap.size, [.int .i64 (k : Int)])) from HM0.out.one _ 3)
    have hMB := HMA.out.one #[.int .i64 (k : Int)] 3
    rw [World.size_alloc] at hMB
    have HMB := Lib.hid (show Mk w w.heap.size 3 1 (((World.drew w).alloc (.cells #[] 3)).alloc (.cells #[.int .i64 (k : Int)] 3)) (some (.slice (some ⟨w.heap.size, 0, none⟩) 0 0, 0, [])) (some (w.heap.size + 1, [.int .i64 (k : Int)])) from hMB)
    have hMC := HM1.out.zero
    rw [World.size_alloc] at hMC
    have HMC := Lib.hid (show Mk w w.heap.size 3 1 (((World.drew w).alloc (.cells #[.int .i64 (k : Int)] 3)).alloc (.cells #[] 3)) (some (.slice (some ⟨w.heap.size + 1, 0, none⟩) 0 0, 0, [])) (some (w.heap.size, [.int .i64 (k : Int)])) from hMC)
    clear hMB hMC
    go_region_held3 (fun w' => w'.cell? ⟨b, o + k * 3 + 2, none⟩ = some (.int .i64 xm) ∧ w'.cell? ⟨sb, so + i, none⟩ = some (.int .i64 (k : Int)))
      (first | assumption | exact HS.out _ HM0.out.bel | exact HS.out _ HMA.out.bel | exact HS.out _ HM1.out.bel | exact HS.out _ HMB.out.bel | exact HS.out _ HMC.out.bel | (have hka' := hka; exact HS.out _ (hka'.one #[.int .i64 (k : Int)] 3).bel))
      (first
        | (refine step_app HMA.out (by rfl) _ _ _ (by rfl) i0 _ 8 Try.underlying39 hi0' hz0 hz1 hz2 rfl (by decide) (by rfl) pad paid.length pcp (paid.map (Value.int .i64)) (by rfl) (by simp) (HN.out _ HMA.out.bel) (encI_one paid) (by simp only [maxLen]; omega) (by omega) ?_; intro va wa hka hna; have hsA := HS.out _ hka.bel)
        | (refine step_app HMB.out (by rfl) _ _ _ (by rfl) i0 _ 8 Try.underlying39 hi0' hz0 hz1 hz2 rfl (by decide) (by rfl) pad paid.length pcp (paid.map (Value.int .i64)) (by rfl) (by simp) (HN.out _ HMB.out.bel) (encI_one paid) (by simp only [maxLen]; omega) (by omega) ?_; intro va wa hka hna; have hsA := HS.out _ hka.bel)
        | (refine step_app HMC.out (by rfl) _ _ _ (by rfl) i0 _ 8 Try.underlying39 hi0' hz0 hz1 hz2 rfl (by decide) (by rfl) pad paid.length pcp (paid.map (Value.int .i64)) (by rfl) (by simp) (HN.out _ HMC.out.bel) (encI_one paid) (by simp only [maxLen]; omega) (by omega) ?_; intro va wa hka hna; have hsA := HS.out _ hka.bel)
        | (refine step_app (hka.one #[.int .i64 (k : Int)] 3) (by rfl) _ _ _ (by rfl) i0 _ 8 Try.underlying39 hi0' hz0 hz1 hz2 rfl (by decide) (by rfl) ⟨wa.heap.size, 0, none⟩ 1 1 [.int .i64 (k : Int)] (by rfl) (by rfl) (((hka.one #[.int .i64 (k : Int)] 3).new _ _ rfl).2.2.1) (by simp [Value.oneCell']) (by simp only [maxLen]; omega) (by omega) ?_; intro vb wb hkb hnb; have hsB := HS.out _ hkb.bel; obtain ⟨gb, cb, rfl, hIb⟩ := HMI.out _ _ _ hkb; have HMk := Lib.hid hkb.bel; have HIb := Lib.hid (show IntsIn wb (.slice (some ⟨gb, 0, none⟩) (paid.length + 1) cb) (paid ++ [(k : Int)]) from by have h9 := hIb; rw [Nat.zero_add] at h9; exact h9); clear hIb hkb)
        | (refine step_app hka (by rfl) _ _ _ (by rfl) i0 _ 8 Try.underlying39 hi0' hz0 hz1 hz2 rfl (by decide) (by rfl) ⟨w.heap.size + 1, 0, none⟩ 1 1 [.int .i64 (k : Int)] (by rfl) (by rfl) ((hka.new _ _ rfl).2.2.1) (by simp [Value.oneCell']) (by simp only [maxLen]; omega) (by omega) ?_; intro vb wb hkb hnb; have hsB := HS.out _ hkb.bel; obtain ⟨gb, cb, rfl, hIb⟩ := HMI.out _ _ _ hkb; have HMk := Lib.hid hkb.bel; have HIb := Lib.hid (show IntsIn wb (.slice (some ⟨gb, 0, none⟩) (paid.length + 1) cb) (paid ++ [(k : Int)]) from by have h9 := hIb; rw [Nat.zero_add] at h9; exact h9); clear hIb hkb)
        | (refine step_app hka (by rfl) _ _ _ (by rfl) i0 _ 8 Try.underlying39 hi0' hz0 hz1 hz2 rfl (by decide) (by rfl) ⟨w.heap.size, 0, none⟩ 1 1 [.int .i64 (k : Int)] (by rfl) (by rfl) ((hka.new _ _ rfl).2.2.1) (by simp [Value.oneCell']) (by simp only [maxLen]; omega) (by omega) ?_; intro vb wb hkb hnb; have hsB := HS.out _ hkb.bel; obtain ⟨gb, cb, rfl, hIb⟩ := HMI.out _ _ _ hkb; have HMk := Lib.hid hkb.bel; have HIb := Lib.hid (show IntsIn wb (.slice (some ⟨gb, 0, none⟩) (paid.length + 1) cb) (paid ++ [(k : Int)]) from by have h9 := hIb; rw [Nat.zero_add] at h9; exact h9); clear hIb hkb)
        | (go_at_call 88; refine (HIH2.out _ _ _ HMk.out HIb.out).mono ?_; rintro e wc ⟨rfl, hbc⟩; have HBc := Lib.hid (HMk.out.trans (hbc.mono HMk.out.size)); have hsC := HS.out _ HBc.out; clear hbc))
    all_goals
      have hD := (HS.out _ HBc.out).2
      have Hf := Lib.hid (HFr.out _ HBc.out)
      clear HMA HM1 HMB HMC HM0 HIH2 HMI HN HFr HMk HIb
      cases hf : freedG l free paid (k : Int) with
      | false =>
        have Hres := Lib.hid (Hcons.out.trans (if_neg (by rw [hf]; simp)))
        rw [hf] at Hf
        clear hf Hcons HIH3
        go_wp2_with fail
        refine Hf.out.mono ?_; rintro e wf ⟨rfl, hbf⟩
        have HBf := Lib.hid (HBc.out.trans (hbf.mono HBc.out.size))
        clear hbf
        go_wp2
        go_ret
        rw [Hres.out]
        exact ⟨rfl, HBf.out⟩
      | true =>
        have Hres := Lib.hid (Hcons.out.trans (if_pos hf))
        rw [hf] at Hf
        clear hf Hcons
        go_wp2_with fail
        refine Hf.out.mono ?_; rintro e wf ⟨rfl, hbf⟩
        have HBf := Lib.hid (HBc.out.trans (hbf.mono HBc.out.size))
        clear hbf hD
        go_wp2_with fail
        refine (HIH3.out _ HBf.out).mono ?_; rintro e wg ⟨rfl, hbg⟩
        have HBg := Lib.hid (HBf.out.trans (hbg.mono HBf.out.size))
        clear hbg HIH3
        rcases Int.lt_trichotomy (xm + r1) r2 with q | q | q
        · have Hm := Lib.hid (show min (xm + r1) r2 = xm + r1 by omega)
          go_wp2
          go_ret
          rw [Hres.out, Hm.out]
          exact ⟨rfl, HBg.out⟩
        · have Hm := Lib.hid (show min (xm + r1) r2 = r2 by omega)
          subst q
          go_wp2
          go_ret
          rw [Hres.out, Hm.out]
          exact ⟨rfl, HBg.out⟩
        · have Hm := Lib.hid (show min (xm + r1) r2 = r2 by omega)
          go_wp2
          go_ret
          rw [Hres.out, Hm.out]
          exact ⟨rfl, HBg.out⟩

theorem leastX_no {l : List Gt} {free f t : Int} (h : okT l free f t = false) : leastX l free f t = -1 := by unfold leastX; rw [h]; rfl
theorem leastX_yes {l : List Gt} {free f t : Int} (h : okT l free f t = true) : leastX l free f t = leastP l free (passL l f t) [] := by
  have hp := passL_pas (okT_valid h) f t
  unfold leastX leastV
  rw [if_pos h, leastP_eq hp (FU.none hp)]

set_option maxHeartbeats 1000000 in
theorem tl1_any (v : Value) (l : List Gt) (free f t : Int) (w : World) (hv : GtIn w v l) (hl : l.length ≤ 1048576) :
    Calls Try.prog 48 #[v, .int .i64 free, .int .i64 f, .int .i64 t] w (Gives (.int .i64 (leastX l free f t)) w) := by
  have HO := Lib.hid (ok1_any v l free f t w hv hl)
  cases ho : okT l free f t with
  | false =>
    rw [ho] at HO
    have Hr := Lib.hid (leastX_no ho)
    clear ho hv
    go_enter Try.func48, Try.ntmps48
    go_wp2_with fail
    refine HO.out.mono ?_; rintro e w1 ⟨rfl, hb1⟩
    go_wp2
    go_ret
    rw [Hr.out]
    exact ⟨rfl, hb1⟩
  | true =>
    rw [ho] at HO
    have hz := okT_valid ho
    have hten := (validG_iff.1 hz).1
    have hpl := passL_len l f t
    have Hr := Lib.hid (leastX_yes ho)
    have HP := Lib.hid (fun w' (h : Below w.heap.size w w') => okT_pass ho ▸ pass1_any v l f t w' (hv.below h) hl)
    have Hpi := Lib.hid (passL_pas hz f t).i
    have Hz := Lib.hid hz
    have Hv := Lib.hid hv
    obtain ⟨a, cap, rfl, _, _⟩ := hv
    clear ho hz
    go_enter Try.func48, Try.ntmps48
    go_wp2_with fail
    refine HO.out.mono ?_; rintro e w1 ⟨rfl, hb1⟩
    have HB1 := Lib.hid hb1; clear hb1
    go_wp2_with fail
    refine (HP.out _ HB1.out).mono ?_; rintro e w2 ⟨ad, cp, rfl, hcp, hown, hin, hb2⟩
    have HB2 := Lib.hid (HB1.out.trans (hb2.mono HB1.out.size))
    have hx : Below w2.heap.size w2 (w2.alloc (.cells #[] 3)) := (Below.refl _ _).alloc (Nat.le_refl _) _
    have hrow := RowI.made w2 w2.heap.size (Nat.le_refl _)
    have hL := least1_any _ l free _ (passL l f t) Hz.out Hpi.out (by omega) (passL l f t).length 0 (by omega) [] ⟨w2.heap.size, 0, none⟩ 0 _ (Hv.out.below (HB2.out.trans (hx.mono HB2.out.size))) ((hown.ints hcp).below hx) (show IntsIn _ (.slice (some ⟨w2.heap.size, 0, none⟩) 0 0) [] from ⟨_, _, rfl, Nat.le_refl _, fun h => absurd rfl h⟩) (Nat.zero_le _) (fun k hk => absurd hk List.not_mem_nil)
    rw [List.drop_zero] at hL
    have HL := Lib.hid hL
    have Hx := Lib.hid hx
    clear hL hrow hx hown hcp hin hb2 HP HO
    generalize (passL l f t).length = n at *
    go_wp2_with fail
    refine HL.out.mono ?_; rintro e w3 ⟨rfl, hb3⟩
    have HB3 := Lib.hid (HB2.out.trans ((Hx.out.trans (hb3.mono Hx.out.size)).mono HB2.out.size))
    clear hb3
    go_wp2
    go_ret
    rw [Hr.out]
    exact ⟨rfl, HB3.out⟩

end Go.Proofs.Ythhllpnbmelidaa
