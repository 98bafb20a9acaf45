/- The model's TollBest. -/
import Derived.Test.YthhllpnbmelidaaGW
namespace Go.Proofs.Ythhllpnbmelidaa
open Go.RowKit
set_option linter.unusedVariables false
set_option linter.unusedSimpArgs false

theorem RowI.base {w : World} {B B' : Nat} {v : Value} {l : List Int} (h : RowI w B v l) (hB : B' ≤ B) : RowI w B' v l := by
  obtain ⟨h1, h2⟩ := h
  refine ⟨h1, ?_⟩
  rcases h2 with h0 | ⟨g, cap, cur, he, hg, r⟩
  · exact .inl h0
  · exact .inr ⟨g, cap, cur, he, Nat.le_trans hB hg, r⟩
theorem bestS_cons (l : List Gt) (free : Int) (k : Int) (s out : List Int) : bestS l free (k :: s) out = if (gAt l k).m + leastP l free s (out ++ [k]) = leastP l free (k :: s) out then bestS l free s (out ++ [k]) else bestS l free s out := rfl
theorem bestX_no {l : List Gt} {free f t : Int} (h : okT l free f t = false) : bestX l free f t = [] := by unfold bestX; rw [h]; rfl
theorem bestX_yes {l : List Gt} {free f t : Int} (h : okT l free f t = true) : bestX l free f t = bestS l free (passL l f t) [] := by
  have hp := passL_pas (okT_valid h) f t
  unfold bestX
  rw [if_pos h, bestS_eq hp (FU.none hp), List.nil_append]

def Tb1Rel (l : List Gt) (free : Int) (ps xs : List Int) (w w2 : World) (u i : Value) (wr : World) : Prop :=
  ∃ (k : Nat) (out : List Int) (ad : Addr) (cap : Nat), k ≤ ps.length ∧ i = .int .i64 k ∧ u = .slice (some ad) out.length cap ∧ RowI wr w.heap.size u out ∧ out.length ≤ k ∧ (∀ x ∈ out, 0 ≤ x ∧ x < l.length) ∧ bestS l free (ps.drop k) out = xs ∧ Below w.heap.size w wr ∧ Below w2.heap.size w2 wr

set_option maxRecDepth 100000 in
set_option maxHeartbeats 8000000 in
theorem tb1_any (v : Value) (l : List Gt) (free f t : Int) (w : World) (hv : GtIn w v l) (hl : l.length ≤ 1048576) :
    Calls Try.prog 50 #[v, .int .i64 free, .int .i64 f, .int .i64 t] w (IntsOk (bestX l free f t) (okT l free f t) w) := by
  obtain ⟨i0, hi0', hz0, hz1, hz2⟩ := info_parts Try.info3
  have HP := Lib.hid (fun w' (h : Below w.heap.size w w') => pass1_any v l f t w' (hv.below h) hl)
  have HO := Lib.hid (fun w' (h : Below w.heap.size w w') => ok1_any v l free f t w' (hv.below h) hl)
  have Hb0 := Lib.hid ((Below.refl w.heap.size w).alloc (Nat.le_refl _) (.cells #[] 3))
  have HR0 := Lib.hid (RowI.made w w.heap.size (Nat.le_refl _))
  cases ho : okT l free f t with
  | false =>
    rw [bestX_no ho]
    have Ho := Lib.hid ho
    clear hv ho
    go_enter Try.func50, Try.ntmps50
    go_wp2_with fail
    refine (HO.out _ Hb0.out).mono ?_; rintro e w1 ⟨rfl, hb1⟩
    rw [Ho.out]
    have HB1 := Lib.hid (Hb0.out.trans (hb1.mono Hb0.out.size))
    have HR1 := Lib.hid (HR0.out.below hb1)
    clear hb1
    go_wp2
    go_ret2
    exact IntsOk.row false HR1.out (Nat.le_refl _) HB1.out
  | true =>
    rw [bestX_yes ho]
    have hz := okT_valid ho
    have hpx := okT_pass ho
    have hten := (validG_iff.1 hz).1
    have hpn := passL_len l f t
    have HP' := Lib.hid (fun w' (h : Below w.heap.size w w') => hpx ▸ HP.out w' h)
    have hpi := (passL_pas hz f t).i
    have HL := Lib.hid (fun (i n : Nat) (h : i + n = (passL l f t).length) (vs : Value) (paid : List Int) (pad : Addr) (pcp : Nat) (w' : World) (hb : Below w.heap.size w w') (hs : IntsIn w' vs (passL l f t)) (hp : IntsIn w' (.slice (some pad) paid.length pcp) paid) (h1 : paid.length ≤ i) (h2 : ∀ k ∈ paid, 0 ≤ k ∧ k < l.length) =>
      least1_any v l free vs (passL l f t) hz hpi (by omega) n i h paid pad pcp w' (hv.below hb) hs hp h1 h2)
    have Hpi := Lib.hid hpi
    have Hz := Lib.hid hz
    have Ho := Lib.hid ho
    have Hv := Lib.hid hv
    obtain ⟨a, cap, rfl, _, _⟩ := hv
    clear ho hz hpx HP hpi
    generalize hps : passL l f t = ps at *
    clear hps
    go_enter Try.func50, Try.ntmps50
    go_wp2_with fail
    refine (HO.out _ Hb0.out).mono ?_; rintro e w1 ⟨rfl, hb1⟩
    rw [Ho.out]
    have HB1 := Lib.hid (Hb0.out.trans (hb1.mono Hb0.out.size))
    have HR1 := Lib.hid (HR0.out.below hb1)
    clear hb1
    go_wp2_with fail
    refine (HP'.out _ HB1.out).mono ?_; rintro e w2 ⟨sa, scp, rfl, hcp, hown, hin, hb2⟩
    have HB2 := Lib.hid (HB1.out.trans (hb2.mono HB1.out.size))
    have HR2 := Lib.hid (HR1.out.below hb2)
    have HI2 := Lib.hid (hown.ints hcp)
    clear hown hin hcp hb2 HO HP' HB1 HR1
    go_wp2
    go_loopw [10, 12] (fun u i wr => Tb1Rel l free ps (bestS l free ps []) w w2 u i wr) (fun _ i _ => ps.length - (intOf i).toNat)
    case atStart => exact ⟨0, [], ⟨w.heap.size, 0, none⟩, 0, Nat.zero_le _, rfl, rfl, HR2.out, Nat.zero_le _, fun x hx => absurd hx List.not_mem_nil, rfl, HB2.out, Below.refl _ _⟩
    case round =>
      obtain ⟨i, out, pad, pcp, hk, rfl, rfl, hrow, hol, hoin, hgo, hbel, hb2r⟩ := hrel
      by_cases hlt : i < ps.length
      · have hI := HI2.out.below hb2r
        have hIo : IntsIn wr (.slice (some pad) out.length pcp) out := by
          obtain ⟨ad', cap', he, hc, ho', _⟩ := hrow.row
          rw [he]; exact ho'.ints hc
        have HIs := Lib.hid hI
        have HIo := Lib.hid hIo
        obtain ⟨xa, xc, hxe, _, hx2⟩ := hI
        injection hxe with hx3 hx4 hx5
        obtain rfl := hx5
        obtain ⟨sb, so, hqe, hqb, hqr⟩ := hx2 (by intro h; simp [h] at hlt)
        obtain rfl : sa = some ⟨sb, so, none⟩ := hx3.trans hqe
        have d0 := hqr i hlt
        obtain ⟨x0, x1⟩ := Hpi.out _ (mem_getD8.2 ⟨i, hlt, rfl⟩)
        obtain ⟨k, hk⟩ : ∃ k : Nat, ps.getD i 0 = k := ⟨(ps.getD i 0).toNat, by omega⟩
        have hkl : k < l.length := by omega
        have hcons := bestS_cons l free (ps.getD i 0) (ps.drop (i + 1)) out
        rw [← drop_cons8 hlt, hgo, hk] at hcons
        have hgk : gAt l (k : Int) = l.getD k gt0 := by unfold gAt; rw [Int.toNat_natCast]
        rw [hgk] at hcons
        have hzk := validG_at Hz.out hkl
        obtain ⟨a', c', hve, _, hga⟩ := Hv.out.below hbel
        injection hve with hv1 _ hv3
        obtain rfl := hv3
        obtain ⟨gb, go_, hge, hgb, hgr⟩ := hga (by intro h; simp [h] at hkl)
        obtain rfl : a = some ⟨gb, go_, none⟩ := hv1.trans hge
        obtain ⟨c0, c1, c2⟩ := hgr k hkl
        have hoin2 : ∀ x ∈ out ++ [(k : Int)], 0 ≤ x ∧ x < l.length := fun x hx => by
          rw [List.mem_append, List.mem_singleton] at hx
          rcases hx with hx | rfl
          · exact hoin x hx
          · omega
        have hdl : (ps.drop (i + 1)).length ≤ 10 := by rw [List.length_drop]; omega
        have hbd1 := leastP_bd Hz.out free (ps.drop (i + 1)) (out ++ [(k : Int)]) (fun x hx => Hpi.out x (List.mem_of_mem_drop hx))
        have hdl2 : (ps.drop i).length ≤ 10 := by rw [List.length_drop]; omega
        have hbd2 := leastP_bd Hz.out free (ps.drop i) out (fun x hx => Hpi.out x (List.mem_of_mem_drop hx))
        have HL1 := Lib.hid (HL.out i (ps.length - i) (by omega) _ out pad pcp wr hbel HIs.out hIo hol hoin)
        have hl2 : (out ++ [(k : Int)]).length = out.length + 1 := by simp
        have HL2 := Lib.hid (fun (g gc : Nat) (w' : World) (hb : Below wr.heap.size wr w') (hp' : IntsIn w' (.slice (some ⟨g, 0, none⟩) (out.length + 1) gc) (out ++ [(k : Int)])) =>
          (show Calls Try.prog 88 #[.slice (some ⟨gb, go_, none⟩) l.length cap, .int .i64 free, .slice (some ⟨sb, so, none⟩) ps.length scp, .int .i64 ((i : Int) + 1), .slice (some ⟨g, 0, none⟩) (out.length + 1) gc] w' (Gives (.int .i64 (leastP l free (ps.drop (i + 1)) (out ++ [(k : Int)]))) w') from by
            have := HL.out (i + 1) (ps.length - (i + 1)) (by omega) _ (out ++ [(k : Int)]) ⟨g, 0, none⟩ gc w' (hbel.trans (hb.mono hbel.size)) (HIs.out.below hb) (by rw [hl2]; exact hp') (by rw [hl2]; omega) hoin2
            rw [hl2] at this
            exact this))
        have HS := Lib.hid (fun (w' : World) (hb : Below wr.heap.size wr w') => (show w'.cell? ⟨gb, go_ + k * 3 + 2, none⟩ = some (.int .i64 (l.getD k gt0).m) ∧ w'.cell? ⟨sb, so + i, none⟩ = some (.int .i64 (k : Int)) from ⟨keepCell hb c2, keepCell hb (hk ▸ d0)⟩))
        have hnews : ∀ (w' : World), Below wr.heap.size wr w' → ∀ j u, (out.map (Value.int .i64))[j]? = some u → w'.cell? (pad.add j) = some u := fun w' hb j u hj => by
          obtain ⟨a2, c2', e1, _, h2⟩ := hIo.below hb
          injection e1 with e1 _ _
          have hne : out ≠ [] := fun e => by rw [e] at hj; simp at hj
          obtain ⟨b2, o2, e2, _, h3⟩ := h2 hne
          rw [← e1] at e2
          injection e2 with e2
          rw [e2]
          exact h3.news j u hj
        have HN := Lib.hid hnews
        have HMI := Lib.hid (fun (X wb : World) (B : Nat) (vb : Value) (NN : Option (Nat × List Value)) (h : Mk X B 3 1 wb (some (vb, 0 + out.length + 1, ([] ++ out.map (Value.int .i64)) ++ [.int .i64 (k : Int)])) NN) => mkI (xs := out ++ [(k : Int)]) h (by simp) (by simp) (by omega))
        have HMR := Lib.hid (fun (X wb : World) (B : Nat) (vb : Value) (NN : Option (Nat × List Value)) (h : Mk X B 3 1 wb (some (vb, 0 + out.length + 1, ([] ++ out.map (Value.int .i64)) ++ [.int .i64 (k : Int)])) NN) =>
          (show RowI wb B vb (out ++ [(k : Int)]) from by
            have h1 := h.own _ _ _ rfl
            unfold RowI
            rw [hl2, List.map_append]
            have e : 0 + out.length + 1 = out.length + 1 := by omega
            rw [e] at h1
            exact h1))
        have Hcons := Lib.hid hcons
        have Hgo := Lib.hid hgo
        have Hoin := Lib.hid hoin
        have Hoin2 := Lib.hid hoin2
        have Hrow := Lib.hid hrow
        have HBr := Lib.hid hbel
        have HB2r := Lib.hid hb2r
        have Hl2 := Lib.hid hl2
        clear hnews hcons hgo hoin hoin2 hrow hbel hb2r hl2 hgr hga hqr hx2 hIo d0 c0 c1 c2 hgk hv1 hge hx3 hx4 hqe hk x0 x1
        generalize (l.getD k gt0).a = xq at *
        generalize (l.getD k gt0).b = xb at *
        generalize (l.getD k gt0).m = xm at *
        generalize leastP l free (ps.drop i) out = r0 at *
        generalize leastP l free (ps.drop (i + 1)) (out ++ [(k : Int)]) = r1 at *
        have hb1 : 0 ≤ r1 ∧ r1 ≤ 990 := by omega
        have hb2 : 0 ≤ r0 ∧ r0 ≤ 990 := by omega
        clear hbd1 hbd2
        have hi0 : (0 : Int) ≤ (i : Int) := Int.natCast_nonneg _
        have hi1 : (i : Int) < (ps.length : Int) := by omega
        have hk0 : (0 : Int) ≤ (k : Int) := Int.natCast_nonneg _
        have hk1 : (k : Int) < (l.length : Int) := by omega
        have hw1 : IntKind.i64.wrap (xm + r1) = xm + r1 := IntWalk.i64_in _ (by omega)
        have hwi : IntKind.i64.wrap ((i : Int) + 1) = (i : Int) + 1 := IntWalk.i64_in _ (by omega)
        have hm10 : out.length ≤ 10 := by omega
        go_wp2_with fail
        refine HL1.out.mono ?_; rintro e w3 ⟨rfl, hb3⟩
        have HB3 := Lib.hid hb3
        have HS3 := Lib.hid (fun (w' : World) (h : Below w3.heap.size w3 w') => HS.out w' (hb3.trans (h.mono hb3.size)))
        have HN3 := Lib.hid (fun (w' : World) (h : Below w3.heap.size w3 w') => HN.out w' (hb3.trans (h.mono hb3.size)))
        obtain ⟨e1, e2⟩ := HS.out w3 hb3
        have hs3 := hb3.size
        clear hb3 HL1 HN
        go_wp2_with fail
        have HM0 := Lib.hid (Mk.start w3 w3.heap.size 3 1 (Nat.le_refl _)).drew
        have HMA := Lib.hid (show Mk w3 w3.heap.size 3 1 ((World.drew w3).alloc (.cells #[] 3)) (some (.slice (some ⟨w3.heap.size, 0, none⟩) 0 0, 0, [])) none from HM0.out.zero)
        have HM1 := Lib.hid (show Mk w3 w3.heap.size 3 1 ((World.drew w3).alloc (.cells #[.int .i64 (k : Int)] 3)) none (some (w3.heap.size, [.int .i64 (k : Int)])) from HM0.out.one _ 3)
        have hMB := HMA.out.one #[.int .i64 (k : Int)] 3
        rw [World.size_alloc] at hMB
        have HMB := Lib.hid (show Mk w3 w3.heap.size 3 1 (((World.drew w3).alloc (.cells #[] 3)).alloc (.cells #[.int .i64 (k : Int)] 3)) (some (.slice (some ⟨w3.heap.size, 0, none⟩) 0 0, 0, [])) (some (w3.heap.size + 1, [.int .i64 (k : Int)])) from hMB)
        have hMC := HM1.out.zero
        rw [World.size_alloc] at hMC
        have HMC := Lib.hid (show Mk w3 w3.heap.size 3 1 (((World.drew w3).alloc (.cells #[.int .i64 (k : Int)] 3)).alloc (.cells #[] 3)) (some (.slice (some ⟨w3.heap.size + 1, 0, none⟩) 0 0, 0, [])) (some (w3.heap.size, [.int .i64 (k : Int)])) from hMC)
        clear hMB hMC
        go_region_held3 (fun w' => w'.cell? ⟨gb, go_ + k * 3 + 2, none⟩ = some (.int .i64 xm) ∧ w'.cell? ⟨sb, so + i, none⟩ = some (.int .i64 (k : Int)))
          (first | assumption | exact HS3.out _ HM0.out.bel | exact HS3.out _ HMA.out.bel | exact HS3.out _ HM1.out.bel | exact HS3.out _ HMB.out.bel | exact HS3.out _ HMC.out.bel | (have hka' := hka; exact HS3.out _ (hka'.one #[.int .i64 (k : Int)] 3).bel))
          (first
            | (refine step_app HMA.out (by rfl) _ _ _ (by rfl) i0 _ 8 Try.underlying39 hi0' hz0 hz1 hz2 rfl (by decide) (by rfl) pad out.length pcp (out.map (Value.int .i64)) (by rfl) (by simp) (HN3.out _ HMA.out.bel) (encI_one out) (by simp only [maxLen]; omega) (by omega) ?_; intro va wa hka hna; have hsA := HS3.out _ hka.bel)
            | (refine step_app HMB.out (by rfl) _ _ _ (by rfl) i0 _ 8 Try.underlying39 hi0' hz0 hz1 hz2 rfl (by decide) (by rfl) pad out.length pcp (out.map (Value.int .i64)) (by rfl) (by simp) (HN3.out _ HMB.out.bel) (encI_one out) (by simp only [maxLen]; omega) (by omega) ?_; intro va wa hka hna; have hsA := HS3.out _ hka.bel)
            | (refine step_app HMC.out (by rfl) _ _ _ (by rfl) i0 _ 8 Try.underlying39 hi0' hz0 hz1 hz2 rfl (by decide) (by rfl) pad out.length pcp (out.map (Value.int .i64)) (by rfl) (by simp) (HN3.out _ HMC.out.bel) (encI_one out) (by simp only [maxLen]; omega) (by omega) ?_; intro va wa hka hna; have hsA := HS3.out _ hka.bel)
            | (refine step_app (hka.one #[.int .i64 (k : Int)] 3) (by rfl) _ _ _ (by rfl) i0 _ 8 Try.underlying39 hi0' hz0 hz1 hz2 rfl (by decide) (by rfl) ⟨wa.heap.size, 0, none⟩ 1 1 [.int .i64 (k : Int)] (by rfl) (by rfl) (((hka.one #[.int .i64 (k : Int)] 3).new _ _ rfl).2.2.1) (by simp [Value.oneCell']) (by simp only [maxLen]; omega) (by omega) ?_; intro vb wb hkb hnb; have hsB := HS3.out _ hkb.bel; have hRb := HMR.out _ _ _ _ _ hkb; obtain ⟨gb', cb, rfl, hIb⟩ := HMI.out _ _ _ _ _ hkb; have HMk := Lib.hid hkb.bel; have HRb := Lib.hid hRb; have HIb := Lib.hid (show IntsIn wb (.slice (some ⟨gb', 0, none⟩) (out.length + 1) cb) (out ++ [(k : Int)]) from by have h9 := hIb; rw [Nat.zero_add] at h9; exact h9); clear hIb hkb hRb)
            | (refine step_app hka (by rfl) _ _ _ (by rfl) i0 _ 8 Try.underlying39 hi0' hz0 hz1 hz2 rfl (by decide) (by rfl) ⟨w3.heap.size + 1, 0, none⟩ 1 1 [.int .i64 (k : Int)] (by rfl) (by rfl) ((hka.new _ _ rfl).2.2.1) (by simp [Value.oneCell']) (by simp only [maxLen]; omega) (by omega) ?_; intro vb wb hkb hnb; have hsB := HS3.out _ hkb.bel; have hRb := HMR.out _ _ _ _ _ hkb; obtain ⟨gb', cb, rfl, hIb⟩ := HMI.out _ _ _ _ _ hkb; have HMk := Lib.hid hkb.bel; have HRb := Lib.hid hRb; have HIb := Lib.hid (show IntsIn wb (.slice (some ⟨gb', 0, none⟩) (out.length + 1) cb) (out ++ [(k : Int)]) from by have h9 := hIb; rw [Nat.zero_add] at h9; exact h9); clear hIb hkb hRb)
            | (refine step_app hka (by rfl) _ _ _ (by rfl) i0 _ 8 Try.underlying39 hi0' hz0 hz1 hz2 rfl (by decide) (by rfl) ⟨w3.heap.size, 0, none⟩ 1 1 [.int .i64 (k : Int)] (by rfl) (by rfl) ((hka.new _ _ rfl).2.2.1) (by simp [Value.oneCell']) (by simp only [maxLen]; omega) (by omega) ?_; intro vb wb hkb hnb; have hsB := HS3.out _ hkb.bel; have hRb := HMR.out _ _ _ _ _ hkb; obtain ⟨gb', cb, rfl, hIb⟩ := HMI.out _ _ _ _ _ hkb; have HMk := Lib.hid hkb.bel; have HRb := Lib.hid hRb; have HIb := Lib.hid (show IntsIn wb (.slice (some ⟨gb', 0, none⟩) (out.length + 1) cb) (out ++ [(k : Int)]) from by have h9 := hIb; rw [Nat.zero_add] at h9; exact h9); clear hIb hkb hRb))
        all_goals
          have HS4 := Lib.hid (fun (w' : World) (h : Below wb.heap.size wb w') => HS3.out w' (HMk.out.trans (h.mono HMk.out.size)))
          obtain ⟨f1, f2⟩ := HS4.out wb (Below.refl _ _)
          have HBk := Lib.hid (HB3.out.trans (HMk.out.mono HB3.out.size))
          have HLc := Lib.hid (fun (w' : World) (h : Below wb.heap.size wb w') => HL2.out gb' cb w' (HBk.out.trans (h.mono HBk.out.size)) (HIb.out.below h))
          have HBw := Lib.hid (HBr.out.trans (HBk.out.mono HBr.out.size))
          have HB2w := Lib.hid (HB2r.out.trans (HBk.out.mono HB2r.out.size))
          have HRw := Lib.hid (HRb.out.base (show w.heap.size ≤ w3.heap.size from Nat.le_trans HBr.out.size hs3))
          have HRo := Lib.hid (Hrow.out.below HBk.out)
          clear HM0 HMA HM1 HMB HMC HS HS3 HN3 HMI HMR HL2 HMk HIb HRb Hrow e1 e2 HB3 HIs HIo
          go_wp2_with fail
          go_region_held3 (fun w' => w'.cell? ⟨gb, go_ + k * 3 + 2, none⟩ = some (.int .i64 xm) ∧ w'.cell? ⟨sb, so + i, none⟩ = some (.int .i64 (k : Int)))
            (first | assumption | exact HS4.out _ (Below.refl _ _).drew)
            (first | (go_at_call 88; refine (HLc.out _ (Below.refl _ _).drew).mono ?_; rintro e wc ⟨rfl, hbc⟩; have hsC := HS4.out _ ((Below.refl wb.heap.size wb).drew.trans hbc); have HBc := Lib.hid ((Below.refl wb.heap.size wb).drew.trans hbc); clear hbc))
          have HBwc := Lib.hid (HBw.out.trans (HBc.out.mono HBw.out.size))
          have HB2wc := Lib.hid (HB2w.out.trans (HBc.out.mono HB2w.out.size))
          have HRx := Lib.hid (show RowI wc w.heap.size (.slice (some ⟨gb', 0, none⟩) (out.length + 1) cb) (out ++ [(k : Int)]) from by have h9 := HRw.out; rw [Nat.zero_add] at h9; exact h9.below HBc.out)
          have HRy := Lib.hid (HRo.out.below HBc.out)
          clear HLc HBk HS4 f1 f2 hsC HRw HRo
          by_cases q : xm + r1 = r0
          · have q' : (xm + r1 == r0) = true := by simpa using q
            have Hg := Lib.hid ((if_pos q).symm.trans Hcons.out.symm)
            clear q
            go_wp2
            exact ⟨⟨i + 1, out ++ [(k : Int)], ⟨gb', 0, none⟩, cb, hlt, by go_num, by rw [Hl2.out], HRx.out, by rw [Hl2.out]; omega, Hoin2.out, Hg.out, HBwc.out, HB2wc.out⟩, by simp [intOf]; omega⟩
          · have q' : (xm + r1 == r0) = false := by simpa using q
            have Hg := Lib.hid ((if_neg q).symm.trans Hcons.out.symm)
            clear q
            go_wp2
            exact ⟨⟨i + 1, out, pad, pcp, hlt, by go_num, rfl, HRy.out, by omega, Hoin.out, Hg.out, HBwc.out, HB2wc.out⟩, by simp [intOf]; omega⟩
      · obtain rfl : i = ps.length := by omega
        rw [List.drop_length] at hgo
        obtain rfl : out = bestS l free ps [] := hgo
        have HR := Lib.hid hrow
        have HB := Lib.hid hbel
        clear hrow hbel hb2r hoin
        generalize bestS l free ps [] = xs at *
        go_wp2
        go_ret2
        exact IntsOk.row true HR.out (Nat.le_refl _) HB.out

end Go.Proofs.Ythhllpnbmelidaa
