/- RunsAdd of the program. -/
import Derived.Test.YtmcapcclnkicbaaUKC
import Derived.Test.YtmcapcclnkicbaaUKS
import Derived.Test.YtmcapcclnkicbaaHD
namespace Go.Proofs.Ytmcapcclnkicbaa
open Go.RowKit

def paF (a0 a1 a2 : Addr) : Nat → Addr | 0 => a0 | 1 => a1 | _ => a2
def pcF (a0 a1 a2 : Nat) : Nat → Nat | 0 => a0 | 1 => a1 | _ => a2
def plF (a0 a1 a2 : List Rn) : Nat → List Rn | 0 => a0 | 1 => a1 | _ => a2

theorem plF_cat (l : List Rn) (r : Rn) (P : Nat) (h : P = plU l r.a) : catTo (plF (l.take P) [r] (l.drop P)) 3 = addW l r := by
  subst h; simp [catTo, plF, addW]

theorem tailA_block (b n f : Nat) : (tailA b n f).block = b := by unfold tailA; split <;> rfl

theorem parts_mk {w W : World} {b : Nat} {l : List Rn} (ra rb : Int) (P : Nat) (hv : RnIn w (.slice (some ⟨b, 0, none⟩) l.length l.length) l) (hb : Below w.heap.size w W) (hP : P ≤ l.length) :
    Parts ((W.alloc (.cells #[.int .i64 ra, .int .i64 rb] 48)).alloc (.cells #[.slice (some ⟨b, 0, none⟩) P l.length, .slice (some ⟨W.heap.size, 0, none⟩) 1 1, .slice (some (tailA b l.length P)) (l.length - P) (l.length - P)] 25)) (W.heap.size + 1)
      (paF ⟨b, 0, none⟩ ⟨W.heap.size, 0, none⟩ (tailA b l.length P)) (pcF l.length 1 (l.length - P)) (plF (l.take P) [⟨ra, rb⟩] (l.drop P)) := by
  have hb2 := (hb.alloc hb.size (.cells #[.int .i64 ra, .int .i64 rb] 48)).alloc (Nat.le_trans hb.size (by simp)) (.cells #[.slice (some ⟨b, 0, none⟩) P l.length, .slice (some ⟨W.heap.size, 0, none⟩) 1 1, .slice (some (tailA b l.length P)) (l.length - P) (l.length - P)] 25)
  obtain ⟨hat, hlt⟩ := (hv.below hb2).at
  have hnew := heap_alloc_new (W.alloc (.cells #[.int .i64 ra, .int .i64 rb] 48)) (.cells #[.slice (some ⟨b, 0, none⟩) P l.length, .slice (some ⟨W.heap.size, 0, none⟩) 1 1, .slice (some (tailA b l.length P)) (l.length - P) (l.length - P)] 25)
  have hsz : (W.alloc (.cells #[.int .i64 ra, .int .i64 rb] 48)).heap.size = W.heap.size + 1 := by simp
  rw [hsz] at hnew
  have htl : (l.take P).length = P := by simp; omega
  have hdl : (l.drop P).length = l.length - P := by simp
  refine ⟨by simp, fun i hi => ?_, fun i hi hn => ?_, fun i hi => ?_⟩
  · rw [cell_of_row _ _ i _ _ _ hnew]
    rcases (by omega : i = 0 ∨ i = 1 ∨ i = 2) with rfl | rfl | rfl
    · simp [paF, pcF, plF]; omega
    · simp [paF, pcF, plF]
    · simp [paF, pcF, plF]
  · rcases (by omega : i = 0 ∨ i = 1 ∨ i = 2) with rfl | rfl | rfl
    · exact hlt (fun e => hn (by rw [e]; simp [plF]))
    · show W.heap.size < _; simp; omega
    · show (tailA b l.length P).block < _
      rw [tailA_block]
      exact hlt (fun e => hn (by rw [e]; simp [plF]))
  · rcases (by omega : i = 0 ∨ i = 1 ∨ i = 2) with rfl | rfl | rfl
    · exact head_news hat hP
    · intro j u hj
      have h1 := World.news_of_block (cs := #[.int .i64 ra, .int .i64 rb]) (t := 48) (fr := (0, 0)) (heap_alloc_new W _) j u hj
      exact (((Below.refl _ (W.alloc (.cells #[.int .i64 ra, .int .i64 rb] 48))).alloc (Nat.le_refl _) _).cell (by show (Addr.add ⟨W.heap.size, 0, none⟩ j).block < _; rw [add_block]; simp)).trans h1
    · exact tail_news hat hP

def A2Rel (l : List Rn) (ra rb : Int) (w : World) (iv : Value) (wr : World) : Prop :=
  ∃ i : Nat, i ≤ plU l ra ∧ iv = .int .i64 i ∧ wr.cell? ⟨w.heap.size, 0, none⟩ = some (.int .i64 ra) ∧ wr.cell? ⟨w.heap.size, 1, none⟩ = some (.int .i64 rb) ∧ Below w.heap.size w wr

set_option maxRecDepth 100000 in
set_option maxHeartbeats 2000000 in
theorem add2_any (b : Nat) (l : List Rn) (r : Rn) (w : World) (hv : RnIn w (.slice (some ⟨b, 0, none⟩) l.length l.length) l) (hm : l.length ≤ 1048576) :
    Calls Try.prog 41 #[.slice (some ⟨b, 0, none⟩) l.length l.length, .agg #[.int .i64 r.a, .int .i64 r.b]] w (RnOut (addL l r) (addOk l r) w) := by
  obtain ⟨hat, hltb⟩ := hv.at
  have Hv := Lib.hid hv; have Hat := Lib.hid hat; have Hltb := Lib.hid hltb
  clear hv hat hltb
  have hple := plU_le l r.a
  have Hpa := Lib.hid (plU_at l r.a); have Hps := Lib.hid (plU_stop l r.a)
  obtain ⟨ra, rb⟩ := r
  dsimp only at *
  have Hlen := Lib.hid (addW_len l ⟨ra, rb⟩)
  have hB0 : Below w.heap.size w (w.alloc (.cells #[.int .i64 ra, .int .i64 rb] 48)) := (Below.refl _ _).alloc (Nat.le_refl _) _
  have HB0 := Lib.hid hB0; clear hB0
  have Hc := Lib.hid (runs2_any _ l _ (Hv.out.below HB0.out) hm)
  cases hz : validU l with
  | false =>
    have hok : addOk l ⟨ra, rb⟩ = false := by unfold addOk; rw [hz]; rfl
    have hL : addL l ⟨ra, rb⟩ = [] := if_neg (by rw [hok]; simp)
    have Hk := Lib.hid (And.intro hok hL); have Hz := Lib.hid hz; clear hz hok hL
    go_enter Try.func41, Try.ntmps41
    go_wp2_with fail
    refine (Hc.out).mono ?_; rintro e w1 ⟨rfl, hb⟩
    have HB1 := Lib.hid (HB0.out.trans (hb.mono HB0.out.size)); clear hb
    rw [Hz.out]
    go_wp2
    go_ret2
    rw [Hk.out.1, Hk.out.2]
    exact RnOut.no HB1.out.size (by simp) (HB1.out.alloc HB1.out.size _)
  | true =>
    have h12 := (validU_iff.1 hz).1
    have hok : addOk l ⟨ra, rb⟩ = validU (addW l ⟨ra, rb⟩) := by unfold addOk; rw [hz]; rfl
    have hL : addL l ⟨ra, rb⟩ = if validU (addW l ⟨ra, rb⟩) = true then addW l ⟨ra, rb⟩ else [] := by unfold addL; rw [hok]
    have Hk := Lib.hid (And.intro hok hL); have Hz := Lib.hid hz; clear hz hok hL
    go_enter Try.func41, Try.ntmps41
    go_wp2_with fail
    refine (Hc.out).mono ?_; rintro e w1 ⟨rfl, hb⟩
    have q0 : w1.cell? ⟨w.heap.size, 0, none⟩ = some (.int .i64 ra) := (hb.cell (p := ⟨w.heap.size, 0, none⟩) (by simp)).trans (by go_simp)
    have q1 : w1.cell? ⟨w.heap.size, 1, none⟩ = some (.int .i64 rb) := (hb.cell (p := ⟨w.heap.size, 1, none⟩) (by simp)).trans (by go_simp)
    have HB1 := Lib.hid (HB0.out.trans (hb.mono HB0.out.size)); clear hb
    rw [Hz.out]
    go_wp2
    go_loopw [6] (fun i wr => A2Rel l ra rb w i wr) (fun i _ => l.length - (intOf i).toNat)
    case atStart => exact ⟨0, Nat.zero_le _, rfl, q0, q1, HB1.out⟩
    case round =>
      clear q0 q1
      obtain ⟨i, hi, rfl, k0, k1, hbel⟩ := hrel
      by_cases hgo : i < plU l ra
      · have hlt : (i : Int) < (l.length : Int) := by omega
        have hi0' : (0 : Int) ≤ (i : Int) := Int.natCast_nonneg _
        have hb0 := Hltb.out (fun e => by rw [e] at hlt; simp at hlt; omega)
        obtain ⟨c0, c1⟩ := (Hat.out.below hbel hb0) i (by omega)
        rw [Nat.zero_add] at c0 c1
        have hle := Hpa.out i hgo
        generalize (l.getD i rn0).a = xa at *
        generalize (l.getD i rn0).b = xb at *
        have hd : decide (xa ≤ ra) = true := by simpa using hle
        go_wp2
        go_quiet (fail)
        go_wp2
        exact ⟨⟨i + 1, hgo, by go_num, by go_simp, by go_simp, hbel.drewN _⟩, by simp [intOf]; omega⟩
      · obtain rfl : i = plU l ra := by omega
        by_cases hend : plU l ra < l.length
        · have hlt : ((plU l ra : Nat) : Int) < (l.length : Int) := by omega
          have hi0' : (0 : Int) ≤ ((plU l ra : Nat) : Int) := Int.natCast_nonneg _
          have hb0 := Hltb.out (fun e => by rw [e] at hend; exact absurd hend (Nat.not_lt_zero _))
          obtain ⟨c0, c1⟩ := (Hat.out.below hbel hb0) (plU l ra) hend
          rw [Nat.zero_add] at c0 c1
          have hle := Hps.out hend
          generalize (l.getD (plU l ra) rn0).a = xa at *
          generalize (l.getD (plU l ra) rn0).b = xb at *
          have hd : decide (xa ≤ ra) = false := by simpa using hle
          have hne : ¬ l.length = plU l ra := by omega
          clear Hpa Hps hgo hi
          go_wp2
          go_quiet (fail)
          have Hcat := Lib.hid (plF_cat l ⟨ra, rb⟩ (plU l ra) rfl)
          have HBd := Lib.hid ((hbel.drewN nq).drew)
          have Hple := Lib.hid (show plU l ra ≤ l.length by omega)
          have HBa := Lib.hid ((HBd.out.alloc HBd.out.size (.cells #[.int .i64 ra, .int .i64 rb] 48)).alloc (Nat.le_trans HBd.out.size (by simp)) (.cells #[.slice (some ⟨b, 0, none⟩) (plU l ra) l.length, .slice (some ⟨(wr.drewN nq).drew.heap.size, 0, none⟩) 1 1, .slice (some ⟨b, plU l ra * 2, none⟩) (l.length - plU l ra) (l.length - plU l ra)] 25))
          have Hszd := Lib.hid HBa.out.size
          go_wp2
          refine wp_region_any (by kernel_rfl) ?_
          change wpAny _ _ _ _ 15 #[false, false, false, false, false, false, false, false, false, false, false, false, false, false, false] _ (World.drew _)
          refine with_Q (fun _ _ _ _ _ h => h) (fun Q hQ hN => ?_)
          refine take_op (i := 0) (d := 27) (v := .slice (some ⟨b, 0, none⟩) l.length l.length) rfl rfl (by kernel_rfl) (by kernel_rfl) (by kernel_rfl) hQ (Or.inl ⟨by rfl, fun _ => by first | rfl | (go_simp; done) | (go_simp; rfl)⟩) ?_
          simp only [Act.put, List.setIfInBounds_toArray, List.set_cons_zero, List.set_cons_succ]
          refine take_op (i := 1) (d := 28) (v := .int .i64 ((plU l ra : Nat) : Int)) rfl rfl (by kernel_rfl) (by kernel_rfl) (by kernel_rfl) hQ (Or.inl ⟨by rfl, fun _ => by first | rfl | (go_simp; done) | (go_simp; rfl)⟩) ?_
          simp only [Act.put, List.setIfInBounds_toArray, List.set_cons_zero, List.set_cons_succ]
          refine take_op (i := 2) (d := 29) (v := .slice (some ⟨b, 0, none⟩) (plU l ra) l.length) rfl rfl (by kernel_rfl) (by kernel_rfl) (by kernel_rfl) hQ (Or.inl ⟨by rfl, fun _ => by first | rfl | (go_simp; done) | (go_simp; rfl)⟩) ?_
          simp only [Act.put, List.setIfInBounds_toArray, List.set_cons_zero, List.set_cons_succ]
          refine take_op (i := 5) (d := 32) (v := .slice (some ⟨b, 0, none⟩) l.length l.length) rfl rfl (by kernel_rfl) (by kernel_rfl) (by kernel_rfl) hQ (Or.inl ⟨by rfl, fun _ => by first | rfl | (go_simp; done) | (go_simp; rfl)⟩) ?_
          simp only [Act.put, List.setIfInBounds_toArray, List.set_cons_zero, List.set_cons_succ]
          refine take_op (i := 6) (d := 33) (v := .int .i64 ((plU l ra : Nat) : Int)) rfl rfl (by kernel_rfl) (by kernel_rfl) (by kernel_rfl) hQ (Or.inl ⟨by rfl, fun _ => by first | rfl | (go_simp; done) | (go_simp; rfl)⟩) ?_
          simp only [Act.put, List.setIfInBounds_toArray, List.set_cons_zero, List.set_cons_succ]
          refine take_op (i := 7) (d := 34) (v := .slice (some ⟨b, plU l ra * 2, none⟩) (l.length - plU l ra) (l.length - plU l ra)) rfl rfl (by kernel_rfl) (by kernel_rfl) (by kernel_rfl) hQ (Or.inl ⟨by rfl, fun _ => by first | rfl | (go_simp; done) | (go_simp; rfl)⟩) ?_
          simp only [Act.put, List.setIfInBounds_toArray, List.set_cons_zero, List.set_cons_succ]
          refine wpAny_ready (rs := [3]) (by kernel_rfl) (by simp) ?_
          refine AllReady.cons rfl (fun K hK => ?_) AllReady.nil
          go_simp
          refine hK _ _ ?_
          try simp only [Act.put, List.setIfInBounds_toArray, List.set_cons_zero, List.set_cons_succ]
          clear hK K
          refine wpAny_ready (rs := [4]) (by kernel_rfl) (by simp) ?_
          refine AllReady.cons rfl (fun K hK => ?_) AllReady.nil
          go_simp
          refine hK _ _ ?_
          try simp only [Act.put, List.setIfInBounds_toArray, List.set_cons_zero, List.set_cons_succ]
          clear hK K
          refine wpAny_ready (rs := [8]) (by kernel_rfl) (by simp) ?_
          refine AllReady.cons rfl (fun K hK => ?_) AllReady.nil
          go_simp
          refine hK _ _ ?_
          try simp only [Act.put, List.setIfInBounds_toArray, List.set_cons_zero, List.set_cons_succ]
          clear hK K
          have Hpt := Lib.hid (parts_mk (W := (wr.drewN nq).drew) ra rb (plU l ra) Hv.out HBd.out Hple.out)
          rw [show tailA b l.length (plU l ra) = ⟨b, plU l ra * 2, none⟩ from if_neg (by omega)] at Hpt
          refine wpAny_ready (rs := [9]) (by kernel_rfl) (by simp) ?_
          refine AllReady.cons rfl (fun K hK => ?_) AllReady.nil
          go_simp
          go_at_call 62
          refine (concat_any _ _ _ _ _ Hpt.out (by rw [Hcat.out, Hlen.out]; omega) (by rw [Hcat.out, Hlen.out]; omega)).mono ?_; rintro e w1 ⟨v, rfl, hrow, hb1⟩; rw [Hcat.out] at hrow; obtain ⟨ad, cp, rfl, hcp, hrd, hblk⟩ := hrow.row; have Hcp := Lib.hid hcp; have Hrd := Lib.hid hrd; have Hblk := Lib.hid hblk; have HB1 := Lib.hid hb1; clear hrow hcp hrd hblk hb1
          refine hK _ _ ?_
          try simp only [Act.put, List.setIfInBounds_toArray, List.set_cons_zero, List.set_cons_succ]
          clear hK K
          refine wpAny_ready (rs := [10]) (by kernel_rfl) (by simp) ?_
          refine AllReady.cons rfl (fun K hK => ?_) AllReady.nil
          go_simp
          go_at_call 61
          refine (ifU_any ad cp (addW l ⟨ra, rb⟩) _ (Hrd.out.ins Hcp.out) (by rw [Hlen.out]; omega)).mono ?_; rintro e w2 h2; have h3 := h2.out Hcp.out Hrd.out (fun j hj => ⟨Nat.le_trans Hszd.out (Hblk.out j hj).1, (Hblk.out j hj).2⟩) (HBa.out.trans (HB1.out.mono Hszd.out)); rw [← Hk.out.1, Hk.out.1, ← Hk.out.2, ← Hk.out.1] at h3; obtain ⟨ad2, cp2, rfl, h3⟩ := h3; have H3 := Lib.hid h3; clear h2 h3
          refine hK _ _ ?_
          try simp only [Act.put, List.setIfInBounds_toArray, List.set_cons_zero, List.set_cons_succ]
          clear hK K
          refine take_op (i := 11) (d := 38) (v := .slice ad2 (addL l ⟨ra, rb⟩).length cp2) rfl rfl (by kernel_rfl) (by kernel_rfl) (by kernel_rfl) hQ (Or.inl ⟨by rfl, fun _ => by first | rfl | (go_simp; done) | (go_simp; rfl)⟩) ?_
          simp only [Act.put, List.setIfInBounds_toArray, List.set_cons_zero, List.set_cons_succ]
          refine take_op (i := 12) (d := 39) (v := .bool (addOk l ⟨ra, rb⟩)) rfl rfl (by kernel_rfl) (by kernel_rfl) (by kernel_rfl) hQ (Or.inl ⟨by rfl, fun _ => by first | rfl | (go_simp; done) | (go_simp; rfl)⟩) ?_
          simp only [Act.put, List.setIfInBounds_toArray, List.set_cons_zero, List.set_cons_succ]
          refine take_op (i := 13) (d := 4) (v := .slice ad2 (addL l ⟨ra, rb⟩).length cp2) rfl rfl (by kernel_rfl) (by kernel_rfl) (by kernel_rfl) hQ (Or.inl ⟨by rfl, fun _ => by first | rfl | (go_simp; done) | (go_simp; rfl)⟩) ?_
          simp only [Act.put, List.setIfInBounds_toArray, List.set_cons_zero, List.set_cons_succ]
          refine take_op (i := 14) (d := 5) (v := .bool (addOk l ⟨ra, rb⟩)) rfl rfl (by kernel_rfl) (by kernel_rfl) (by kernel_rfl) hQ (Or.inl ⟨by rfl, fun _ => by first | rfl | (go_simp; done) | (go_simp; rfl)⟩) ?_
          simp only [Act.put, List.setIfInBounds_toArray, List.set_cons_zero, List.set_cons_succ]
          refine wpAny_done (by kernel_rfl) (hN _ _ ?_) _
          go_wp2
          go_ret2
          exact ⟨ad2, cp2, rfl, H3.out⟩
        · have hpl : plU l ra = l.length := by omega
          clear Hpa Hps hgo hi hend hple
          rw [hpl]
          go_wp2
          go_quiet (fail)
          have Hcat := Lib.hid (plF_cat l ⟨ra, rb⟩ (l.length) hpl.symm)
          have HBd := Lib.hid ((hbel.drewN nq).drew)
          have Hple := Lib.hid (show l.length ≤ l.length by omega)
          have HBa := Lib.hid ((HBd.out.alloc HBd.out.size (.cells #[.int .i64 ra, .int .i64 rb] 48)).alloc (Nat.le_trans HBd.out.size (by simp)) (.cells #[.slice (some ⟨b, 0, none⟩) (l.length) l.length, .slice (some ⟨(wr.drewN nq).drew.heap.size, 0, none⟩) 1 1, .slice (some ⟨b, 0, none⟩) 0 0] 25))
          have Hszd := Lib.hid HBa.out.size
          go_wp2
          refine wp_region_any (by kernel_rfl) ?_
          change wpAny _ _ _ _ 15 #[false, false, false, false, false, false, false, false, false, false, false, false, false, false, false] _ (World.drew _)
          refine with_Q (fun _ _ _ _ _ h => h) (fun Q hQ hN => ?_)
          refine take_op (i := 0) (d := 27) (v := .slice (some ⟨b, 0, none⟩) l.length l.length) rfl rfl (by kernel_rfl) (by kernel_rfl) (by kernel_rfl) hQ (Or.inl ⟨by rfl, fun _ => by first | rfl | (go_simp; done) | (go_simp; rfl)⟩) ?_
          simp only [Act.put, List.setIfInBounds_toArray, List.set_cons_zero, List.set_cons_succ]
          refine take_op (i := 1) (d := 28) (v := .int .i64 ((l.length : Nat) : Int)) rfl rfl (by kernel_rfl) (by kernel_rfl) (by kernel_rfl) hQ (Or.inl ⟨by rfl, fun _ => by first | rfl | (go_simp; done) | (go_simp; rfl)⟩) ?_
          simp only [Act.put, List.setIfInBounds_toArray, List.set_cons_zero, List.set_cons_succ]
          refine take_op (i := 2) (d := 29) (v := .slice (some ⟨b, 0, none⟩) (l.length) l.length) rfl rfl (by kernel_rfl) (by kernel_rfl) (by kernel_rfl) hQ (Or.inl ⟨by rfl, fun _ => by first | rfl | (go_simp; done) | (go_simp; rfl)⟩) ?_
          simp only [Act.put, List.setIfInBounds_toArray, List.set_cons_zero, List.set_cons_succ]
          refine take_op (i := 5) (d := 32) (v := .slice (some ⟨b, 0, none⟩) l.length l.length) rfl rfl (by kernel_rfl) (by kernel_rfl) (by kernel_rfl) hQ (Or.inl ⟨by rfl, fun _ => by first | rfl | (go_simp; done) | (go_simp; rfl)⟩) ?_
          simp only [Act.put, List.setIfInBounds_toArray, List.set_cons_zero, List.set_cons_succ]
          refine take_op (i := 6) (d := 33) (v := .int .i64 ((l.length : Nat) : Int)) rfl rfl (by kernel_rfl) (by kernel_rfl) (by kernel_rfl) hQ (Or.inl ⟨by rfl, fun _ => by first | rfl | (go_simp; done) | (go_simp; rfl)⟩) ?_
          simp only [Act.put, List.setIfInBounds_toArray, List.set_cons_zero, List.set_cons_succ]
          refine take_op (i := 7) (d := 34) (v := .slice (some ⟨b, 0, none⟩) 0 0) rfl rfl (by kernel_rfl) (by kernel_rfl) (by kernel_rfl) hQ (Or.inl ⟨by rfl, fun _ => by first | rfl | (go_simp; done) | (go_simp; rfl)⟩) ?_
          simp only [Act.put, List.setIfInBounds_toArray, List.set_cons_zero, List.set_cons_succ]
          refine wpAny_ready (rs := [3]) (by kernel_rfl) (by simp) ?_
          refine AllReady.cons rfl (fun K hK => ?_) AllReady.nil
          go_simp
          refine hK _ _ ?_
          try simp only [Act.put, List.setIfInBounds_toArray, List.set_cons_zero, List.set_cons_succ]
          clear hK K
          refine wpAny_ready (rs := [4]) (by kernel_rfl) (by simp) ?_
          refine AllReady.cons rfl (fun K hK => ?_) AllReady.nil
          go_simp
          refine hK _ _ ?_
          try simp only [Act.put, List.setIfInBounds_toArray, List.set_cons_zero, List.set_cons_succ]
          clear hK K
          refine wpAny_ready (rs := [8]) (by kernel_rfl) (by simp) ?_
          refine AllReady.cons rfl (fun K hK => ?_) AllReady.nil
          go_simp
          refine hK _ _ ?_
          try simp only [Act.put, List.setIfInBounds_toArray, List.set_cons_zero, List.set_cons_succ]
          clear hK K
          have Hpt := Lib.hid (parts_mk (W := (wr.drewN nq).drew) ra rb (l.length) Hv.out HBd.out Hple.out)
          rw [show tailA b l.length l.length = ⟨b, 0, none⟩ from if_pos rfl, Nat.sub_self] at Hpt
          refine wpAny_ready (rs := [9]) (by kernel_rfl) (by simp) ?_
          refine AllReady.cons rfl (fun K hK => ?_) AllReady.nil
          go_simp
          go_at_call 62
          refine (concat_any _ _ _ _ _ Hpt.out (by rw [Hcat.out, Hlen.out]; omega) (by rw [Hcat.out, Hlen.out]; omega)).mono ?_; rintro e w1 ⟨v, rfl, hrow, hb1⟩; rw [Hcat.out] at hrow; obtain ⟨ad, cp, rfl, hcp, hrd, hblk⟩ := hrow.row; have Hcp := Lib.hid hcp; have Hrd := Lib.hid hrd; have Hblk := Lib.hid hblk; have HB1 := Lib.hid hb1; clear hrow hcp hrd hblk hb1
          refine hK _ _ ?_
          try simp only [Act.put, List.setIfInBounds_toArray, List.set_cons_zero, List.set_cons_succ]
          clear hK K
          refine wpAny_ready (rs := [10]) (by kernel_rfl) (by simp) ?_
          refine AllReady.cons rfl (fun K hK => ?_) AllReady.nil
          go_simp
          go_at_call 61
          refine (ifU_any ad cp (addW l ⟨ra, rb⟩) _ (Hrd.out.ins Hcp.out) (by rw [Hlen.out]; omega)).mono ?_; rintro e w2 h2; have h3 := h2.out Hcp.out Hrd.out (fun j hj => ⟨Nat.le_trans Hszd.out (Hblk.out j hj).1, (Hblk.out j hj).2⟩) (HBa.out.trans (HB1.out.mono Hszd.out)); rw [← Hk.out.1, Hk.out.1, ← Hk.out.2, ← Hk.out.1] at h3; obtain ⟨ad2, cp2, rfl, h3⟩ := h3; have H3 := Lib.hid h3; clear h2 h3
          refine hK _ _ ?_
          try simp only [Act.put, List.setIfInBounds_toArray, List.set_cons_zero, List.set_cons_succ]
          clear hK K
          refine take_op (i := 11) (d := 38) (v := .slice ad2 (addL l ⟨ra, rb⟩).length cp2) rfl rfl (by kernel_rfl) (by kernel_rfl) (by kernel_rfl) hQ (Or.inl ⟨by rfl, fun _ => by first | rfl | (go_simp; done) | (go_simp; rfl)⟩) ?_
          simp only [Act.put, List.setIfInBounds_toArray, List.set_cons_zero, List.set_cons_succ]
          refine take_op (i := 12) (d := 39) (v := .bool (addOk l ⟨ra, rb⟩)) rfl rfl (by kernel_rfl) (by kernel_rfl) (by kernel_rfl) hQ (Or.inl ⟨by rfl, fun _ => by first | rfl | (go_simp; done) | (go_simp; rfl)⟩) ?_
          simp only [Act.put, List.setIfInBounds_toArray, List.set_cons_zero, List.set_cons_succ]
          refine take_op (i := 13) (d := 4) (v := .slice ad2 (addL l ⟨ra, rb⟩).length cp2) rfl rfl (by kernel_rfl) (by kernel_rfl) (by kernel_rfl) hQ (Or.inl ⟨by rfl, fun _ => by first | rfl | (go_simp; done) | (go_simp; rfl)⟩) ?_
          simp only [Act.put, List.setIfInBounds_toArray, List.set_cons_zero, List.set_cons_succ]
          refine take_op (i := 14) (d := 5) (v := .bool (addOk l ⟨ra, rb⟩)) rfl rfl (by kernel_rfl) (by kernel_rfl) (by kernel_rfl) hQ (Or.inl ⟨by rfl, fun _ => by first | rfl | (go_simp; done) | (go_simp; rfl)⟩) ?_
          simp only [Act.put, List.setIfInBounds_toArray, List.set_cons_zero, List.set_cons_succ]
          refine wpAny_done (by kernel_rfl) (hN _ _ ?_) _
          go_wp2
          go_ret2
          exact ⟨ad2, cp2, rfl, H3.out⟩

end Go.Proofs.Ytmcapcclnkicbaa
