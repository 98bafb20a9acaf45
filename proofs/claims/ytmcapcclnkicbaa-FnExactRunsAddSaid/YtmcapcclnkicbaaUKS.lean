/- RunsAdd of the model. -/
import Derived.Test.YtmcapcclnkicbaaUK
namespace Go.Proofs.Ytmcapcclnkicbaa
open Go.RowKit

theorem RnIn.at {w : World} {b : Nat} {l : List Rn} {cap : Nat} (h : RnIn w (.slice (some ⟨b, 0, none⟩) l.length cap) l) : RnAt w b 0 l ∧ (l ≠ [] → b < w.heap.size) := by
  obtain ⟨a, c, he, _, ha⟩ := h
  by_cases hl : l = []
  · subst hl; exact ⟨fun i hi => by simp at hi, fun h => absurd rfl h⟩
  · obtain ⟨b', o, rfl, hlt, hr⟩ := ha hl
    cases he
    exact ⟨hr, fun _ => hlt⟩

/-- The address behind the first f of n runs, as s[f:] has it. -/
def tailA (b n f : Nat) : Addr := if n = f then ⟨b, 0, none⟩ else ⟨b, f * 2, none⟩
theorem tail_is (b n f : Nat) : sliced (some ⟨b, 0, none⟩) f n n 2 = .slice (some (tailA b n f)) (n - f) (n - f) := by
  unfold sliced tailA
  by_cases h : n = f
  · rw [if_pos h, if_pos h]
  · rw [if_neg h, if_neg h]
    simp [Addr.add]
    intro h0; exact h0.symm
theorem tail_news {w : World} {b : Nat} {l : List Rn} (h : RnAt w b 0 l) {f : Nat} (hf : f ≤ l.length) : ∀ j u, (encRn (l.drop f))[j]? = some u → w.cell? ((tailA b l.length f).add j) = some u := by
  intro j u hj
  by_cases e : l.length = f
  · rw [List.drop_eq_nil_of_le (by omega)] at hj; simp [encRn] at hj
  · unfold tailA; rw [if_neg e]
    have h2 := h.news (f := f) (n := l.length - f) (by omega) j u (by rw [List.take_of_length_le (by simp)]; exact hj)
    simpa using h2
theorem head_news {w : World} {b : Nat} {l : List Rn} (h : RnAt w b 0 l) {n : Nat} (hn : n ≤ l.length) : ∀ j u, (encRn (l.take n))[j]? = some u → w.cell? ((⟨b, 0, none⟩ : Addr).add j) = some u := by
  intro j u hj
  have h2 := h.news (f := 0) (n := n) (by omega) j u (by simpa using hj)
  simpa using h2

def A1Rel (l : List Rn) (ra rb : Int) (w : World) (iv : Value) (wr : World) : Prop :=
  ∃ i : Nat, i ≤ plU l ra ∧ iv = .int .i64 i ∧ wr.cell? ⟨w.heap.size, 0, none⟩ = some (.int .i64 ra) ∧ wr.cell? ⟨w.heap.size, 1, none⟩ = some (.int .i64 rb) ∧ wr.heap.size = w.heap.size + 1 ∧ Below w.heap.size w wr

set_option maxRecDepth 100000 in
set_option maxHeartbeats 1600000 in
theorem add1_any (b : Nat) (l : List Rn) (r : Rn) (w : World) (hv : RnIn w (.slice (some ⟨b, 0, none⟩) l.length l.length) l) (hm : l.length ≤ 1048576) :
    Calls Try.prog 39 #[.slice (some ⟨b, 0, none⟩) l.length l.length, .agg #[.int .i64 r.a, .int .i64 r.b]] w (RnOut (addL l r) (addOk l r) w) := by
  obtain ⟨i0, hi0, hz0, hz1, hz2⟩ := info_parts infoRn
  obtain ⟨hat, hltb⟩ := hv.at
  have Hv := Lib.hid hv; have Hat := Lib.hid hat; have Hltb := Lib.hid hltb
  clear hv hat hltb
  have hple := plU_le l r.a
  have Hpa := Lib.hid (plU_at l r.a); have Hps := Lib.hid (plU_stop l r.a)
  obtain ⟨ra, rb⟩ := r
  dsimp only at *
  go_enter Try.func39, Try.ntmps39
  go_wp2
  go_loopw [6] (fun i wr => A1Rel l ra rb w i wr) (fun i _ => l.length - (intOf i).toNat)
  case atStart => exact ⟨0, Nat.zero_le _, rfl, by go_simp, by go_simp, by simp, (Below.refl _ _).alloc (Nat.le_refl _) _⟩
  case round =>
    obtain ⟨i, hi, rfl, k0, k1, hsz, hbel⟩ := hrel
    by_cases hgo : i < plU l ra
    · have hlt : (i : Int) < (l.length : Int) := by omega
      have hi0' : (0 : Int) ≤ (i : Int) := Int.natCast_nonneg _
      have hb0 := Hltb.out (fun e => by rw [e] at hlt; simp at hlt; omega)
      obtain ⟨c0, c1⟩ := (Hat.out.below hbel hb0) i (by omega)
      rw [Nat.zero_add] at c0 c1
      have hle := Hpa.out i hgo
      generalize (l.getD i rn0).a = xa at *
      generalize (l.getD i rn0).b = xb at *
      have hd : decide (xa ≤ ra) = true := by simpa using hle
      go_wp2
      go_quiet (fail)
      go_wp2
      exact ⟨⟨i + 1, hgo, by go_num, by go_simp, by go_simp, by simp; exact hsz, hbel.drewN _⟩, by simp [intOf]; omega⟩
    · obtain rfl : i = plU l ra := by omega
      by_cases hend : plU l ra < l.length
      · have hlt : ((plU l ra : Nat) : Int) < (l.length : Int) := by omega
        have hi0' : (0 : Int) ≤ ((plU l ra : Nat) : Int) := Int.natCast_nonneg _
        have hb0 := Hltb.out (fun e => by rw [e] at hend; exact absurd hend (Nat.not_lt_zero _))
        obtain ⟨c0, c1⟩ := (Hat.out.below hbel hb0) (plU l ra) hend
        rw [Nat.zero_add] at c0 c1
        have hle := Hps.out hend
        generalize (l.getD (plU l ra) rn0).a = xa at *
        generalize (l.getD (plU l ra) rn0).b = xb at *
        have hd : decide (xa ≤ ra) = false := by simpa using hle
        have hne : ¬ l.length = plU l ra := by omega
        clear Hpa Hps hgo hi
        go_wp2
        go_quiet (fail)
        have htl : (l.take (plU l ra)).length = plU l ra := by simp <;> omega
        have hdl : (l.drop (plU l ra)).length = l.length - plU l ra := by simp
        have hl2 : (l.take (plU l ra) ++ [(⟨ra, rb⟩ : Rn)]).length = plU l ra + 1 := by rw [List.length_append, htl]; rfl
        have Hadd := Lib.hid (show addW l ⟨ra, rb⟩ = l.take (plU l ra) ++ [⟨ra, rb⟩] ++ l.drop (plU l ra) from rfl)
        have Hb := Lib.hid hbel
        have Hnew1 := Lib.hid (fun k => head_news (Hv.out.below ((hbel.drewN k).alloc (by simp; omega) (.cells #[] 48))).at.1 (show plU l ra ≤ l.length by omega))
        have own0 : ∀ k, ((wr.drewN k).alloc (.cells #[] 48)).ownsRow (w.heap.size + 1) 48 2 (.slice (some ⟨w.heap.size + 1, 0, none⟩) 0 0) 0 (encRn []) := fun k => by
          have h := RowRn.made (wr.drewN k) (w.heap.size + 1) (by simp; omega)
          rw [show (wr.drewN k).heap.size = w.heap.size + 1 from hsz] at h
          exact h
        have Hown0 := Lib.hid own0; clear own0
        have Hr1 := Lib.hid (show ∀ v1 w1, World.ownsRow w1 (w.heap.size + 1) 48 2 v1 (0 + plU l ra) (encRn [] ++ encRn (l.take (plU l ra))) → World.ownsRow w1 (w.heap.size + 1) 48 2 v1 (plU l ra) (encRn (l.take (plU l ra))) from fun v1 w1 h => by rw [Nat.zero_add] at h; exact h)
        have Hr2 := Lib.hid (show ∀ v2 w2, World.ownsRow w2 (w.heap.size + 1) 48 2 v2 (plU l ra + 1) (encRn (l.take (plU l ra)) ++ [.int .i64 ra, .int .i64 rb]) → World.ownsRow w2 (w.heap.size + 1) 48 2 v2 (plU l ra + 1) (encRn (l.take (plU l ra) ++ [⟨ra, rb⟩])) from fun v2 w2 h => by rw [encRn_snoc]; exact h)
        have Hr3 := Lib.hid (show ∀ v3 w3, World.ownsRow w3 (w.heap.size + 1) 48 2 v3 (plU l ra + 1 + (l.length - plU l ra)) (encRn (l.take (plU l ra) ++ [⟨ra, rb⟩]) ++ encRn (l.drop (plU l ra))) → RowRn w3 (w.heap.size + 1) v3 (addW l ⟨ra, rb⟩) from fun v3 w3 h => by rw [Hadd.out]; exact RowRn.more (by rw [hl2, hdl]; exact h))
        have Hn3 := Lib.hid (fun w2 (h : Below w.heap.size w w2) => (by have h := tail_news (Hv.out.below h).at.1 (show plU l ra ≤ l.length by omega); unfold tailA at h; rw [if_neg (by omega)] at h; exact h))
        clear hbel
        go_wp2_with (at_builtin; first | (refine wpList_append_own _ rfl _ _ 25 rfl (w.heap.size + 1) 48 i0 _ 2 16 Try.underlying25 hi0 hz0 hz1 hz2 rfl (by omega) _ _ (encRn []) rfl (Hown0.out _) ⟨b, 0, none⟩ (plU l ra) (l.length) (encRn (l.take (plU l ra))) rfl (by rw [encRn_len, htl]) (Hnew1.out _) (encRn_one _) (by unfold maxLen; omega) (by omega) (by first | omega | (simp; omega)) ?_; intro v1 w1 hown1 hgrow1 _; have B1 : Below (w.heap.size + 1) wr w1 := (((Below.refl _ wr).drewN _).alloc (by simp; omega) _).grown hgrow1 (by simp; omega) (fun j hj => ((Hown0.out 0).lt j hj).1); have k0' := (B1.cell (p := ⟨w.heap.size, 0, none⟩) (by simp)).trans k0; have k1' := (B1.cell (p := ⟨w.heap.size, 1, none⟩) (by simp)).trans k1; have hr1 := Hr1.out _ _ hown1; have hs1 := B1.size; have HB1 := Lib.hid (Hb.out.trans (B1.mono (by omega))); clear hown1 hgrow1 B1 k0 k1) | (refine wpList_append_own _ rfl _ _ 25 rfl (w.heap.size + 1) 48 i0 _ 2 16 Try.underlying25 hi0 hz0 hz1 hz2 rfl (by omega) _ _ (encRn (l.take (plU l ra))) rfl (World.ownsRow.alloc hr1 _) ⟨w1.heap.size, 0, none⟩ (1) (1) ([.int .i64 ra, .int .i64 rb]) rfl (rfl) (World.news_of_block (cs := #[.int .i64 ra, .int .i64 rb]) (t := 48) (fr := (0, 0)) (heap_alloc_new w1 _)) (by simp [Value.oneCell']) (by unfold maxLen; omega) (by omega) (by first | omega | (simp; omega)) ?_; intro v2 w2 hown2 hgrow2 _; have B2 : Below (w.heap.size + 1) w1 w2 := ((Below.refl _ w1).alloc (by omega) _).grown hgrow2 (by simp; omega) (fun j hj => (World.ownsRow.lt hr1 j hj).1); have hr2 := Hr2.out _ _ hown2; have hs2 := B2.size; have HB2 := Lib.hid (HB1.out.trans (B2.mono (by omega))); clear hown2 hgrow2 B2 hr1 k0' k1'; have Hnew3 := Lib.hid (Hn3.out _ HB2.out)) | (refine wpList_append_own _ rfl _ _ 25 rfl (w.heap.size + 1) 48 i0 _ 2 16 Try.underlying25 hi0 hz0 hz1 hz2 rfl (by omega) _ _ (encRn (l.take (plU l ra) ++ [(⟨ra, rb⟩ : Rn)])) rfl hr2 ⟨b, plU l ra * 2, none⟩ ((l.length - plU l ra)) ((l.length - plU l ra)) (encRn (l.drop (plU l ra))) rfl (by rw [encRn_len, hdl]) Hnew3.out (encRn_one _) (by unfold maxLen; omega) (by omega) (by first | omega | (simp; omega)) ?_; intro v3 w3 hown3 hgrow3 _; have B3 : Below (w.heap.size + 1) w2 w3 := (Below.refl _ w2).grown hgrow3 (by omega) (fun j hj => (World.ownsRow.lt hr2 j hj).1); have hr3 := Hr3.out _ _ hown3; have HB3 := Lib.hid (HB2.out.trans (B3.mono (by omega))); have hs3 := B3.size; clear hown3 hgrow3 B3 hr2 Hnew3))
        obtain ⟨ad, cp, rfl, hcp, hrd, hblk⟩ := hr3.row
        have Hrd := Lib.hid hrd; have Hblk := Lib.hid hblk; have Hcp := Lib.hid hcp
        clear hr3 hrd hblk hcp
        have Hlen := Lib.hid (addW_len l ⟨ra, rb⟩)
        cases hz : validU l with
        | false =>
          have hok : addOk l ⟨ra, rb⟩ = false := by unfold addOk; rw [hz]; rfl
          have hL : addL l ⟨ra, rb⟩ = [] := if_neg (by rw [hok]; simp)
          have Hk := Lib.hid (And.intro hok hL); have Hz := Lib.hid hz; clear hz hok hL
          go_wp2_with fail
          refine (runs1_is _ l _ (Hv.out.below HB3.out) hm Hz.out).mono ?_; rintro e w4 ⟨rfl, hb4⟩
          have hb4' := Drewn.below hb4
          have HB4 := Lib.hid (HB3.out.trans (hb4'.mono HB3.out.size))
          clear hb4 hb4'
          go_wp2
          go_ret2
          rw [Hk.out.1, Hk.out.2]
          exact RnOut.no HB4.out.size (by simp) (HB4.out.alloc HB4.out.size _)
        | true =>
          have h12 := (validU_iff.1 hz).1
          cases hy : validU (addW l ⟨ra, rb⟩) with
          | false =>
            have hok : addOk l ⟨ra, rb⟩ = false := by unfold addOk; rw [hz, hy]; rfl
            have hL : addL l ⟨ra, rb⟩ = [] := if_neg (by rw [hok]; simp)
            have Hk := Lib.hid (And.intro hok hL); have Hz := Lib.hid hz; have Hy := Lib.hid hy; clear hz hy hok hL
            go_wp2_with fail
            refine (runs1_is _ l _ (Hv.out.below HB3.out) hm Hz.out).mono ?_; rintro e w4 ⟨rfl, hb4⟩
            have hb4' := Drewn.below hb4
            have HB4 := Lib.hid (HB3.out.trans (hb4'.mono HB3.out.size))
            have Hr4 := Lib.hid (Hrd.out.below hb4')
            clear hb4 hb4'
            go_wp2_with fail
            refine (runs1_is _ (addW l ⟨ra, rb⟩) _ (Hr4.out.ins Hcp.out) (by rw [Hlen.out]; omega) Hy.out).mono ?_; rintro e w5 ⟨rfl, hb5⟩
            have hb5' := Drewn.below hb5
            have HB5 := Lib.hid (HB4.out.trans (hb5'.mono HB4.out.size))
            clear hb5 hb5'
            go_wp2
            go_ret2
            rw [Hk.out.1, Hk.out.2]
            exact RnOut.no HB5.out.size (by simp) (HB5.out.alloc HB5.out.size _)
          | true =>
            have hok : addOk l ⟨ra, rb⟩ = true := by unfold addOk; rw [hz, hy]; rfl
            have hL : addL l ⟨ra, rb⟩ = addW l ⟨ra, rb⟩ := if_pos hok
            have Hk := Lib.hid (And.intro hok hL); have Hz := Lib.hid hz; have Hy := Lib.hid hy; clear hz hy hok hL
            go_wp2_with fail
            refine (runs1_is _ l _ (Hv.out.below HB3.out) hm Hz.out).mono ?_; rintro e w4 ⟨rfl, hb4⟩
            have hb4' := Drewn.below hb4
            have HB4 := Lib.hid (HB3.out.trans (hb4'.mono HB3.out.size))
            have Hr4 := Lib.hid (Hrd.out.below hb4')
            have Hs4 := Lib.hid hb4'.size
            clear hb4 hb4'
            go_wp2_with fail
            refine (runs1_is _ (addW l ⟨ra, rb⟩) _ (Hr4.out.ins Hcp.out) (by rw [Hlen.out]; omega) Hy.out).mono ?_; rintro e w5 ⟨rfl, hb5⟩
            have hb5' := Drewn.below hb5
            have HB5 := Lib.hid (HB4.out.trans (hb5'.mono HB4.out.size))
            have Hr5 := Lib.hid (Hr4.out.below hb5')
            have Hs5 := Lib.hid (Nat.le_trans Hs4.out hb5'.size)
            clear hb5 hb5'
            go_wp2
            go_ret2
            rw [Hk.out.1, Hk.out.2]
            exact ⟨ad, cp, rfl, Hcp.out, Hr5.out, fun j hj => ⟨Nat.le_of_succ_le (Hblk.out j hj).1, Nat.lt_of_lt_of_le (Hblk.out j hj).2 Hs5.out⟩, HB5.out⟩
      · have hpl : plU l ra = l.length := by omega
        clear Hpa Hps hgo hi hend hple
        rw [hpl]
        go_wp2
        go_quiet (fail)
        have htl : (l.take (l.length)).length = l.length := by simp <;> omega
        have hdl : (l.drop (l.length)).length = l.length - l.length := by simp
        have hl2 : (l.take (l.length) ++ [(⟨ra, rb⟩ : Rn)]).length = l.length + 1 := by rw [List.length_append, htl]; rfl
        have Hadd := Lib.hid (show addW l ⟨ra, rb⟩ = l.take (l.length) ++ [⟨ra, rb⟩] ++ l.drop (l.length) from by unfold addW; rw [hpl])
        have Hb := Lib.hid hbel
        have Hnew1 := Lib.hid (fun k => head_news (Hv.out.below ((hbel.drewN k).alloc (by simp; omega) (.cells #[] 48))).at.1 (show l.length ≤ l.length by omega))
        have own0 : ∀ k, ((wr.drewN k).alloc (.cells #[] 48)).ownsRow (w.heap.size + 1) 48 2 (.slice (some ⟨w.heap.size + 1, 0, none⟩) 0 0) 0 (encRn []) := fun k => by
          have h := RowRn.made (wr.drewN k) (w.heap.size + 1) (by simp; omega)
          rw [show (wr.drewN k).heap.size = w.heap.size + 1 from hsz] at h
          exact h
        have Hown0 := Lib.hid own0; clear own0
        have Hr1 := Lib.hid (show ∀ v1 w1, World.ownsRow w1 (w.heap.size + 1) 48 2 v1 (0 + l.length) (encRn [] ++ encRn (l.take (l.length))) → World.ownsRow w1 (w.heap.size + 1) 48 2 v1 (l.length) (encRn (l.take (l.length))) from fun v1 w1 h => by rw [Nat.zero_add] at h; exact h)
        have Hr2 := Lib.hid (show ∀ v2 w2, World.ownsRow w2 (w.heap.size + 1) 48 2 v2 (l.length + 1) (encRn (l.take (l.length)) ++ [.int .i64 ra, .int .i64 rb]) → World.ownsRow w2 (w.heap.size + 1) 48 2 v2 (l.length + 1) (encRn (l.take (l.length) ++ [⟨ra, rb⟩])) from fun v2 w2 h => by rw [encRn_snoc]; exact h)
        have Hr3 := Lib.hid (show ∀ v3 w3, World.ownsRow w3 (w.heap.size + 1) 48 2 v3 (l.length + 1 + 0) (encRn (l.take (l.length) ++ [⟨ra, rb⟩]) ++ encRn (l.drop (l.length))) → RowRn w3 (w.heap.size + 1) v3 (addW l ⟨ra, rb⟩) from fun v3 w3 h => by rw [Hadd.out]; exact RowRn.more (by rw [hl2, hdl]; simp only [Nat.sub_self]; exact h))
        have Hn3 := Lib.hid (fun w2 (h : Below w.heap.size w w2) => (by have h := tail_news (Hv.out.below h).at.1 (show l.length ≤ l.length by omega); unfold tailA at h; rw [if_pos rfl] at h; exact h))
        clear hbel
        go_wp2_with (at_builtin; first | (refine wpList_append_own _ rfl _ _ 25 rfl (w.heap.size + 1) 48 i0 _ 2 16 Try.underlying25 hi0 hz0 hz1 hz2 rfl (by omega) _ _ (encRn []) rfl (Hown0.out _) ⟨b, 0, none⟩ (l.length) (l.length) (encRn (l.take (l.length))) rfl (by rw [encRn_len, htl]) (Hnew1.out _) (encRn_one _) (by unfold maxLen; omega) (by omega) (by first | omega | (simp; omega)) ?_; intro v1 w1 hown1 hgrow1 _; have B1 : Below (w.heap.size + 1) wr w1 := (((Below.refl _ wr).drewN _).alloc (by simp; omega) _).grown hgrow1 (by simp; omega) (fun j hj => ((Hown0.out 0).lt j hj).1); have k0' := (B1.cell (p := ⟨w.heap.size, 0, none⟩) (by simp)).trans k0; have k1' := (B1.cell (p := ⟨w.heap.size, 1, none⟩) (by simp)).trans k1; have hr1 := Hr1.out _ _ hown1; have hs1 := B1.size; have HB1 := Lib.hid (Hb.out.trans (B1.mono (by omega))); clear hown1 hgrow1 B1 k0 k1) | (refine wpList_append_own _ rfl _ _ 25 rfl (w.heap.size + 1) 48 i0 _ 2 16 Try.underlying25 hi0 hz0 hz1 hz2 rfl (by omega) _ _ (encRn (l.take (l.length))) rfl (World.ownsRow.alloc hr1 _) ⟨w1.heap.size, 0, none⟩ (1) (1) ([.int .i64 ra, .int .i64 rb]) rfl (rfl) (World.news_of_block (cs := #[.int .i64 ra, .int .i64 rb]) (t := 48) (fr := (0, 0)) (heap_alloc_new w1 _)) (by simp [Value.oneCell']) (by unfold maxLen; omega) (by omega) (by first | omega | (simp; omega)) ?_; intro v2 w2 hown2 hgrow2 _; have B2 : Below (w.heap.size + 1) w1 w2 := ((Below.refl _ w1).alloc (by omega) _).grown hgrow2 (by simp; omega) (fun j hj => (World.ownsRow.lt hr1 j hj).1); have hr2 := Hr2.out _ _ hown2; have hs2 := B2.size; have HB2 := Lib.hid (HB1.out.trans (B2.mono (by omega))); clear hown2 hgrow2 B2 hr1 k0' k1'; have Hnew3 := Lib.hid (Hn3.out _ HB2.out)) | (refine wpList_append_own _ rfl _ _ 25 rfl (w.heap.size + 1) 48 i0 _ 2 16 Try.underlying25 hi0 hz0 hz1 hz2 rfl (by omega) _ _ (encRn (l.take (l.length) ++ [(⟨ra, rb⟩ : Rn)])) rfl hr2 ⟨b, 0, none⟩ (0) (0) (encRn (l.drop (l.length))) rfl (by rw [encRn_len, hdl]; simp) Hnew3.out (encRn_one _) (by unfold maxLen; omega) (by omega) (by first | omega | (simp; omega)) ?_; intro v3 w3 hown3 hgrow3 _; have B3 : Below (w.heap.size + 1) w2 w3 := (Below.refl _ w2).grown hgrow3 (by omega) (fun j hj => (World.ownsRow.lt hr2 j hj).1); have hr3 := Hr3.out _ _ hown3; have HB3 := Lib.hid (HB2.out.trans (B3.mono (by omega))); have hs3 := B3.size; clear hown3 hgrow3 B3 hr2 Hnew3))
        obtain ⟨ad, cp, rfl, hcp, hrd, hblk⟩ := hr3.row
        have Hrd := Lib.hid hrd; have Hblk := Lib.hid hblk; have Hcp := Lib.hid hcp
        clear hr3 hrd hblk hcp
        have Hlen := Lib.hid (addW_len l ⟨ra, rb⟩)
        cases hz : validU l with
        | false =>
          have hok : addOk l ⟨ra, rb⟩ = false := by unfold addOk; rw [hz]; rfl
          have hL : addL l ⟨ra, rb⟩ = [] := if_neg (by rw [hok]; simp)
          have Hk := Lib.hid (And.intro hok hL); have Hz := Lib.hid hz; clear hz hok hL
          go_wp2_with fail
          refine (runs1_is _ l _ (Hv.out.below HB3.out) hm Hz.out).mono ?_; rintro e w4 ⟨rfl, hb4⟩
          have hb4' := Drewn.below hb4
          have HB4 := Lib.hid (HB3.out.trans (hb4'.mono HB3.out.size))
          clear hb4 hb4'
          go_wp2
          go_ret2
          rw [Hk.out.1, Hk.out.2]
          exact RnOut.no HB4.out.size (by simp) (HB4.out.alloc HB4.out.size _)
        | true =>
          have h12 := (validU_iff.1 hz).1
          cases hy : validU (addW l ⟨ra, rb⟩) with
          | false =>
            have hok : addOk l ⟨ra, rb⟩ = false := by unfold addOk; rw [hz, hy]; rfl
            have hL : addL l ⟨ra, rb⟩ = [] := if_neg (by rw [hok]; simp)
            have Hk := Lib.hid (And.intro hok hL); have Hz := Lib.hid hz; have Hy := Lib.hid hy; clear hz hy hok hL
            go_wp2_with fail
            refine (runs1_is _ l _ (Hv.out.below HB3.out) hm Hz.out).mono ?_; rintro e w4 ⟨rfl, hb4⟩
            have hb4' := Drewn.below hb4
            have HB4 := Lib.hid (HB3.out.trans (hb4'.mono HB3.out.size))
            have Hr4 := Lib.hid (Hrd.out.below hb4')
            clear hb4 hb4'
            go_wp2_with fail
            refine (runs1_is _ (addW l ⟨ra, rb⟩) _ (Hr4.out.ins Hcp.out) (by rw [Hlen.out]; omega) Hy.out).mono ?_; rintro e w5 ⟨rfl, hb5⟩
            have hb5' := Drewn.below hb5
            have HB5 := Lib.hid (HB4.out.trans (hb5'.mono HB4.out.size))
            clear hb5 hb5'
            go_wp2
            go_ret2
            rw [Hk.out.1, Hk.out.2]
            exact RnOut.no HB5.out.size (by simp) (HB5.out.alloc HB5.out.size _)
          | true =>
            have hok : addOk l ⟨ra, rb⟩ = true := by unfold addOk; rw [hz, hy]; rfl
            have hL : addL l ⟨ra, rb⟩ = addW l ⟨ra, rb⟩ := if_pos hok
            have Hk := Lib.hid (And.intro hok hL); have Hz := Lib.hid hz; have Hy := Lib.hid hy; clear hz hy hok hL
            go_wp2_with fail
            refine (runs1_is _ l _ (Hv.out.below HB3.out) hm Hz.out).mono ?_; rintro e w4 ⟨rfl, hb4⟩
            have hb4' := Drewn.below hb4
            have HB4 := Lib.hid (HB3.out.trans (hb4'.mono HB3.out.size))
            have Hr4 := Lib.hid (Hrd.out.below hb4')
            have Hs4 := Lib.hid hb4'.size
            clear hb4 hb4'
            go_wp2_with fail
            refine (runs1_is _ (addW l ⟨ra, rb⟩) _ (Hr4.out.ins Hcp.out) (by rw [Hlen.out]; omega) Hy.out).mono ?_; rintro e w5 ⟨rfl, hb5⟩
            have hb5' := Drewn.below hb5
            have HB5 := Lib.hid (HB4.out.trans (hb5'.mono HB4.out.size))
            have Hr5 := Lib.hid (Hr4.out.below hb5')
            have Hs5 := Lib.hid (Nat.le_trans Hs4.out hb5'.size)
            clear hb5 hb5'
            go_wp2
            go_ret2
            rw [Hk.out.1, Hk.out.2]
            exact ⟨ad, cp, rfl, Hcp.out, Hr5.out, fun j hj => ⟨Nat.le_of_succ_le (Hblk.out j hj).1, Nat.lt_of_lt_of_le (Hblk.out j hj).2 Hs5.out⟩, HB5.out⟩

end Go.Proofs.Ytmcapcclnkicbaa
