/- The model's l5Share. -/
import Derived.Test.YthdkjjfnockldaaQ2
namespace Go.Proofs.Ythdkjjfnockldaa
open Go.RowKit

/-- Two rows of the call's own, in blocks of their own. -/
def Sh1Rel (ms : List Int) (amt all : Int) (w1 : World) (u r i : Value) (wr : World) : Prop :=
  ∃ k : Nat, k ≤ ms.length ∧ i = .int .i64 k ∧ RowI wr w1.heap.size u (quoL (dueL (ms.take k) amt) all) ∧ RowI wr w1.heap.size r (rstL (dueL (ms.take k) amt) all) ∧
    (∀ g, u.ownBlock = some g → r.ownBlock ≠ some g) ∧ (∃ g, u.ownBlock = some g) ∧ (∃ g, r.ownBlock = some g) ∧ Below w1.heap.size w1 wr
/-- What is still to be given; both rows as they stand. -/
def Gv1Rel (fin : List Int) (n g h : Nat) (w1 : World) (lv : Value) (wr : World) : Prop :=
  ∃ (t : Nat) (out rs : List Int), lv = .int .i64 t ∧ t ≤ 6 ∧ giveM t out rs = fin ∧ out.length = n ∧ rs.length = n ∧ (∀ i, 0 ≤ out.getD i 0 ∧ out.getD i 0 ≤ 1188000010 - t) ∧
    IntAt wr g 0 out ∧ Room wr g n ∧ IntAt wr h 0 rs ∧ Room wr h n ∧ Below w1.heap.size w1 wr
def Be1Rel (out rs : List Int) (n g h : Nat) (w1 : World) (bv iv : Value) (wr : World) : Prop :=
  ∃ k : Nat, k ≤ n ∧ iv = .int .i64 k ∧ bv = .int .i64 (bestTo rs k : Nat) ∧ IntAt wr g 0 out ∧ Room wr g n ∧ IntAt wr h 0 rs ∧ Room wr h n ∧ Below w1.heap.size w1 wr

theorem IntAt.far {w : World} {b c i : Nat} {l : List Int} (h : IntAt w b 0 l) (hne : c ≠ b) (v : Value) : IntAt (w.setCell ⟨c, i, none⟩ v) b 0 l := fun j hj => by
  rw [World.cell?_setCell_other _ _ _ _ (by intro e; injection e with e; exact hne e)]
  exact h j hj

set_option maxRecDepth 100000 in
set_option maxHeartbeats 2000000 in
theorem share1_any (v : Value) (ms : List Int) (amt : Int) (w : World) (hv : IntsIn w v ms) (hn : ms.length ≤ 6) (hm : ∀ i, 0 ≤ ms.getD i 0 ∧ ms.getD i 0 ≤ 1188) (ha : 0 ≤ amt ∧ amt ≤ 1000000) (hs : 0 < ms.sum ∧ ms.sum ≤ 7128) :
    Calls Try.prog 73 #[v, .int .i64 amt] w (IntsOne (shareL ms amt) w) := by
  obtain ⟨i0, hi, hz0, hz1, hz2⟩ := info_parts Try.info3
  have Hsum := Lib.hid (sum1_any v ms w hv (by omega) (fun i => by have := hm i; omega))
  have hd0 : ∀ i, 0 ≤ (dueL ms amt).getD i 0 ∧ (dueL ms amt).getD i 0 ≤ 1188000000 := fun i => by
    rw [dueL_at]
    have := mul_bd ha.1 ha.2 (hm i).1 (hm i).2
    omega
  have Hd0 := Lib.hid hd0
  have Hq0 := Lib.hid (quoL_bd hs.1 hd0)
  have hlf := leftL_bd amt hs.1
  have Hgv := Lib.hid (shareM ms amt hs.1)
  have Hfl := Lib.hid (shareL_len ms amt)
  have hll : leftL ms amt = amt - (quoL (dueL ms amt) ms.sum).sum := rfl
  obtain ⟨lf, hlf2⟩ : ∃ lf : Nat, leftL ms amt = lf := ⟨(leftL ms amt).toNat, by omega⟩
  rw [hlf2] at hll hlf Hgv
  rw [Int.toNat_natCast] at Hgv
  have hlf6 : lf ≤ 6 := by omega
  have Hll := Lib.hid hll
  have hqs := takeI_bd Hq0.out (quoL (dueL ms amt) ms.sum).length (Nat.le_refl _)
  rw [List.take_length, quoL_len, dueL_len] at hqs
  have Hqs := Lib.hid hqs
  obtain ⟨a, cap, rfl, hcap, hal⟩ := hv
  clear hcap
  have Ha := Lib.hid hal; clear hal
  obtain ⟨a0, a9⟩ := ha
  obtain ⟨s0, s9⟩ := hs
  have Hm := Lib.hid hm
  have hn0 : 0 < ms.length := by omega
  generalize hall : ms.sum = all at *
  generalize hfin : shareL ms amt = fin at *
  have hnz : all ≠ 0 := by omega
  have hb0 : (all == 0) = false := by simpa using hnz
  clear hd0 hlf hll hlf2 hqs hall hm
  go_enter Try.func73, Try.ntmps73
  go_wp2_with fail
  refine Hsum.out.mono ?_; rintro e w1 ⟨rfl, hw⟩
  obtain rfl : w = w1 := hw.symm
  go_wp2
  go_loopw [6, 7, 8] (fun u r i wr => Sh1Rel ms amt all w u r i wr) (fun _ _ i _ => ms.length - (intOf i).toNat)
  case atStart =>
    refine ⟨0, Nat.zero_le _, rfl, (RowI.made w w.heap.size (Nat.le_refl _)).below ((Below.refl _ _).alloc (Nat.le_refl _) _), ?_, ?_, ⟨_, rfl⟩, ⟨_, rfl⟩, ((Below.refl _ _).alloc (Nat.le_refl _) _).alloc (by simp) _⟩
    · have := RowI.made (w.alloc (.cells #[] 3)) w.heap.size (by simp)
      rw [World.size_alloc] at this
      exact this
    · intro g hg h
      simp [Value.ownBlock] at hg h
      omega
  case round =>
    obtain ⟨k, hk, rfl, hu, hr, hne, ⟨gu, hgu⟩, ⟨gr, hgr⟩, hbel⟩ := hrel
    by_cases hlt : k < ms.length
    · obtain ⟨b, o, rfl, hbl, hat⟩ := Ha.out (by intro h; simp [h] at hlt)
      have Hc := Lib.hid (fun w' (h : Below w.heap.size w w') => (hat.below h hbl) k hlt)
      have c0 := Hc.out wr hbel
      have d0 := Hd0.out k
      rw [dueL_at] at d0
      have hq : quoL (dueL (ms.take (k + 1)) amt) all = quoL (dueL (ms.take k) amt) all ++ [amt * ms.getD k 0 / all] := by rw [takeI hlt, dueL_snoc, quoL_snoc]
      have hr2 : rstL (dueL (ms.take (k + 1)) amt) all = rstL (dueL (ms.take k) amt) all ++ [amt * ms.getD k 0 % all] := by rw [takeI hlt, dueL_snoc, rstL_snoc]
      have hlq : (quoL (dueL (ms.take k) amt) all).length = k := by rw [quoL_len, dueL_len, List.length_take]; omega
      have hlr : (rstL (dueL (ms.take k) amt) all).length = k := by rw [rstL_len, dueL_len, List.length_take]; omega
      have hsz := hbel.size
      have HB := Lib.hid hbel
      unfold RowI at hu hr
      rw [hlq] at hu
      rw [hlr] at hr
      generalize ms.getD k 0 = m at *
      have hw : wrap64 (amt * m) = amt * m := by unfold wrap64; omega
      obtain ⟨d0a, d0b⟩ := d0
      clear hbel hat
      go_wp2_with (first | (at_builtin; refine wpList_append_lies _ rfl _ _ 25 rfl w.heap.size 3 i0 (.int .i64 0) 1 8 Try.underlying25 hi hz0 hz1 hz2 rfl (by decide) u6 k _ rfl (World.ownsRow.alloc hu _) ⟨wr.heap.size, 0, none⟩ 1 1 [.int .i64 (amt * m / all)] rfl rfl (cell_one_new _ _ _) (by simp [Value.oneCell']) (by decide) (by simp only [maxLen]; omega) (by omega) (by simp; omega) _ rfl ?_; intro g2 cp2 w2 hown2 hgrow2 hlie2 hlt2; have hr8 := World.ownsRow.kept (World.ownsRow.alloc hr (.cells #[.int .i64 (amt * m / all)] 3)) hgrow2 (by rw [hgu]; exact .inr (hne _ hgu)); have Hs2 := hgrow2.size; simp only [World.size_alloc] at Hs2; have hB2 := (HB.out.alloc hsz (.cells #[.int .i64 (amt * m / all)] 3)).grown hgrow2 (by simp; omega) (fun j hj => (hu.lt j hj).1); have c2 := Hc.out w2 hB2) | (at_builtin; refine wpList_append_lies _ rfl _ _ 25 rfl w.heap.size 3 i0 (.int .i64 0) 1 8 Try.underlying25 hi hz0 hz1 hz2 rfl (by decide) u7 k _ rfl (World.ownsRow.alloc hr8 _) ⟨w2.heap.size, 0, none⟩ 1 1 [.int .i64 (amt * m % all)] rfl rfl (cell_one_new _ _ _) (by simp [Value.oneCell']) (by decide) (by simp only [maxLen]; omega) (by omega) (by simp; omega) _ rfl ?_; intro g3 cp3 w3 hown3 hgrow3 hlie3 hlt3))
      have hg28 : u7.ownBlock ≠ some g2 := by
        rcases hlie2 with h | h
        · exact hne g2 h
        · intro e
          have := (hr.lt g2 e).2
          simp at h; omega
      have hg2 : g2 ≠ g3 := by
        rcases hlie3 with h | h
        · intro e; exact hg28 (by rw [h, e])
        · simp at h; omega
      have hown2' := World.ownsRow.kept (World.ownsRow.alloc hown2 (.cells #[.int .i64 (amt * m % all)] 3)) hgrow3 (.inr (Ne.symm hg28))
      have hB3 := (hB2.alloc (by omega) (.cells #[.int .i64 (amt * m % all)] 3)).grown hgrow3 (by simp; omega) (fun j hj => (hr8.lt j hj).1)
      refine ⟨⟨k + 1, hlt, by go_num, ?_, ?_, fun g hg => ?_, ⟨g2, rfl⟩, ⟨g3, rfl⟩, hB3⟩, by simp [intOf]; omega⟩
      · rw [hq]
        refine RowI.snoc ?_
        rw [hlq]; exact hown2'
      · rw [hr2]
        refine RowI.snoc ?_
        rw [hlr]; exact hown3
      · simp [Value.ownBlock] at hg ⊢
        omega
    · obtain rfl : k = ms.length := by omega
      rw [List.take_length] at hu hr
      obtain ⟨au, cu, rfl, hcu, hou, hiu⟩ := hu.row
      obtain ⟨ar, cr, rfl, hcr, hor, hir⟩ := hr.row
      have hql : (quoL (dueL ms amt) all).length = ms.length := by rw [quoL_len, dueL_len]
      have hrl : (rstL (dueL ms amt) all).length = ms.length := by rw [rstL_len, dueL_len]
      have hqn : quoL (dueL ms amt) all ≠ [] := fun h => by rw [h, List.length_nil] at hql; omega
      have hrn : rstL (dueL ms amt) all ≠ [] := fun h => by rw [h, List.length_nil] at hrl; omega
      obtain ⟨g, rfl, hgl, hgi, hgr2⟩ := hou hqn
      obtain ⟨h, rfl, hhl, hhi, hhr2⟩ := hor hrn
      have hgh : g ≠ h := fun e => hne g rfl (by rw [e]; rfl)
      have hgb := (hiu g ⟨0, rfl⟩).1
      have hhb := (hir h ⟨0, rfl⟩).1
      have Hs2 := Lib.hid (sum1_any _ (quoL (dueL ms amt) all) wr (OwnI.ints hou hcu) (by rw [hql]; omega) (fun i => by have := Hq0.out i; omega))
      rw [hql] at hgr2 Hs2 hcu
      rw [hrl] at hhr2
      have HG := Lib.hid hgi
      have HGR := Lib.hid hgr2
      have HH := Lib.hid hhi
      have HHR := Lib.hid hhr2
      have HB := Lib.hid hbel
      have Hcu := Lib.hid hcu
      rw [hql, hrl]
      have Hql := Lib.hid hql
      have Hrl := Lib.hid hrl
      clear hgi hgr2 hhi hhr2 hbel hou hor hiu hir hu hr hne hgu hgr hcu hcr hk hlt hql hrl hqn hrn
      generalize hqq : (quoL (dueL ms amt) all).sum = qs at *
      have hqs8 : 0 ≤ qs ∧ qs ≤ 7128000000 := by have := Hqs.out; omega
      obtain ⟨hqs8a, hqs8b⟩ := hqs8
      go_wp2_with fail
      refine Hs2.out.mono ?_; rintro e w2 ⟨rfl, hw⟩
      subst hw
      have hlv : amt - qs = (lf : Int) := Hll.out.symm
      have hb9 : ∀ i, 0 ≤ (quoL (dueL ms amt) all).getD i 0 ∧ (quoL (dueL ms amt) all).getD i 0 ≤ 1188000010 - (lf : Int) := fun i => by have := Hq0.out i; omega
      have HS : Hid (Gv1Rel fin ms.length g h w (.int .i64 (amt - qs)) w2) := Lib.hid ⟨lf, _, _, by rw [hlv], hlf6, Hgv.out, Hql.out, Hrl.out, hb9, HG.out, HGR.out, HH.out, HHR.out, HB.out⟩
      clear hb9 hlv HG HGR HH HHR HB Hql Hrl Hqs Hll Hgv Hs2 hqq Hq0 Hd0
      have hmn : ms.length ≤ 6 := hn
      generalize hnn : ms.length = n at *
      go_wp2
      go_loopw [9] (fun lv wr => Gv1Rel fin n g h w lv wr) (fun lv _ => (intOf lv).toNat)
      case atStart => exact HS.out
      case round =>
        obtain ⟨t, out, rs, rfl, ht6, hgv, hol, hrl, hob, h1, h2, h3, h4, h5⟩ := hrel
        cases t with
        | zero =>
          have hfin : out = fin := hgv
          have H1 := Lib.hid h1
          have H2 := Lib.hid h2
          have H5 := Lib.hid h5
          have Hol := Lib.hid hol
          have Hfin := Lib.hid hfin
          clear h1 h2 h3 h4 h5 hob hgv hol hfin
          go_wp2
          go_ret
          have hfl : fin.length = n := by rw [← Hfin.out]; exact Hol.out
          have hgl2 := World.block_lt_of_cell? _ _ (H1.out 0 (by rw [Hol.out]; exact hn0))
          refine ⟨some ⟨g, 0, none⟩, cu, by rw [hfl]; rfl, by rw [hfl]; exact Hcu.out, fun _ => ⟨g, rfl, hgl2, by rw [← Hfin.out]; exact H1.out, by rw [hfl]; exact H2.out⟩, fun j hj => ?_, H5.out⟩
          obtain ⟨o2, ho⟩ := hj
          cases ho
          exact ⟨hgb, hgl2⟩
        | succ t =>
          obtain ⟨tv, htv⟩ : ∃ tv : Int, ((t + 1 : Nat) : Int) = tv := ⟨_, rfl⟩
          rw [htv]
          have hpos : 0 < tv := by omega
          have htv6 : tv ≤ 6 := by omega
          have Htv := Lib.hid htv
          clear htv
          have Hgv2 := Lib.hid hgv
          have Hob := Lib.hid hob
          have H1 := Lib.hid h1
          have H2 := Lib.hid h2
          have H3 := Lib.hid h3
          have H4 := Lib.hid h4
          have H5 := Lib.hid h5
          have Hol := Lib.hid hol
          have Hrl := Lib.hid hrl
          clear h1 h2 h3 h4 h5 hob hgv hol hrl
          obtain ⟨wo, rfl⟩ : ∃ wo, wo = wr := ⟨_, rfl⟩
          go_wp2
          go_loopw [10, 11] (fun bv iv wr => Be1Rel out rs n g h w bv iv wr) (fun _ iv _ => n - (intOf iv).toNat)
          case atStart => exact ⟨0, Nat.zero_le _, rfl, rfl, H1.out, H2.out, H3.out, H4.out, H5.out⟩
          case round =>
            obtain ⟨k, hk, rfl, rfl, h1, h2, h3, h4, h5⟩ := hrel
            by_cases hlt : k < n
            · have hbl : bestTo rs k < n := by
                rcases (bestTo_spec rs k).1 with q | ⟨q, q2⟩ <;> omega
              have c0 := h3 k (by rw [Hrl.out]; exact hlt)
              have c1 := h3 (bestTo rs k) (by rw [Hrl.out]; exact hbl)
              rw [Nat.zero_add] at c0 c1
              have hst : bestTo rs (k + 1) = if rs.getD (bestTo rs k) 0 < rs.getD k 0 then k else bestTo rs k := rfl
              have G1 := Lib.hid h1
              have G2 := Lib.hid h2
              have G3 := Lib.hid h3
              have G4 := Lib.hid h4
              have G5 := Lib.hid h5
              generalize bestTo rs k = bb at *
              generalize rs.getD bb 0 = xb at *
              generalize rs.getD k 0 = xk at *
              have hk0 : (0 : Int) ≤ (k : Int) := Int.natCast_nonneg _
              have hk1 : (k : Int) < (n : Int) := by omega
              have hb0' : (0 : Int) ≤ (bb : Int) := Int.natCast_nonneg _
              have hb1' : (bb : Int) < (n : Int) := by omega
              clear h1 h2 h3 h4 h5
              by_cases hx : xb < xk
              · rw [if_pos hx] at hst
                have Hst := Lib.hid hst; clear hst
                have hd : decide (xb < xk) = true := by simpa using hx
                go_wp2
                go_region
                all_goals
                  go_wp2
                  go_roundw
                  case rel => exact ⟨k + 1, hlt, by go_num, by rw [Hst.out], G1.out, G2.out, G3.out, G4.out, G5.out.drew⟩
                  case measure => simp [intOf]; omega
              · rw [if_neg hx] at hst
                have Hst := Lib.hid hst; clear hst
                have hd : decide (xb < xk) = false := by simpa using hx
                go_wp2
                go_region
                all_goals
                  go_wp2
                  go_roundw
                  case rel => exact ⟨k + 1, hlt, by go_num, by rw [Hst.out], G1.out, G2.out, G3.out, G4.out, G5.out.drew⟩
                  case measure => simp [intOf]; omega
            · obtain rfl : k = n := by omega
              have hbl := bestTo_lt (rs := rs) (k := k) hn0
              have hgv3 : giveM t (out.set (bestTo rs k) (out.getD (bestTo rs k) 0 + 1)) (rs.set (bestTo rs k) (-1)) = fin := by
                have := Hgv2.out
                rwa [giveM, Hrl.out] at this
              have c0 := h1 (bestTo rs k) (by rw [Hol.out]; exact hbl)
              rw [Nat.zero_add] at c0
              have hob := Hob.out (bestTo rs k)
              have f0 := h2.2 (bestTo rs k)
              have f1 := h4.2 (bestTo rs k)
              obtain ⟨u1, e1⟩ := h4.1 (bestTo rs k) hbl
              have hob2 : ∀ i, 0 ≤ (out.set (bestTo rs k) (out.getD (bestTo rs k) 0 + 1)).getD i 0 ∧ (out.set (bestTo rs k) (out.getD (bestTo rs k) 0 + 1)).getD i 0 ≤ 1188000010 - (t : Int) := fun i => by
                have q1 := Hob.out i
                by_cases e : bestTo rs k = i
                · rw [← e, show (out.set (bestTo rs k) (out.getD (bestTo rs k) 0 + 1)).getD (bestTo rs k) 0 = out.getD (bestTo rs k) 0 + 1 by simp [List.getD, Hol.out, hbl]]
                  omega
                · rw [show (out.set (bestTo rs k) (out.getD (bestTo rs k) 0 + 1)).getD i 0 = out.getD i 0 by simp [List.getD, List.getElem?_set, e]]
                  omega
              have hidx : bestTo rs k < out.length := by rw [Hol.out]; exact hbl
              have hidx2 : bestTo rs k < rs.length := by rw [Hrl.out]; exact hbl
              have s1 := (h1.setQ (v := out.getD (bestTo rs k) 0 + 1) hidx).far (c := h) (i := bestTo rs k) (Ne.symm hgh) (.int .i64 (-1))
              have s3 := (h3.far (c := g) (i := bestTo rs k) hgh (.int .i64 (out.getD (bestTo rs k) 0 + 1))).setQ (v := -1) hidx2
              have S1 := Lib.hid s1
              have S3 := Lib.hid s3
              have G2 := Lib.hid h2
              have G4 := Lib.hid h4
              have G5 := Lib.hid h5
              have Hgv3 := Lib.hid hgv3
              have Hob2 := Lib.hid hob2
              generalize bestTo rs k = bb at *
              generalize out.getD bb 0 = x at *
              have hb0' : (0 : Int) ≤ (bb : Int) := Int.natCast_nonneg _
              have hb1' : (bb : Int) < (k : Int) := by omega
              have hxw : wrap64 (x + 1) = x + 1 := by unfold wrap64; omega
              have hgh2 : h ≠ g := Ne.symm hgh
              clear s1 s3 h1 h2 h3 h4 h5 hgv3 hob2 hidx hidx2
              go_wp2
              go_roundw
              case rel => exact ⟨t, _, _, by rw [← Htv.out]; go_num, by omega, Hgv3.out, by rw [List.length_set]; exact Hol.out, by rw [List.length_set]; exact Hrl.out, Hob2.out, S1.out, (G2.out.setCell _ _).setCell _ _, S3.out, (G4.out.setCell _ _).setCell _ _, (G5.out.setCell (p := ⟨g, bb, none⟩) hgb _).setCell (p := ⟨h, bb, none⟩) hhb _⟩
              case measure => have := Htv.out; simp [intOf]; omega

end Go.Proofs.Ythdkjjfnockldaa
