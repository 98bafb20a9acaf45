/- The model's l6lRun. -/
import Derived.Test.YtmphpbjmpokjjabY1
import Derived.Deep.AppendLies
namespace Go.Proofs.Ytmphpbjmpokjjab
open Go.RowKit

theorem RowI.open {w : World} {B : Nat} {v : Value} {l : List Int} (h : RowI w B v l) (h0 : 0 < l.length) : ∃ g cap, v = .slice (some ⟨g, 0, none⟩) l.length cap ∧ l.length ≤ cap ∧ IntAt w g 0 l := by
  obtain ⟨ad, cap, rfl, hc, ho, _⟩ := h.row
  obtain ⟨g, rfl, _, hat, _⟩ := ho (by rintro rfl; simp at h0)
  exact ⟨g, cap, rfl, hc, hat⟩
theorem RowI.one (w : World) (B : Nat) (x : Int) (hB : B ≤ w.heap.size) : RowI (w.alloc (.cells #[.int .i64 x] 3)) B (.slice (some ⟨w.heap.size, 0, none⟩) 1 1) [x] :=
  ⟨rfl, .inr ⟨w.heap.size, 1, #[.int .i64 x], rfl, hB, heap_alloc_new w _, Nat.le_refl _, by unfold maxLen; omega, rfl, rfl⟩⟩

def RunRel (l : List Rd) (least start : Int) (ds : List Int) (B : Nat) (w : World) (u r iv : Value) (wr : World) : Prop :=
  ∃ i j : Nat, i = j + 1 ∧ i ≤ l.length ∧ iv = .int .i64 i ∧ RowI wr B u (arrL l least start ds i) ∧ RowI wr B r (leaL l least start ds i) ∧
    (∀ g, u.ownBlock = some g → r.ownBlock ≠ some g) ∧ Below B w wr

def RunOut (l : List Rd) (least start : Int) (ds : List Int) (w : World) (e : Ending) (w' : World) : Prop :=
  ∃ (u r : Value), e = .returned (.tuple #[u, r]) ∧ RowI w' w.heap.size u (arrL l least start ds l.length) ∧ RowI w' w.heap.size r (leaL l least start ds l.length) ∧ Below w.heap.size w w'

set_option maxRecDepth 100000 in
set_option maxHeartbeats 2000000 in
theorem run1_any (v : Value) (n : Int) (l : List Rd) (least start : Int) (v' : Value) (ds : List Int) (w : World) (hv : RoadsIn w v l) (hv' : IntsIn w v' ds) (hok : okLate n l least start ds = true) :
    Calls Try.prog 49 #[v, .int .i64 least, .int .i64 start, v'] w (RunOut l least start ds w) := by
  obtain ⟨i0, hi, hz0, hz1, hz2⟩ := info_parts Try.info3
  obtain ⟨hda, hvl, hle, hst, hlen⟩ := okLate_iff.1 hok
  obtain ⟨l0, l1⟩ := okDl_iff.1 hle
  obtain ⟨s0, s1⟩ := okDl_iff.1 hst
  obtain ⟨⟨_, _, h2, h8⟩, _⟩ := validS_iff.1 hvl
  obtain ⟨a, cap, rfl, ha⟩ := hv
  obtain ⟨a', cap', rfl, _, ha'⟩ := hv'
  obtain ⟨b, o, rfl, hb, hrw⟩ := ha (by rintro rfl; simp at h2)
  obtain ⟨b', o', rfl, hb', hrw'⟩ := ha' (by rintro rfl; simp at hlen; omega)
  have Hl := Lib.hid (fun (w' : World) (h : Below w.heap.size w w') (i : Nat) (hi : i < l.length) => (hrw.below h hb) i hi)
  have Hd := Lib.hid (fun (w' : World) (h : Below w.heap.size w w') (i : Nat) (hi : i < ds.length) => (hrw'.below h hb') i hi)
  have Hfit := Lib.hid (fun (i : Nat) (hi : i < l.length) => validS_at hvl hi)
  have Hda := Lib.hid (fun i => allDl_at hda i)
  have Hbd := Lib.hid (fun k => late_bd (l := l) (least := least) hda ⟨s0, s1⟩ k)
  have Hlen := Lib.hid hlen
  have Hds := Lib.hid (show ds.length + 1 = l.length from hlen)
  clear hok hda hvl hle hst ha ha' hrw hrw' hb hb' hlen
  go_enter Try.func49, Try.ntmps49
  go_wp2
  go_loopw [10, 11, 12] (fun u r iv wr => RunRel l least start ds w.heap.size w u r iv wr) (fun _ _ iv _ => l.length - (intOf iv).toNat)
  case atStart =>
    have hB1 : Below w.heap.size w (w.alloc (.cells #[.int .i64 start] 3)) := (Below.refl _ _).alloc (Nat.le_refl _) _
    refine ⟨1, 0, rfl, by omega, rfl, ?_, ?_, ?_, hB1.alloc (by simp) _⟩
    · exact (RowI.one w w.heap.size start (Nat.le_refl _)).below ((Below.refl _ _).alloc (Nat.le_refl _) _)
    · have := RowI.one (w.alloc (.cells #[.int .i64 start] 3)) w.heap.size start (by simp)
      rw [World.size_alloc] at this
      exact this
    · intro g hg h
      simp [Value.ownBlock] at hg h
      omega
  case round =>
    obtain ⟨i, j, hij, hil, rfl, hu, hr, hne, hbel⟩ := hrel
    by_cases hlt : i < l.length
    · obtain ⟨gu, cu, rfl, hcu, _⟩ := hu.open (by rw [arrL_len]; omega)
      obtain ⟨gr, cr, rfl, hcr, hat⟩ := hr.open (by rw [leaL_len]; omega)
      rw [arrL_len] at hcu hu hne ⊢
      rw [leaL_len] at hcr hr hne ⊢
      have c1 := hat j (by rw [leaL_len]; omega)
      rw [leaL_at _ _ _ _ (show j < i by omega), Nat.zero_add] at c1
      have d1 := Hd.out _ hbel j (by have := Hds.out; omega)
      obtain ⟨b0, b1, b2, b3⟩ := Hbd.out j
      obtain ⟨x0, x1, y0, y1⟩ := Hbd.out i
      have hda := Hda.out j
      have hxv : arrV l least start ds i = leaV l least start ds j + ds.getD j 0 := by rw [hij]; rfl
      have hyv : leaV l least start ds i = max 0 (arrV l least start ds i - slackOf least (l.getD i rd0)) := by rw [hij]; rfl
      have hal := arrL_succ l least start ds i
      have hll := leaL_succ l least start ds i
      have hfit := Hfit.out i hlt
      have hj8 : j ≤ 8 := by omega
      have hi8 : i ≤ 8 := by omega
      have hs1 := slack1_any (l.getD i rd0).a (l.getD i rd0).b (l.getD i rd0).m least
      have hl3 := Lib.hid (fun (w' : World) (h : Below w.heap.size w w') => Hl.out w' h i hlt)
      have hsv : slackOf least (l.getD i rd0) = slackOf least ⟨(l.getD i rd0).a, (l.getD i rd0).b, (l.getD i rd0).m⟩ := rfl
      have hsb : 0 ≤ slackOf least (l.getD i rd0) ∧ slackOf least (l.getD i rd0) ≤ 10000 := by unfold slackOf; omega
      rw [hsv] at hyv hsb
      generalize slackOf least ⟨(l.getD i rd0).a, (l.getD i rd0).b, (l.getD i rd0).m⟩ = sl at *
      generalize (l.getD i rd0).a = sa at *
      generalize (l.getD i rd0).b = sb at *
      generalize (l.getD i rd0).m = sm at *
      have HS := Lib.hid (fun (w' : World) => hs1 w' (by omega) (by omega) (by omega))
      generalize arrV l least start ds i = x at *
      generalize leaV l least start ds i = y at *
      generalize leaV l least start ds j = lv at *
      generalize ds.getD j 0 = d at *
      have hw1 : wrap64 ((i : Int) - 1) = (j : Int) := by rw [show ((i : Int) - 1) = (j : Int) by omega]; unfold wrap64; omega
      have hw2 : IntKind.i64.wrap ((i : Int) - 1) = (j : Int) := by rw [IntWalk.i64_in _ (by omega)]; omega
      have hx1 : wrap64 (lv + d) = x := by rw [hxv]; unfold wrap64; omega
      have hx2 : IntKind.i64.wrap (lv + d) = x := by rw [hxv]; exact IntWalk.i64_in _ (by omega)
      have hz1' : wrap64 (x - sl) = x - sl := by unfold wrap64; omega
      have hil' : (i : Int) < (l.length : Int) := by omega
      have hi0 : (0 : Int) ≤ (i : Int) := Int.natCast_nonneg _
      have hj0 : (0 : Int) ≤ (j : Int) := Int.natCast_nonneg _
      have hjd : (j : Int) < (ds.length : Int) := by have := Hds.out; omega
      have hjc : (j : Int) < (i : Int) := by omega
      have Hij := Lib.hid hij
      have Hal := Lib.hid hal
      have Hll := Lib.hid hll
      have Hyv := Lib.hid hyv
      have HB := Lib.hid hbel
      have Hu := Lib.hid hu
      have Hr := Lib.hid hr
      have Hne := Lib.hid hne
      have hsz := hbel.size
      clear hij hal hll hyv hxv hu hr hne hbel hat hfit hs1 hsv hda b0 b1 b2 b3
      go_wp2
      go_region
      all_goals
        have hBd := HB.out.drew
        have HBd := Lib.hid hBd
        have hszd := hBd.size
        have hud : RowI (World.drew wr) w.heap.size (.slice (some ⟨gu, 0, none⟩) i cu) (arrL l least start ds i) := own_keep Hu.out ((Below.refl _ _).drew)
        have hrd : RowI (World.drew wr) w.heap.size (.slice (some ⟨gr, 0, none⟩) i cr) (leaL l least start ds i) := own_keep Hr.out ((Below.refl _ _).drew)
        unfold RowI at hud hrd
        rw [arrL_len] at hud
        rw [leaL_len] at hrd
        clear c1 d1 hBd
        generalize World.drew wr = wd at *
        go_wp2_with (at_builtin; refine wpList_append_lies _ rfl _ _ 24 rfl w.heap.size 3 i0 (.int .i64 0) 1 8 Try.underlying24 hi hz0 hz1 hz2 rfl (by decide) _ i _ rfl (World.ownsRow.alloc hud _) ⟨wd.heap.size, 0, none⟩ 1 1 [.int .i64 x] rfl rfl (cell_one_new _ _ _) (by simp [Value.oneCell']) (by decide) (by simp only [maxLen]; omega) (by omega) (by simp; omega) _ rfl ?_; intro g2 cp2 w2 hown2 hgrow2 hlie2 hlt2; have hB2 := (HBd.out.alloc hszd (.cells #[.int .i64 x] 3)).grown hgrow2 (by simp; omega) (fun q hq => (hud.lt q hq).1); obtain ⟨e0, e1, e2⟩ := hl3.out w2 hB2)
        have hr2 := World.ownsRow.kept (World.ownsRow.alloc hrd (.cells #[.int .i64 x] 3)) hgrow2 (.inr (Hne.out gu rfl))
        refine (HS.out w2).mono ?_; rintro e w3 ⟨rfl, hb3⟩
        have hown3 := own_keep hown2 hb3
        have hr3 := own_keep hr2 hb3
        have hs3 := hb3.size
        have hB3 := hB2.trans (hb3.mono hB2.size)
        have hs9 := hB3.size
        by_cases hc : sl < x
        · have Hl2 := Lib.hid (show leaL l least start ds (i + 1) = leaL l least start ds i ++ [x - sl] by rw [Hll.out, Hyv.out, show max 0 (x - sl) = x - sl by omega])
          have hxs : wrap64 (x - sl) = x - sl := by unfold wrap64; omega
          go_wp2_with (at_builtin; refine wpList_append_lies _ rfl _ _ 24 rfl w.heap.size 3 i0 (.int .i64 0) 1 8 Try.underlying24 hi hz0 hz1 hz2 rfl (by decide) _ i _ rfl (World.ownsRow.alloc hr3 _) ⟨w3.heap.size, 0, none⟩ 1 1 [.int .i64 (x - sl)] rfl rfl (cell_one_new _ _ _) (by simp [Value.oneCell']) (by decide) (by simp only [maxLen]; omega) (by omega) (by simp; omega) _ rfl ?_; intro g3 cp3 w4 hown4 hgrow4 hlie4 hlt4)
          have hg28 : Value.ownBlock (.slice (some ⟨gr, 0, none⟩) i cr) ≠ some g2 := by
            rcases hlie2 with h | h
            · exact Hne.out g2 h
            · intro e
              have := (hrd.lt g2 e).2
              simp at h; omega
          have hg2 : g2 ≠ g3 := by
            rcases hlie4 with h | h
            · intro e; exact hg28 (Eq.trans h (by rw [e]))
            · simp at h; omega
          have hown4' := World.ownsRow.kept (World.ownsRow.alloc hown3 (.cells #[.int .i64 (x - sl)] 3)) hgrow4 (.inr (Ne.symm hg28))
          have hB4 := (hB3.alloc hB3.size (.cells #[.int .i64 (x - sl)] 3)).grown hgrow4 (by simp; omega) (fun q hq => (hr3.lt q hq).1)
          refine ⟨⟨i + 1, i, rfl, by omega, by go_num, ?_, ?_, fun q hq => ?_, hB4⟩, by simp [intOf]; omega⟩
          · rw [Hal.out]
            refine RowI.snoc ?_
            rw [arrL_len]; exact hown4'
          · rw [Hl2.out]
            refine RowI.snoc ?_
            rw [leaL_len]; exact hown4
          · simp [Value.ownBlock] at hq ⊢
            omega
        · have Hl2 := Lib.hid (show leaL l least start ds (i + 1) = leaL l least start ds i ++ [0] by rw [Hll.out, Hyv.out, show max 0 (x - sl) = 0 by omega])
          have hc' : x ≤ sl := by omega
          go_wp2_with (at_builtin; refine wpList_append_lies _ rfl _ _ 24 rfl w.heap.size 3 i0 (.int .i64 0) 1 8 Try.underlying24 hi hz0 hz1 hz2 rfl (by decide) _ i _ rfl (World.ownsRow.alloc hr3 _) ⟨w3.heap.size, 0, none⟩ 1 1 [.int .i64 0] rfl rfl (cell_one_new _ _ _) (by simp [Value.oneCell']) (by decide) (by simp only [maxLen]; omega) (by omega) (by simp; omega) _ rfl ?_; intro g3 cp3 w4 hown4 hgrow4 hlie4 hlt4)
          have hg28 : Value.ownBlock (.slice (some ⟨gr, 0, none⟩) i cr) ≠ some g2 := by
            rcases hlie2 with h | h
            · exact Hne.out g2 h
            · intro e
              have := (hrd.lt g2 e).2
              simp at h; omega
          have hg2 : g2 ≠ g3 := by
            rcases hlie4 with h | h
            · intro e; exact hg28 (Eq.trans h (by rw [e]))
            · simp at h; omega
          have hown4' := World.ownsRow.kept (World.ownsRow.alloc hown3 (.cells #[.int .i64 0] 3)) hgrow4 (.inr (Ne.symm hg28))
          have hB4 := (hB3.alloc hB3.size (.cells #[.int .i64 0] 3)).grown hgrow4 (by simp; omega) (fun q hq => (hr3.lt q hq).1)
          refine ⟨⟨i + 1, i, rfl, by omega, by go_num, ?_, ?_, fun q hq => ?_, hB4⟩, by simp [intOf]; omega⟩
          · rw [Hal.out]
            refine RowI.snoc ?_
            rw [arrL_len]; exact hown4'
          · rw [Hl2.out]
            refine RowI.snoc ?_
            rw [leaL_len]; exact hown4
          · simp [Value.ownBlock] at hq ⊢
            omega
    · obtain rfl : i = l.length := by omega
      have Hu := Lib.hid hu
      have Hr := Lib.hid hr
      have HB := Lib.hid hbel
      clear hu hr hne hbel hlt hij
      go_wp2
      go_ret2
      exact ⟨_, _, rfl, Hu.out, Hr.out, HB.out⟩

end Go.Proofs.Ytmphpbjmpokjjab
