/- The program's TollEach. -/
import Derived.Test.YthhllpnbmelidaaGY
import Derived.Test.YthhllpnbmelidaaGV
import Derived.Test.YthhllpnbmelidaaG4
namespace Go.Proofs.Ythhllpnbmelidaa
open Go.RowKit
set_option linter.unusedVariables false
set_option linter.unusedSimpArgs false

theorem Whole.bare {w : World} {q k : Nat} {t : TypeId} {v : Value} (h : Whole w q t #[]) (hc : w.cell? ⟨q, k, none⟩ = some v) : False := by
  unfold Whole at h
  simp [World.cell?, h] at hc
theorem PlansAt.off {w : World} {blk : Int → Nat} {l : List Gt} {free : Int} {q : Nat} (hq : Whole w q 3 #[]) : ∀ {s : List Int}, PlansAt w blk l free s → ∀ k ∈ s, ¬ blk k = q
  | [], _, k, hk => absurd hk List.not_mem_nil
  | j :: s, h, k, hk => by
    rw [List.mem_cons] at hk
    rcases hk with rfl | hk
    · exact Whole.ty_ne h.1 hq (by decide)
    · exact PlansAt.off hq h.2 k hk
theorem RowG.whole {B : Nat} {w2 wr : World} {g cap p : Nat} {out : List Int} {t : TypeId} {cs : Array Value} (h : RowG B w2 wr g cap out) (hw : Whole w2 p t cs) (hn : ¬ p = B) : Whole wr p t cs := hw.touch8 h.touch hn

def Te3Rel (l : List Gt) (free f t : Int) (w w3 : World) (q : Nat) (u i : Value) (wr : World) : Prop :=
  ∃ (k g cap : Nat), k ≤ 4 ∧ i = .int .i64 k ∧ u = .slice (some ⟨g, 0, none⟩) k cap ∧ RowG q w3 wr g cap (eachTo l free f t k) ∧ Below w.heap.size w wr

set_option maxRecDepth 100000 in
set_option maxHeartbeats 4000000 in
theorem te2_any (v : Value) (l : List Gt) (free f t : Int) (w : World) (hv : GtIn w v l) (hl : l.length ≤ 1048576) :
    Calls Try.prog 53 #[v, .int .i64 free, .int .i64 f, .int .i64 t] w (IntsOk (eachX l free f t) (okT l free f t) w) := by
  obtain ⟨i0, hi0, hz0, hz1, hz2⟩ := info_parts Try.info3
  have HW := Lib.hid (wayOf_any v l free f t w hv hl)
  cases ho : okT l free f t with
  | false =>
    rw [eachX_no ho]
    clear hv
    go_enter Try.func53, Try.ntmps53
    go_wp2_with fail
    refine HW.out.mono ?_; rintro e w1 ⟨hb1, hno, _⟩
    obtain rfl := hno ho
    clear hno HW ho
    go_wp2
    go_ret2
    exact IntsOk.no hb1.size (by simp) (hb1.alloc hb1.size _)
  | true =>
    rw [eachX_yes ho]
    have hz := okT_valid ho
    have hten := (validG_iff.1 hz).1
    have hpl := passL_len l f t
    have hp := passL_pas hz f t
    have HE := Lib.hid (fun (b : Int) => (show eachT l free f t b = vI l free (trI l b (passL l f t)) from (first_pays (hp.filter _)).1))
    have HPl := Lib.hid (fun (wb : Nat) (vp : Value) (w' : World) (hW : WayAt w' wb v vp l (passL l f t) free) => plans_any wb v vp l _ free w' hW (okT_free ho) hp (by omega))
    clear hv hz hp
    go_enter Try.func53, Try.ntmps53
    go_wp2_with fail
    refine HW.out.mono ?_; rintro e w1 ⟨hb1, _, hyes⟩
    obtain ⟨wb, vp, rfl, hW1⟩ := hyes ho
    have hbx : Below w1.heap.size w1 (w1.alloc (.cells #[] 3)) := (Below.refl _ _).alloc (Nat.le_refl _) _
    have hq := Whole.made w1 3 #[]
    have hr0 := RowI.made w1 w1.heap.size (Nat.le_refl _)
    have HP1 := Lib.hid (HPl.out wb vp _ (hW1.below hbx))
    have HB2 := Lib.hid (hb1.trans (hbx.mono hb1.size))
    have hs1 := hb1.size
    have HQ := Lib.hid hq; have HR0 := Lib.hid hr0
    clear hyes HW ho hb1 HPl hW1 hbx hq hr0
    go_wp2_with fail
    refine HP1.out.mono ?_; rintro e w3 ⟨pr, blk, rfl, hc, hpa, hb3⟩
    have HB3 := Lib.hid (HB2.out.trans (hb3.mono HB2.out.size))
    have hs3 : w1.heap.size < w3.heap.size := by have := hb3.size; rw [World.size_alloc] at this; omega
    have HQ3 := Lib.hid (HQ.out.below hb3 (by rw [World.size_alloc]; omega))
    have HG3 := Lib.hid (RowG.made w1 w3 hs3 (HR0.out.below hb3))
    have Hc := Lib.hid hc; have Hpa := Lib.hid hpa
    clear hc hpa hb3 HP1 HB2 HR0 HQ
    generalize hqq : w1.heap.size = q at *
    go_wp2
    go_loopw [12, 31] (fun u i wr => Te3Rel l free f t w w3 q u i wr) (fun _ i _ => 4 - (intOf i).toNat)
    case atStart => exact ⟨0, _, _, by omega, rfl, rfl, HG3.out, HB3.out⟩
    case round =>
      obtain ⟨k, g, cap, hk, rfl, rfl, hG, hbel⟩ := hrel
      by_cases hlt : k < 4
      · have hlt' : (k : Int) < 4 := by omega
        have hk0 : (0 : Int) ≤ (k : Int) := Int.natCast_nonneg _
        have hck0 := Hc.out k hlt
        have hck : wr.cell? ⟨pr, k, none⟩ = _ := (World.cell?_of_block (hG.touch.block pr (World.block_lt_of_cell? _ _ hck0) (fun e => by subst e; exact HQ3.out.bare hck0))).trans hck0
        have hpw := (Hpa.out k hlt).touch8 hG.touch (PlansAt.off HQ3.out (Hpa.out k hlt))
        have HBw := Lib.hid hbel
        have hs7 := HBw.out.size
        have hs9 := hG.touch.size
        have hsucc := eachTo_succ l free f t k
        have hel := eachTo_len l free f t k
        rw [HE.out] at hsucc
        have hrow' := hG.row; unfold RowI at hrow'
        rw [hel] at hrow'
        have HG := Lib.hid hG
        clear hck0 hG hbel
        generalize trI l (k : Int) (passL l f t) = s at *
        generalize hen : (eachTo l free f t k).map (Value.int .i64) = en at *
        have Hen := Lib.hid hen; have Hel := Lib.hid hel; clear hen hel
        cases s with
        | nil =>
          replace hsucc : eachTo l free f t (k + 1) = eachTo l free f t k ++ [0] := hsucc
          replace hck : wr.cell? ⟨pr, k, none⟩ = some (.pointer none) := hck
          have Hs := Lib.hid hsucc
          clear hsucc hpw
          go_wp2_with (at_builtin; refine wpList_append_lies _ rfl _ _ 39 rfl q 3 i0 _ 1 8 Try.underlying39 hi0 hz0 hz1 hz2 rfl (by decide) _ k en rfl (World.ownsRow.alloc hrow' _) ⟨wr.heap.size, 0, none⟩ 1 1 [.int .i64 0] rfl rfl (one_int8 wr 0) (by simp [Value.oneCell']) (by decide) (by simp only [maxLen]; omega) (by omega) (by simp; omega) (wr.heap.size + 1) (by simp) ?_; intro g8 cp8 w8 hown8 hgrow8 hat8 hlt8; have HB8 := Lib.hid ((HBw.out.alloc HBw.out.size _).grown hgrow8 (by simp; omega) (fun j hj => Nat.le_trans hs1 (hrow'.lt j hj).1)); have HO8 := Lib.hid hown8; have Hg8 := Lib.hid hgrow8; have Ha8 := Lib.hid hat8; clear hown8 hgrow8 hat8 hrow')
          rw [← Hen.out] at HO8
          have HG9 := Lib.hid (RowG.snoc HG.out (by rw [Hel.out]; exact HO8.out) Hg8.out Ha8.out)
          rw [← Hs.out] at HG9
          go_wp2
          exact ⟨⟨k + 1, g8, cp8, by omega, by go_num, rfl, HG9.out, HB8.out⟩, by simp [intOf]; omega⟩
        | cons j s =>
          replace hck : wr.cell? ⟨pr, k, none⟩ = some (.pointer (some ⟨blk j, 0, none⟩)) := hck
          have hc1 := hpw.1.cell (i := 1) rfl
          replace hc1 : wr.cell? ⟨blk j, 1, none⟩ = some (.int .i64 (vI l free (j :: s))) := hc1
          have Hs := Lib.hid hsucc
          clear hsucc hpw
          generalize vI l free (j :: s) = x at *
          go_wp2_with (at_builtin; refine wpList_append_lies _ rfl _ _ 39 rfl q 3 i0 _ 1 8 Try.underlying39 hi0 hz0 hz1 hz2 rfl (by decide) _ k en rfl (World.ownsRow.alloc hrow' _) ⟨wr.heap.size, 0, none⟩ 1 1 [.int .i64 x] rfl rfl (one_int8 wr x) (by simp [Value.oneCell']) (by decide) (by simp only [maxLen]; omega) (by omega) (by simp; omega) (wr.heap.size + 1) (by simp) ?_; intro g8 cp8 w8 hown8 hgrow8 hat8 hlt8; have HB8 := Lib.hid ((HBw.out.alloc HBw.out.size _).grown hgrow8 (by simp; omega) (fun j hj => Nat.le_trans hs1 (hrow'.lt j hj).1)); have HO8 := Lib.hid hown8; have Hg8 := Lib.hid hgrow8; have Ha8 := Lib.hid hat8; clear hown8 hgrow8 hat8 hrow')
          rw [← Hen.out] at HO8
          have HG9 := Lib.hid (RowG.snoc HG.out (by rw [Hel.out]; exact HO8.out) Hg8.out Ha8.out)
          rw [← Hs.out] at HG9
          go_wp2
          exact ⟨⟨k + 1, g8, cp8, by omega, by go_num, rfl, HG9.out, HB8.out⟩, by simp [intOf]; omega⟩
      · obtain rfl : k = 4 := by omega
        have hr := hG.row
        rw [eachTo_len] at hr
        have HR := Lib.hid hr
        have HB := Lib.hid hbel
        clear hG hbel hr
        generalize eachTo l free f t 4 = xs at *
        go_wp2
        go_ret2
        exact IntsOk.row true HR.out hs1 HB.out

end Go.Proofs.Ythhllpnbmelidaa
