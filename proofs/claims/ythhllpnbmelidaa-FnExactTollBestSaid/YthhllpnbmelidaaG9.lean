/- The program's TollBest. -/
import Derived.Test.YthhllpnbmelidaaGX
import Derived.Test.YthhllpnbmelidaaG6
import Derived.Test.YthhllpnbmelidaaG8
import Derived.Test.YthhllpnbmelidaaS
import Derived.Sort.OwnSortedInts
namespace Go.Proofs.Ythhllpnbmelidaa
open Go.RowKit Go.Sort
set_option linter.unusedVariables false
set_option linter.unusedSimpArgs false

theorem sortI8 {w : World} {B cap g : Nat} {zs : List Int} (h : RowI w B (.slice (some ⟨g, 0, none⟩) zs.length cap) zs) (hl : zs.length < 1000000) :
    Calls Try.prog 90 #[.slice (some ⟨g, 0, none⟩) zs.length cap] w fun e w' => e = .returned (.tuple #[]) ∧ w'.ownsRow B 3 1 (.slice (some ⟨g, 0, none⟩) zs.length cap) zs.length ((zs.mergeSort fun x y => decide (x ≤ y)).map (Value.int .i64)) ∧ w.grownBy w' (some g) := by
  obtain ⟨_, h2⟩ := h
  rcases h2 with ⟨h0, _⟩ | ⟨g', cap', cur, he, hg, hh, hn, hcap, hsz, htake⟩
  · cases h0
  · cases he
    have hH := holds_of_blockI hh (ss := zs) (by simpa using htake)
    refine (Try.slices_Sort_int g 0 cap zs w hH (Array.getElem?_eq_some_iff.1 hh).1 (by omega)).mono ?_
    rintro e w' ⟨rfl, n, os, rfl⟩
    refine ⟨rfl, ?_, grownBy_sortedI _⟩
    exact ownsRow_sortedI (ss := zs) (ts := zs.mergeSort fun x y => decide (x ≤ y)) (by simp) hg hh hn hcap hsz
def lenS8 : Value → Nat
  | .slice _ n _ => n
  | _ => 0
def Tb3Rel (l : List Gt) (free : Int) (ps : List Int) (w w3 : World) (q : Nat) (u i : Value) (wr : World) : Prop :=
  ∃ (k g cap : Nat), k ≤ 4 ∧ i = .int .i64 k ∧ u = .slice (some ⟨g, 0, none⟩) (allC l free ps k).length cap ∧ RowG q w3 wr g cap (allC l free ps k) ∧ Below w.heap.size w wr
def Tb4Rel (blk : Int → Nat) (l : List Gt) (free : Int) (tgt : List Int) (w w3 : World) (q : Nat) (u p : Value) (wr : World) : Prop :=
  ∃ (s out : List Int) (g cap : Nat), u = .slice (some ⟨g, 0, none⟩) out.length cap ∧ p = .pointer (ptrA blk s) ∧ RowG q w3 wr g cap out ∧ out ++ chI l free s = tgt ∧ PlansAt w3 blk l free s ∧ Pas l s ∧ Below w.heap.size w wr

set_option maxRecDepth 100000 in
set_option maxHeartbeats 4000000 in
theorem tb2_any (v : Value) (l : List Gt) (free f t : Int) (w : World) (hv : GtIn w v l) (hl : l.length ≤ 1048576) :
    Calls Try.prog 51 #[v, .int .i64 free, .int .i64 f, .int .i64 t] w (IntsOk (bestX l free f t) (okT l free f t) w) := by
  obtain ⟨i0, hi0, hz0, hz1, hz2⟩ := info_parts Try.info3
  have HW := Lib.hid (wayOf_any v l free f t w hv hl)
  cases ho : okT l free f t with
  | false =>
    rw [bestX_no ho]
    clear hv
    go_enter Try.func51, Try.ntmps51
    go_wp2_with fail
    refine HW.out.mono ?_; rintro e w1 ⟨hb1, hno, _⟩
    obtain rfl := hno ho
    clear hno HW ho
    go_wp2
    go_ret2
    exact IntsOk.no hb1.size (by simp) (hb1.alloc hb1.size _)
  | true =>
    have hbx : bestX l free f t = (allC l free (passL l f t) 4).mergeSort (fun x y => decide (x ≤ y)) := by
      rw [allC_sort (okT_valid ho)]; unfold bestX; rw [if_pos ho]
    rw [hbx]
    clear hbx
    obtain ⟨xs, hxs⟩ : ∃ xs : List Int, xs = (allC l free (passL l f t) 4).mergeSort (fun x y => decide (x ≤ y)) := ⟨_, rfl⟩
    rw [← hxs]
    have hz := okT_valid ho
    have hten := (validG_iff.1 hz).1
    have hpl := passL_len l f t
    have hp := passL_pas hz f t
    have hp10 : (passL l f t).length ≤ 10 := by omega
    have HPs := Lib.hid hp
    have HPl := Lib.hid (fun (wb : Nat) (vp : Value) (w' : World) (hW : WayAt w' wb v vp l (passL l f t) free) => plans_any wb v vp l _ free w' hW (okT_free ho) hp (by omega))
    clear hv hz hp
    go_enter Try.func51, Try.ntmps51
    go_wp2_with fail
    refine HW.out.mono ?_; rintro e w1 ⟨hb1, _, hyes⟩
    obtain ⟨wb, vp, rfl, hW1⟩ := hyes ho
    have hbx : Below w1.heap.size w1 (w1.alloc (.cells #[] 3)) := (Below.refl _ _).alloc (Nat.le_refl _) _
    have hq := Whole.made w1 3 #[]
    have hr0 := RowI.made w1 w1.heap.size (Nat.le_refl _)
    have HP1 := Lib.hid (HPl.out wb vp _ (hW1.below hbx))
    have HB2 := Lib.hid (hb1.trans (hbx.mono hb1.size))
    have hs1 := hb1.size
    have HQ := Lib.hid hq; have HR0 := Lib.hid hr0
    clear hyes HW ho hb1 HPl hW1 hbx hq hr0
    go_wp2_with fail
    refine HP1.out.mono ?_; rintro e w3 ⟨pr, blk, rfl, hc, hpa, hb3⟩
    have HB3 := Lib.hid (HB2.out.trans (hb3.mono HB2.out.size))
    have hs3 : w1.heap.size < w3.heap.size := by have := hb3.size; rw [World.size_alloc] at this; omega
    have HQ3 := Lib.hid (HQ.out.below hb3 (by rw [World.size_alloc]; omega))
    have HG3 := Lib.hid (RowG.made w1 w3 hs3 (HR0.out.below hb3))
    have Hc := Lib.hid hc; have Hpa := Lib.hid hpa
    clear hc hpa hb3 HP1 HB2 HR0 HQ
    generalize hqq : w1.heap.size = q at *
    generalize passL l f t = ps at *
    go_wp2
    go_loopw [12, 30] (fun u i wr => Tb3Rel l free ps w w3 q u i wr) (fun _ i _ => 4 - (intOf i).toNat)
    case atStart => exact ⟨0, _, _, by omega, rfl, rfl, HG3.out, HB3.out⟩
    case round =>
      obtain ⟨k, g, cap, hk, rfl, rfl, hG, hbel⟩ := hrel
      by_cases hlt : k < 4
      · have hlt' : (k : Int) < 4 := by omega
        have hk0 : (0 : Int) ≤ (k : Int) := Int.natCast_nonneg _
        have hck0 := Hc.out k hlt
        have hck : wr.cell? ⟨pr, k, none⟩ = _ := (World.cell?_of_block (hG.touch.block pr (World.block_lt_of_cell? _ _ hck0) (fun e => by subst e; exact HQ3.out.bare hck0))).trans hck0
        have hpw := Hpa.out k hlt
        have hps : Pas l (trI l (k : Int) ps) := HPs.out.filter _
        have hlen : (allC l free ps (k + 1)).length ≤ 40 := by
          have h1 := allC_len l free ps (k + 1)
          have h2 : (k + 1) * ps.length ≤ 4 * 10 := Nat.mul_le_mul (by omega) hp10
          omega
        have hsucc : allC l free ps k ++ chI l free (trI l (k : Int) ps) = allC l free ps (k + 1) := rfl
        have HG0 := Lib.hid hG; have HB0 := Lib.hid hbel; have HPw := Lib.hid hpw; have HPas := Lib.hid hps; have Hs := Lib.hid hsucc
        clear hck0 hG hbel hpw hps hsucc
        generalize hto : allC l free ps k = out0 at *
        generalize htg : allC l free ps (k + 1) = tgt at *
        generalize trI l (k : Int) ps = s0 at *
        have Hto := Lib.hid hto; have Htg := Lib.hid htg
        clear hto htg
        obtain ⟨w5, hw5⟩ : ∃ w5 : World, w5 = wr := ⟨wr, rfl⟩
        subst hw5
        go_wp2
        go_loopw [12, 14] (fun u p wr => Tb4Rel blk l free tgt w w3 q u p wr) (fun u _ _ => tgt.length - lenS8 u)
        case atStart => exact ⟨s0, out0, _, _, rfl, rfl, HG0.out, Hs.out, HPw.out, HPas.out, HB0.out⟩
        case round =>
          obtain ⟨s, out, g5, cp5, rfl, rfl, hG, htgt, hpa, hps, hbel⟩ := hrel
          have hol : out.length + (chI l free s).length = tgt.length := by rw [← htgt, List.length_append]
          cases s with
          | nil =>
            obtain rfl : out = tgt := by rw [← htgt]; simp [chI]
            have HG := Lib.hid hG; have HB := Lib.hid hbel
            clear hG hbel hpa hps htgt hol
            have hptr : ptrA blk [] = none := rfl
            rw [hptr]
            go_wp2
            exact ⟨⟨k + 1, g5, cp5, by omega, by go_num, by rw [Htg.out], by rw [Htg.out]; exact HG.out, HB.out⟩, by simp [intOf]; omega⟩
          | cons j s =>
            have hptr : ptrA blk (j :: s) = some ⟨blk j, 0, none⟩ := rfl
            rw [hptr]
            have hst := chI_step (free := free) hps
            rw [hst] at htgt hol
            rw [List.length_cons] at hol
            have hpo := PlansAt.off HQ3.out hpa
            have hpw := hpa.touch8 hG.touch hpo
            have hc0 := hpw.1.cell (i := 0) rfl
            replace hc0 : wr.cell? ⟨blk j, 0, none⟩ = some (.int .i64 j) := hc0
            have hs7 := hbel.size
            have hs9 := hG.touch.size
            have hrow' := hG.row; unfold RowI at hrow'
            have HG := Lib.hid hG; have HBw := Lib.hid hbel; have HTg := Lib.hid htgt; have HPa := Lib.hid hpa; have HPs5 := Lib.hid hps; have Hpo := Lib.hid hpo
            clear hG hbel htgt hpa hps hpw hst hpo hptr
            generalize hen : out.map (Value.int .i64) = en at *
            generalize hmm : out.length = m at *
            have Hen := Lib.hid hen; have Hmm := Lib.hid hmm; clear hen hmm
            have hm40 : m ≤ 40 := by omega
            go_wp2_with (at_builtin; refine wpList_append_lies _ rfl _ _ 39 rfl q 3 i0 _ 1 8 Try.underlying39 hi0 hz0 hz1 hz2 rfl (by decide) _ m en rfl (World.ownsRow.alloc hrow' _) ⟨wr.heap.size, 0, none⟩ 1 1 [.int .i64 j] rfl rfl (one_int8 wr j) (by simp [Value.oneCell']) (by decide) (by simp only [maxLen]; omega) (by omega) (by simp; omega) (wr.heap.size + 1) (by simp) ?_; intro g8 cp8 w8 hown8 hgrow8 hat8 hlt8; have HB8 := Lib.hid ((HBw.out.alloc HBw.out.size _).grown hgrow8 (by simp; omega) (fun j hj => Nat.le_trans hs1 (hrow'.lt j hj).1)); have hG9 := RowG.snoc HG.out (by rw [Hmm.out, Hen.out]; exact hown8) hgrow8 hat8; have hc2 : w8.cell? ⟨blk j, 2, none⟩ = some (.pointer (ptrA blk (nxI l free j s))) := (by unfold nxI; rw [← ptrB_nx]; exact (HPa.out.touch8 hG9.touch Hpo.out).1.cell (i := 2) rfl); have HG9 := Lib.hid hG9; clear hown8 hgrow8 hat8 hrow' hG9)
            have hml : (out ++ [j]).length = m + 1 := by rw [List.length_append, Hmm.out]; rfl
            go_wp2
            exact ⟨⟨nxI l free j s, out ++ [j], g8, cp8, by rw [hml], rfl, HG9.out, by rw [List.append_assoc]; exact HTg.out, HPa.out.nx, HPs5.out.nx, HB8.out⟩, by simp [lenS8]; omega⟩
      · obtain rfl : k = 4 := by omega
        have hz40 : (allC l free ps 4).length ≤ 40 := by
          have h1 := allC_len l free ps 4
          omega
        have hlm : ((allC l free ps 4).mergeSort (fun x y => decide (x ≤ y))).length = (allC l free ps 4).length := List.length_mergeSort _
        generalize allC l free ps 4 = zs at *
        have hrow' := hG.row; unfold RowI at hrow'
        have HSt := Lib.hid (sortI8 hG.row (by omega))
        have HB := Lib.hid hbel
        have hs9 := hG.touch.size
        have Hrow := Lib.hid hrow'
        clear hG hbel hrow'
        go_wp2_with fail
        refine HSt.out.mono ?_; rintro e w9 ⟨rfl, hown, hgrow⟩
        have HB9 := Lib.hid (HB.out.grown hgrow HB.out.size (fun j hj => Nat.le_trans hs1 (Hrow.out.lt j hj).1))
        have hr9 : RowI w9 q (.slice (some ⟨g, 0, none⟩) zs.length cap) xs := by
          unfold RowI; rw [hxs, hlm]; exact hown
        have HR9 := Lib.hid hr9
        clear hown hgrow hr9 HSt
        clear hxs hlm
        go_wp2
        go_ret2
        exact IntsOk.row true HR9.out hs1 HB9.out

end Go.Proofs.Ythhllpnbmelidaa
