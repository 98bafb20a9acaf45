/- The model's TollEach. -/
import Derived.Test.YthhllpnbmelidaaGX
namespace Go.Proofs.Ythhllpnbmelidaa
open Go.RowKit
set_option linter.unusedVariables false
set_option linter.unusedSimpArgs false

def eachTo (l : List Gt) (free f t : Int) (n : Nat) : List Int := (List.range n).map (fun (j : Nat) => eachT l free f t (j : Int))
theorem eachTo_len (l : List Gt) (free f t : Int) (n : Nat) : (eachTo l free f t n).length = n := by simp [eachTo]
theorem eachTo_succ (l : List Gt) (free f t : Int) (n : Nat) : eachTo l free f t (n + 1) = eachTo l free f t n ++ [eachT l free f t (n : Int)] := by simp [eachTo, List.range_succ]
theorem eachX_no {l : List Gt} {free f t : Int} (h : okT l free f t = false) : eachX l free f t = [] := by unfold eachX; rw [h]; rfl
theorem eachX_yes {l : List Gt} {free f t : Int} (h : okT l free f t = true) : eachX l free f t = eachTo l free f t 4 := by unfold eachX; rw [if_pos h]; rfl
theorem least_own {l : List Gt} {free f t : Int} (h : okT l free f t = true) {b : Int} (hb : 0 ≤ b ∧ b ≤ 3) : leastX (onlyT b l) free f t = eachT l free f t b := by
  unfold leastX
  rw [if_pos (okT_own h b), leastV_own (okT_valid h) free f t hb]
theorem onlyT_succ {l : List Gt} {b : Int} {i : Nat} (h : i < l.length) : onlyT b (l.take (i + 1)) = if (l.getD i gt0).b = b then onlyT b (l.take i) ++ [l.getD i gt0] else onlyT b (l.take i) := by
  rw [Gt.take_snoc l i h]
  unfold onlyT
  rw [List.filter_append]
  by_cases e : (l.getD i gt0).b = b
  · rw [if_pos e, List.filter_cons_of_pos (by simpa using e)]; rfl
  · rw [if_neg e, List.filter_cons_of_neg (by simpa using e)]; simp
theorem onlyT_len (b : Int) (l : List Gt) : (onlyT b l).length ≤ l.length := List.length_filter_le _ _

def Te1Rel (l : List Gt) (free f t : Int) (w : World) (u i : Value) (wr : World) : Prop :=
  ∃ k : Nat, k ≤ 4 ∧ i = .int .i64 k ∧ RowI wr w.heap.size u (eachTo l free f t k) ∧ Below w.heap.size w wr
def Te2Rel (l : List Gt) (b : Int) (w5 : World) (u i : Value) (wr : World) : Prop :=
  ∃ k : Nat, k ≤ l.length ∧ i = .int .i64 k ∧ RowGt wr w5.heap.size u (onlyT b (l.take k)) ∧ Below w5.heap.size w5 wr

set_option maxRecDepth 100000 in
set_option maxHeartbeats 4000000 in
theorem te1_any (v : Value) (l : List Gt) (free f t : Int) (w : World) (hv : GtIn w v l) (hl : l.length ≤ 1048576) :
    Calls Try.prog 52 #[v, .int .i64 free, .int .i64 f, .int .i64 t] w (IntsOk (eachX l free f t) (okT l free f t) w) := by
  obtain ⟨i0, hi0, hz0, hz1, hz2⟩ := info_parts Try.info3
  obtain ⟨j0, hj0, hy0, hy1, hy2⟩ := info_parts infoGt
  have HO := Lib.hid (fun w' (h : Below w.heap.size w w') => ok1_any v l free f t w' (hv.below h) hl)
  have Hb0 := Lib.hid ((Below.refl w.heap.size w).alloc (Nat.le_refl _) (.cells #[] 3))
  have HR0 := Lib.hid (RowI.made w w.heap.size (Nat.le_refl _))
  cases ho : okT l free f t with
  | false =>
    rw [eachX_no ho]
    have Ho := Lib.hid ho
    clear hv ho
    go_enter Try.func52, Try.ntmps52
    go_wp2_with fail
    refine (HO.out _ Hb0.out).mono ?_; rintro e w1 ⟨rfl, hb1⟩
    rw [Ho.out]
    have HB1 := Lib.hid (Hb0.out.trans (hb1.mono Hb0.out.size))
    have HR1 := Lib.hid (HR0.out.below hb1)
    clear hb1
    go_wp2
    go_ret2
    exact IntsOk.row false HR1.out (Nat.le_refl _) HB1.out
  | true =>
    rw [eachX_yes ho]
    have hten := (validG_iff.1 (okT_valid ho)).1
    have HLo := Lib.hid (fun (b : Int) (hb : 0 ≤ b ∧ b ≤ 3) => least_own ho hb)
    have Ho := Lib.hid ho
    obtain ⟨a, cap, rfl, _, ha⟩ := hv
    have Ha := Lib.hid ha
    clear ho ha
    go_enter Try.func52, Try.ntmps52
    go_wp2_with fail
    refine (HO.out _ Hb0.out).mono ?_; rintro e w1 ⟨rfl, hb1⟩
    rw [Ho.out]
    have HB1 := Lib.hid (Hb0.out.trans (hb1.mono Hb0.out.size))
    have HR1 := Lib.hid (HR0.out.below hb1)
    clear hb1 HO
    go_wp2
    go_loopw [10, 11] (fun u i wr => Te1Rel l free f t w u i wr) (fun _ i _ => 4 - (intOf i).toNat)
    case atStart => exact ⟨0, by omega, rfl, HR1.out, HB1.out⟩
    case round =>
      obtain ⟨k, hk, rfl, hrow, hbel⟩ := hrel
      by_cases hlt : k < 4
      · have hlt' : (k : Int) < 4 := by omega
        have hk0 : (0 : Int) ≤ (k : Int) := Int.natCast_nonneg _
        obtain ⟨w5, hw5⟩ : ∃ w5 : World, w5 = wr := ⟨wr, rfl⟩
        subst hw5
        have Hx := Lib.hid ((Below.refl w5.heap.size w5).alloc (Nat.le_refl _) (.cells #[] 33))
        have HBr := Lib.hid hbel
        have HRr := Lib.hid hrow
        have HG0 := Lib.hid (RowGt.made w5 w5.heap.size (Nat.le_refl _))
        clear hbel hrow
        go_wp2
        go_loopw [12, 13] (fun u i wq => Te2Rel l (k : Int) w5 u i wq) (fun _ i _ => l.length - (intOf i).toNat)
        case atStart => exact ⟨0, Nat.zero_le _, rfl, HG0.out, Hx.out⟩
        case round =>
          obtain ⟨i, hi, rfl, hown, hbel⟩ := hrel
          by_cases hil : i < l.length
          · obtain ⟨b, o, rfl, hb0, hrw⟩ := Ha.out (by intro h; simp [h] at hil)
            have hi0' : (0 : Int) ≤ (i : Int) := Int.natCast_nonneg _
            have hi1 : (i : Int) < (l.length : Int) := by omega
            have hBw := HBr.out.trans (hbel.mono HBr.out.size)
            obtain ⟨c0, c1, c2⟩ := (hrw.below hBw hb0) i hil
            have hsucc := onlyT_succ (b := (k : Int)) hil
            have hlen := onlyT_len (k : Int) (l.take i)
            rw [List.length_take] at hlen
            have hm9 : (onlyT (k : Int) (l.take i)).length ≤ 10 := by omega
            have HB6 := Lib.hid hbel
            have hs6 := hbel.size
            generalize hgr : l.getD i gt0 = r at *
            obtain ⟨xa, xb, xm⟩ := r
            simp only at c0 c1 c2 hsucc
            have Hs := Lib.hid hsucc
            clear hrw hBw hbel hsucc hlen hgr
            by_cases q : xb = (k : Int)
            · have q' : (xb == (k : Int)) = true := by simpa using q
              have Hy := Lib.hid (Hs.out.trans (if_pos q))
              clear q Hs
              unfold RowGt at hown
              generalize hen : encGt (onlyT (k : Int) (l.take i)) = en at *
              generalize hmm : (onlyT (k : Int) (l.take i)).length = m at *
              have Hen := Lib.hid hen; have Hmm := Lib.hid hmm; clear hen hmm
              go_wp2_with (at_builtin; refine wpList_append_own _ rfl _ _ 25 rfl w5.heap.size 33 j0 _ 3 24 Try.underlying25 hj0 hy0 hy1 hy2 rfl (by omega) _ m en rfl (hown.alloc _) ⟨wr.heap.size, 0, none⟩ 1 1 [.int .i64 xa, .int .i64 xb, .int .i64 xm] rfl rfl (news1 wr #[.int .i64 xa, .int .i64 xb, .int .i64 xm] 33) (by simp [Value.oneCell']) (by simp only [maxLen]; omega) (by omega) (by simp; omega) ?_; intro v' w8 hown8 hgrow8 _; have HO8 := Lib.hid hown8; have HB8 := Lib.hid ((HB6.out.alloc HB6.out.size _).grown hgrow8 (by simp; omega) (fun j hj => (hown.lt j hj).1)); clear hown8 hgrow8 hown)
              rw [← Hen.out, ← Hmm.out] at HO8
              have HO9 := Lib.hid (RowGt.snoc (r := ⟨xa, xb, xm⟩) HO8.out)
              rw [← Hy.out] at HO9
              go_wp2
              exact ⟨⟨i + 1, hil, by go_num, HO9.out, HB8.out⟩, by simp [intOf]; omega⟩
            · have q' : (xb == (k : Int)) = false := by simpa using q
              have Hy := Lib.hid (Hs.out.trans (if_neg q))
              clear q Hs
              have HO := Lib.hid hown
              rw [← Hy.out] at HO
              clear hown
              go_wp2
              exact ⟨⟨i + 1, hil, by go_num, HO.out, HB6.out⟩, by simp [intOf]; omega⟩
          · obtain rfl : i = l.length := by omega
            rw [List.take_length] at hown
            have HBw := Lib.hid (HBr.out.trans (hbel.mono HBr.out.size))
            have HRw := Lib.hid (HRr.out.below hbel)
            obtain ⟨ad, cp, rfl, hcp, hrd, _⟩ := hown.row
            have HTL := Lib.hid (tl1_any _ (onlyT (k : Int) l) free f t wr (hrd.ins hcp) (by have := onlyT_len (k : Int) l; omega))
            rw [HLo.out (k : Int) (by omega)] at HTL
            have hsucc := eachTo_succ l free f t k
            have hel := eachTo_len l free f t k
            have Hs := Lib.hid hsucc
            clear hown hrd hcp hbel hsucc
            generalize eachT l free f t (k : Int) = x at *
            generalize (onlyT (k : Int) l).length = no at *
            go_wp2_with fail
            refine HTL.out.mono ?_; rintro e w7 ⟨rfl, hb7⟩
            have HB7 := Lib.hid (HBw.out.trans (hb7.mono HBw.out.size))
            have HR7 := Lib.hid (HRw.out.below hb7)
            have hs7 := HB7.out.size
            clear hb7 HTL HRw
            have hrow' := HR7.out; unfold RowI at hrow'
            generalize hen : (eachTo l free f t k).map (Value.int .i64) = en at *
            generalize hmm : (eachTo l free f t k).length = m at *
            have Hen := Lib.hid hen; have Hmm := Lib.hid hmm; clear hen hmm
            have hm4 : m ≤ 4 := by omega
            clear hel
            go_wp2_with (at_builtin; refine wpList_append_own _ rfl _ _ 39 rfl w.heap.size 3 i0 _ 1 8 Try.underlying39 hi0 hz0 hz1 hz2 rfl (by decide) _ m en rfl (World.ownsRow.alloc hrow' _) ⟨w7.heap.size, 0, none⟩ 1 1 [.int .i64 x] rfl rfl (one_int8 w7 x) (by simp [Value.oneCell']) (by simp only [maxLen]; omega) (by omega) (by simp; omega) ?_; intro v' w8 hown8 hgrow8 _; have HO8 := Lib.hid hown8; have HB8 := Lib.hid ((HB7.out.alloc HB7.out.size _).grown hgrow8 (by simp; omega) (fun j hj => (hrow'.lt j hj).1)); clear hown8 hgrow8 hrow')
            rw [← Hen.out, ← Hmm.out] at HO8
            have HO9 := Lib.hid (RowI.snoc HO8.out)
            rw [← Hs.out] at HO9
            go_wp2
            exact ⟨⟨k + 1, by omega, by go_num, HO9.out, HB8.out⟩, by simp [intOf]; omega⟩
      · obtain rfl : k = 4 := by omega
        have HR := Lib.hid hrow
        have HB := Lib.hid hbel
        clear hrow hbel
        generalize eachTo l free f t 4 = xs at *
        go_wp2
        go_ret2
        exact IntsOk.row true HR.out (Nat.le_refl _) HB.out

end Go.Proofs.Ythhllpnbmelidaa
