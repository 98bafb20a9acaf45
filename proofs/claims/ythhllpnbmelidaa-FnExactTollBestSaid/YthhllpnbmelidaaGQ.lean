/- The model's TollSum and TollMust. -/
import Derived.Test.YthhllpnbmelidaaGP
import Derived.Deep.AppendLies
namespace Go.Proofs.Ythhllpnbmelidaa
open Go.RowKit
set_option linter.unusedVariables false
set_option linter.unusedSimpArgs false

def Ts1Rel (l : List Gt) (paid : List Int) (w : World) (s i : Value) (wr : World) : Prop := ∃ k : Nat, k ≤ paid.length ∧ s = .int .i64 (sumTo l paid k) ∧ i = .int .i64 k ∧ Below w.heap.size w wr

set_option maxRecDepth 100000 in
set_option maxHeartbeats 1000000 in
theorem ts1_any (v : Value) (l : List Gt) (free f t : Int) (vp : Value) (paid : List Int) (w : World) (hv : GtIn w v l) (hp : IntsIn w vp paid) (hl : l.length ≤ 1048576) (hpl : paid.length ≤ 1048576) :
    Calls Try.prog 44 #[v, .int .i64 free, .int .i64 f, .int .i64 t, vp] w (Gives (.int .i64 (sumX l free f t paid)) w) := by
  have HV := Lib.hid (tv1_any v l free f t vp paid w hv hp hl hpl)
  cases hz : validT l free f t paid with
  | false =>
    have Hr := Lib.hid (show sumX l free f t paid = -1 by unfold sumX; rw [hz]; rfl)
    rw [hz] at HV
    clear hv hp hz
    go_enter Try.func44, Try.ntmps44
    go_wp2_with fail
    refine HV.out.mono ?_; rintro e w1 ⟨rfl, hb1⟩
    go_wp2
    go_ret
    rw [Hr.out]
    exact ⟨rfl, hb1⟩
  | true =>
    have Hr := Lib.hid (show sumX l free f t paid = sumTo l paid paid.length by unfold sumX; rw [hz]; rfl)
    have h10 := validT_len hz
    have hvg := okT_valid (validT_ok hz)
    have hin : ∀ k ∈ paid, 0 ≤ k ∧ k < l.length := fun k hk => ⟨(validT_in hz hk).1, (validT_in hz hk).2.1⟩
    have Hbd := Lib.hid (fun (n : Nat) (h : n ≤ paid.length) => sumTo_bd (l := l) (paid := paid) hvg hin h)
    have Hin := Lib.hid hin
    have Hvg := Lib.hid hvg
    rw [hz] at HV
    obtain ⟨a, cap, rfl, _, ha⟩ := hv
    obtain ⟨g1, cp1, rfl, _, hp1⟩ := hp
    have Ha := Lib.hid ha
    have Hp := Lib.hid hp1
    clear ha hp1 hz hvg hin
    go_enter Try.func44, Try.ntmps44
    go_wp2_with fail
    refine HV.out.mono ?_; rintro e w1 ⟨rfl, hb1⟩
    have HB1 := Lib.hid hb1
    clear hb1
    go_wp2
    go_loopw [11, 12] (fun s i wr => Ts1Rel l paid w s i wr) (fun _ i _ => paid.length - (intOf i).toNat)
    case atStart => exact ⟨0, Nat.zero_le _, rfl, rfl, HB1.out⟩
    case round =>
      obtain ⟨k, hk, rfl, rfl, hbel⟩ := hrel
      obtain ⟨s0, s1⟩ := Hbd.out k hk
      by_cases hlt : k < paid.length
      · obtain ⟨pb, po, rfl, hpb, hprw⟩ := Hp.out (by intro h; simp [h] at hlt)
        have d0 := (hprw.below hbel hpb) k hlt
        have hsucc : sumTo l paid (k + 1) = sumTo l paid k + (gAt l (paid.getD k 0)).m := rfl
        obtain ⟨x0, x1⟩ := Hin.out _ (mem_getD8.2 ⟨k, hlt, rfl⟩)
        have hk0 : (0 : Int) ≤ (k : Int) := Int.natCast_nonneg _
        have hk1 : (k : Int) < (paid.length : Int) := by omega
        have Hbel := Lib.hid hbel
        generalize sumTo l paid k = sm at *
        generalize paid.getD k 0 = px at *
        obtain ⟨x, rfl⟩ : ∃ x : Nat, px = x := ⟨px.toNat, by omega⟩
        have hx : x < l.length := by omega
        obtain ⟨b, o, rfl, hb0, hrw⟩ := Ha.out (by intro h; simp [h] at hx)
        obtain ⟨c0, c1, c2⟩ := (hrw.below hbel hb0) x hx
        have hgx : gAt l (x : Int) = l.getD x gt0 := by unfold gAt; rw [Int.toNat_natCast]
        rw [hgx] at hsucc
        have hzx := validG_at Hvg.out hx
        have Hs := Lib.hid hsucc
        clear hprw hrw hgx hsucc hbel c0 c1
        generalize (l.getD x gt0).m = xm at *
        have hw : IntKind.i64.wrap (sm + xm) = sm + xm := IntWalk.i64_in _ (by omega)
        go_wp2
        exact ⟨⟨k + 1, hlt, by rw [Hs.out], by go_num, Hbel.out⟩, by simp [intOf]; omega⟩
      · obtain rfl : k = paid.length := by omega
        have Hbel := Lib.hid hbel
        clear hbel
        go_wp2
        go_ret
        rw [Hr.out]
        exact ⟨rfl, Hbel.out⟩

theorem mustX_no {l : List Gt} {free f t : Int} (h : okT l free f t = false) : mustX l free f t = [] := by unfold mustX; rw [h]; rfl
theorem mustX_yes {l : List Gt} {free f t : Int} (h : okT l free f t = true) : mustX l free f t = mustT l free (passL l f t) [] := by unfold mustX; rw [if_pos h]
theorem drop_cons8 {s : List Int} {k : Nat} (h : k < s.length) : s.drop k = s.getD k 0 :: s.drop (k + 1) := by
  rw [List.drop_eq_getElem_cons h]
  simp [List.getD, h]
theorem Touch.low {S : Nat → Prop} {w w1 w' : World} (h : Touch S w w1) (h2 : Touch (fun j => S j ∨ w.heap.size ≤ j) w1 w') : Touch S w w' :=
  ⟨h2.os.trans h.os, h2.tape.trans h.tape, h2.output.trans h.output, Nat.le_trans h.size h2.size, fun j hj hn => (h2.block j (Nat.lt_of_lt_of_le hj h.size) (fun e => e.elim hn (fun e => by omega))).trans (h.block j hj hn)⟩
/-- A row that grows in block g, which was the B-th block or is newer than w2. -/
structure RowG (B : Nat) (w2 wr : World) (g cap : Nat) (out : List Int) : Prop where
  row : RowI wr B (.slice (some ⟨g, 0, none⟩) out.length cap) out
  at_ : g = B ∨ w2.heap.size ≤ g
  touch : Touch (fun j => j = B) w2 wr
theorem RowG.below {B : Nat} {w2 wr w' : World} {g cap : Nat} {out : List Int} (h : RowG B w2 wr g cap out) (hb : Below wr.heap.size wr w') : RowG B w2 w' g cap out :=
  ⟨h.row.below hb, h.at_, h.touch.trans (Touch.of_below hb)⟩
theorem RowG.snoc {B : Nat} {w2 wr w8 : World} {g cap g8 cp8 : Nat} {out : List Int} {x : Int} (h : RowG B w2 wr g cap out) (ho : w8.ownsRow B 3 1 (.slice (some ⟨g8, 0, none⟩) (out.length + 1) cp8) (out.length + 1) (out.map (Value.int .i64) ++ [.int .i64 x]))
    (hg : (wr.alloc (.cells #[.int .i64 x] 3)).grownBy w8 (some g)) (hat : some g = some g8 ∨ g8 = wr.heap.size + 1) : RowG B w2 w8 g8 cp8 (out ++ [x]) := by
  have hsz := h.touch.size
  refine ⟨?_, ?_, h.touch.low ((Touch.of_below ((Below.refl _ wr).alloc (Nat.le_refl _) (.cells #[.int .i64 x] 3))).trans (Touch.grown hg ?_))⟩
  · have := RowI.snoc ho
    rw [List.length_append]
    exact this
  · rcases hat with e | e
    · injection e with e; subst e; exact h.at_
    · exact .inr (by omega)
  · exact h.at_
theorem RowG.made (w w2 : World) (h : w.heap.size < w2.heap.size) (hr : RowI w2 w.heap.size (.slice (some ⟨w.heap.size, 0, none⟩) 0 0) []) : RowG w.heap.size w2 w2 w.heap.size 0 [] := ⟨hr, .inl rfl, Touch.refl _ _⟩
/-- What is paid so far leads to the same end. -/
def Tm1Rel (l : List Gt) (free : Int) (ps xs : List Int) (w w2 : World) (u i : Value) (wr : World) : Prop :=
  ∃ (k : Nat) (out : List Int) (g cap : Nat), k ≤ ps.length ∧ i = .int .i64 k ∧ u = .slice (some ⟨g, 0, none⟩) out.length cap ∧ RowG w.heap.size w2 wr g cap out ∧ out.length ≤ k ∧ (∀ x ∈ out, 0 ≤ x ∧ x < l.length) ∧ mustT l free (ps.drop k) out = xs ∧ Below w.heap.size w wr

set_option maxRecDepth 100000 in
set_option maxHeartbeats 2000000 in
theorem tm1_any (v : Value) (l : List Gt) (free f t : Int) (w : World) (hv : GtIn w v l) (hl : l.length ≤ 1048576) :
    Calls Try.prog 46 #[v, .int .i64 free, .int .i64 f, .int .i64 t] w (IntsOk (mustX l free f t) (okT l free f t) w) := by
  obtain ⟨i0, hi0, hz0, hz1, hz2⟩ := info_parts Try.info3
  have HP := Lib.hid (fun w' (h : Below w.heap.size w w') => pass1_any v l f t w' (hv.below h) hl)
  have HO := Lib.hid (fun w' (h : Below w.heap.size w w') => ok1_any v l free f t w' (hv.below h) hl)
  have Hb0 := Lib.hid ((Below.refl w.heap.size w).alloc (Nat.le_refl _) (.cells #[] 3))
  have HR0 := Lib.hid (RowI.made w w.heap.size (Nat.le_refl _))
  cases ho : okT l free f t with
  | false =>
    rw [mustX_no ho]
    have Ho := Lib.hid ho
    clear hv ho
    go_enter Try.func46, Try.ntmps46
    go_wp2_with fail
    refine (HO.out _ Hb0.out).mono ?_; rintro e w1 ⟨rfl, hb1⟩
    rw [Ho.out]
    have HB1 := Lib.hid (Hb0.out.trans (hb1.mono Hb0.out.size))
    have HR1 := Lib.hid (HR0.out.below hb1)
    clear hb1
    go_wp2
    go_ret2
    exact IntsOk.row false HR1.out (Nat.le_refl _) HB1.out
  | true =>
    rw [mustX_yes ho]
    have hz := okT_valid ho
    have hpx := okT_pass ho
    have hten := (validG_iff.1 hz).1
    have hpn := passL_len l f t
    have HP' := Lib.hid (fun w' (h : Below w.heap.size w w') => hpx ▸ HP.out w' h)
    have HF := Lib.hid (fun (out : List Int) (vo : Value) (hol : out.length ≤ 1048576) (hin : ∀ k ∈ out, 0 ≤ k ∧ k < l.length) (n : Nat) (hn : n < l.length) w' (h : Below w.heap.size w w') (hvo : IntsIn w' vo out) => freed1_any v l free vo out n w' (hv.below h) hz hvo hol hn hin)
    have Hpi := Lib.hid (passL_pas hz f t).i
    have Ho := Lib.hid ho
    obtain ⟨a, cap, rfl, _, _⟩ := hv
    clear ho hz hpx HP
    generalize hps : passL l f t = ps at *
    clear hps
    go_enter Try.func46, Try.ntmps46
    go_wp2_with fail
    refine (HO.out _ Hb0.out).mono ?_; rintro e w1 ⟨rfl, hb1⟩
    rw [Ho.out]
    have HB1 := Lib.hid (Hb0.out.trans (hb1.mono Hb0.out.size))
    have HR1 := Lib.hid (HR0.out.below hb1)
    have hb1s := hb1.size
    clear hb1
    go_wp2_with fail
    refine (HP'.out _ HB1.out).mono ?_; rintro e w2 ⟨ad, cp, rfl, hcp, hown, hin, hb2⟩
    have HB2 := Lib.hid (HB1.out.trans (hb2.mono HB1.out.size))
    have HR2 := Lib.hid (HR1.out.below hb2)
    have Hown := Lib.hid hown
    have hs1 := HB1.out.size
    have hs0 : w.heap.size < w1.heap.size := by have := World.size_alloc w (.cells #[] 3); have := hb1s; omega
    have Hfr := Lib.hid (fun (j : Nat) (h : inBlk ad j) => (show ¬ j = w.heap.size from fun e => by have := (hin j h).1; omega))
    have hs2 := hb2.size
    have Hcp := Lib.hid hcp
    clear hown hin hcp hb2 HO HP' HB1 HR1
    go_wp2
    go_loopw [10, 12] (fun u i wr => Tm1Rel l free ps (mustT l free ps []) w w2 u i wr) (fun _ i _ => ps.length - (intOf i).toNat)
    case atStart => exact ⟨0, [], w.heap.size, 0, Nat.zero_le _, rfl, rfl, RowG.made w w2 (by omega) HR2.out, Nat.zero_le _, fun x hx => absurd hx List.not_mem_nil, rfl, HB2.out⟩
    case round =>
      obtain ⟨k, out, g, cv, hk, rfl, rfl, hG, hol, hoin, hgo, hbel⟩ := hrel
      by_cases hlt : k < ps.length
      · obtain ⟨qb, hqe, hqb, hqr, _⟩ := (Hown.out.touch hG.touch Hfr.out) (by intro h; simp [h] at hlt)
        subst hqe
        have d0 := hqr k hlt
        rw [Nat.zero_add] at d0
        have hkin := Hpi.out _ (mem_getD8.2 ⟨k, hlt, rfl⟩)
        have hdrop := drop_cons8 hlt
        have hk0 : (0 : Int) ≤ (k : Int) := Int.natCast_nonneg _
        have hk1 : (k : Int) < (ps.length : Int) := by omega
        have HBr := Lib.hid hbel
        obtain ⟨av, cv', hve, hcv, hov, hblk⟩ := hG.row.row
        injection hve with hv1 hv2 hv3
        subst hv1 hv3
        have Hin := Lib.hid (hov.ints hcv)
        have HG := Lib.hid hG
        have Hoin := Lib.hid hoin
        have hmx : mustT l free (ps.getD k 0 :: ps.drop (k + 1)) out = if freedG l free out (ps.getD k 0) = true then mustT l free (ps.drop (k + 1)) out else mustT l free (ps.drop (k + 1)) (out ++ [ps.getD k 0]) := rfl
        rw [hdrop, hmx] at hgo
        clear hdrop hmx hqr hbel hG hov hblk hcv hv2
        have Hd := Lib.hid (show ps.drop (k + 1) = ps.drop (k + 1) from rfl)
        generalize hrest : ps.drop (k + 1) = rest at *
        have Hrest := Lib.hid hrest; clear hrest Hd
        generalize ps.getD k 0 = x at *
        obtain ⟨n, rfl⟩ : ∃ n : Nat, x = n := ⟨x.toNat, by omega⟩
        have Hf := Lib.hid (HF.out out _ (by omega) hoin n (by omega) wr HBr.out Hin.out)
        have Hgo := Lib.hid hgo
        clear hoin
        cases h1 : freedG l free out (n : Int) with
        | true =>
          rw [h1] at Hf
          have Hgo2 := Lib.hid ((if_pos h1).symm.trans hgo)
          clear h1 hgo Hgo
          go_wp2_with fail
          refine Hf.out.mono ?_; rintro e w3 ⟨rfl, hb3⟩
          have HG3 := Lib.hid (HG.out.below hb3)
          have HB3 := Lib.hid (HBr.out.trans (hb3.mono HBr.out.size))
          clear hb3
          go_wp2
          exact ⟨⟨k + 1, out, g, cv, hlt, by go_num, rfl, HG3.out, by omega, Hoin.out, by rw [Hrest.out]; exact Hgo2.out, HB3.out⟩, by simp [intOf]; omega⟩
        | false =>
          rw [h1] at Hf
          have Hgo2 := Lib.hid ((if_neg (by rw [h1]; simp)).symm.trans hgo)
          clear h1 hgo Hgo
          go_wp2_with fail
          refine Hf.out.mono ?_; rintro e w3 ⟨rfl, hb3⟩
          have HG3 := Lib.hid (HG.out.below hb3)
          have HB3 := Lib.hid (HBr.out.trans (hb3.mono HBr.out.size))
          have d3 := keepCell hb3 d0
          have hs3 := HB3.out.size
          have hoin2 : ∀ x ∈ out ++ [(n : Int)], 0 ≤ x ∧ x < l.length := fun x hx => by
            rw [List.mem_append, List.mem_singleton] at hx
            rcases hx with hx | rfl
            · exact Hoin.out x hx
            · omega
          have Hoin2 := Lib.hid hoin2
          clear hb3 Hf hoin2 Hin HG
          have hrow' := HG3.out.row; unfold RowI at hrow'
          generalize hen : out.map (Value.int .i64) = en at *
          generalize hmm : out.length = m at *
          have Hen := Lib.hid hen; have Hmm := Lib.hid hmm; clear hen hmm
          go_wp2_with (at_builtin; refine wpList_append_lies _ rfl _ _ 39 rfl w.heap.size 3 i0 _ 1 8 Try.underlying39 hi0 hz0 hz1 hz2 rfl (by decide) _ m en rfl (World.ownsRow.alloc hrow' _) ⟨w3.heap.size, 0, none⟩ 1 1 [.int .i64 (n : Int)] rfl rfl (one_int8 w3 (n : Int)) (by simp [Value.oneCell']) (by decide) (by simp only [maxLen]; omega) (by omega) (by simp; omega) (w3.heap.size + 1) (by simp) ?_; intro g8 cp8 w8 hown8 hgrow8 hat8 hlt8; have HB8 := Lib.hid ((HB3.out.alloc HB3.out.size _).grown hgrow8 (by simp; omega) (fun j hj => (hrow'.lt j hj).1)); have HO8 := Lib.hid hown8; have Hg8 := Lib.hid hgrow8; have Ha8 := Lib.hid hat8; clear hown8 hgrow8 hat8 hrow')
          rw [← Hen.out, ← Hmm.out] at HO8
          have HG9 := Lib.hid (RowG.snoc HG3.out HO8.out Hg8.out Ha8.out)
          have hml : (out ++ [(n : Int)]).length = m + 1 := by rw [List.length_append, Hmm.out]; rfl
          go_wp2
          exact ⟨⟨k + 1, out ++ [(n : Int)], g8, cp8, hlt, by go_num, by rw [hml], HG9.out, by rw [hml]; omega, Hoin2.out, by rw [Hrest.out]; exact Hgo2.out, HB8.out⟩, by simp [intOf]; omega⟩
      · obtain rfl : k = ps.length := by omega
        rw [List.drop_length] at hgo
        obtain rfl : out = mustT l free ps [] := hgo
        have HR := Lib.hid hG.row
        have HB := Lib.hid hbel
        clear hG hbel hoin
        generalize mustT l free ps [] = xs at *
        go_wp2
        go_ret2
        exact IntsOk.row true HR.out (Nat.le_refl _) HB.out

end Go.Proofs.Ythhllpnbmelidaa
