/- RoadsWhole, of the model and of the program. -/
import Derived.Test.YtlkhgnglblgldaaWF
import Derived.Test.YtlkhgnglblgldaaQ
namespace Go.Proofs.Ytlkhgnglblgldaa
open Go.RowKit Go.Maps

/-- The greatest of the first k. -/
def mostTo (g : Int → Int) : Nat → Int
  | 0 => 0
  | k + 1 => max (mostTo g k) (g (k : Int))

theorem mostTo_ge (g : Int → Int) : ∀ {k i : Nat}, i < k → g (i : Int) ≤ mostTo g k
  | k + 1, i, h => by
    unfold mostTo
    by_cases e : i = k
    · subst e; omega
    · have := mostTo_ge g (k := k) (i := i) (by omega); omega

theorem mostTo_nonneg (g : Int → Int) : ∀ k, 0 ≤ mostTo g k
  | 0 => by simp [mostTo]
  | k + 1 => by have := mostTo_nonneg g k; unfold mostTo; omega

theorem mostTo_le (g : Int → Int) {M : Int} (hM : 0 ≤ M) : ∀ {k : Nat}, (∀ i : Nat, i < k → g (i : Int) ≤ M) → mostTo g k ≤ M
  | 0, _ => by simpa [mostTo] using hM
  | k + 1, h => by
    have h1 := mostTo_le g hM (k := k) (fun i hi => h i (by omega))
    have h2 := h k (by omega)
    unfold mostTo; omega

/-- A distance; 100000 for no way. -/
noncomputable def dst (l : List Rd) (s t : Int) : Int := (distO (edge l) s t).getD 100000

theorem dst_bd {n : Int} {l : List Rd} (hz : validR n l = true) (s t : Int) : 0 ≤ dst l s t ∧ dst l s t ≤ 100000 := by
  unfold dst
  cases h : distO (edge l) s t with
  | none => simp
  | some d => have := dist_bd hz h; simp; omega

/-- What l1Most is. -/
noncomputable def mostOf (n : Int) (l : List Rd) (s : Int) : Int := mostTo (dst l s) n.toNat

theorem mostOf_bd {n : Int} {l : List Rd} (hz : validR n l = true) (s : Int) : 0 ≤ mostOf n l s ∧ mostOf n l s ≤ 100000 :=
  ⟨mostTo_nonneg _ _, mostTo_le _ (by omega) (fun i _ => (dst_bd hz s i).2)⟩

def MostRel (n : Int) (l : List Rd) (s : Int) (w : World) (u i : Value) (wr : World) : Prop := ∃ k : Nat, (k : Int) ≤ n ∧ i = .int .i64 k ∧ u = .int .i64 (mostTo (dst l s) k) ∧ Below w.heap.size w wr

set_option maxRecDepth 100000 in
set_option maxHeartbeats 600000 in
theorem l1Most_any (n : Int) (v : Value) (l : List Rd) (s : Int) (w : World) (hv : RoadsIn w v l) (hz : validR n l = true) (hs0 : 0 ≤ s) (hs1 : s < n) :
    Calls Try.prog 81 #[.int .i64 n, v, .int .i64 s] w (Gives (.int .i64 (mostOf n l s)) w) := by
  have hf := l1Far_any n v l s w hv hz hs0 hs1
  have Hf := Lib.hid hf; clear hf hv
  obtain ⟨hn1, hn8, _, _⟩ := valid_bounds hz
  have Hz := Lib.hid hz; clear hz
  go_enter Try.func81, Try.ntmps81
  go_wp2_with fail
  refine (Hf.out).mono ?_
  rintro e w1 ⟨g, cap, o, rfl, holen, hoc, hg0, hg1, hint, hfo, hbel⟩
  have Hint := Lib.hid hint; clear hint
  have Hfo := Lib.hid hfo; clear hfo
  go_wp2
  go_loopw [7, 9] (fun u i wr => MostRel n l s w1 u i wr) (fun _ i _ => (n - intOf i).toNat)
  case atStart => exact ⟨0, by omega, rfl, rfl, Below.refl _ _⟩
  case round =>
    obtain ⟨k, hk, rfl, rfl, hbel2⟩ := hrel
    by_cases hlt : (k : Int) < n
    · have hko : k < o.length := by omega
      have c0 := (Hint.out.below hbel2 hg1) k hko
      rw [Nat.zero_add] at c0
      have hfk := Hfo.out k (by omega) hlt
      rw [fO_nat o hko] at hfk
      have hst : mostTo (dst l s) (k + 1) = max (mostTo (dst l s) k) (dst l s k) := rfl
      have hd : dst l s k = (distO (edge l) s k).getD 100000 := rfl
      rw [← hd] at hfk
      rw [hfk] at c0
      clear hfk hd
      have Hst := Lib.hid hst; clear hst
      have hko2 : (k : Int) < (o.length : Int) := by omega
      generalize dst l s (k : Int) = dk at *
      generalize mostTo (dst l s) k = mk at *
      go_wp2
      all_goals refine ⟨⟨k + 1, by omega, by go_num, by rw [Hst.out]; congr 1; omega, hbel2⟩, by simp [intOf]; omega⟩
    · have hkn : n.toNat = k := by omega
      have hm : mostOf n l s = mostTo (dst l s) k := by unfold mostOf; rw [hkn]
      have Hm := Lib.hid hm; clear hm hkn
      go_wp2
      go_ret
      exact ⟨ret_int Hm.out.symm, hbel.trans (hbel2.mono hbel.size)⟩

/-- What RoadsWhole is. -/
noncomputable def wholeOf (n : Int) (l : List Rd) : Bool := validR n l && decide (mostOf n l 0 < 100000)

set_option maxRecDepth 100000 in
set_option maxHeartbeats 600000 in
theorem specWhole_any (n : Int) (v : Value) (l : List Rd) (w : World) (hv : RoadsIn w v l) (hl : l.length ≤ 1048576) :
    Calls Try.prog 49 #[.int .i64 n, v] w (Gives (.bool (wholeOf n l)) w) := by
  have h2 := specValid_any n v l w hv hl
  have H2 := Lib.hid h2; clear h2
  have Hv := Lib.hid hv; clear hv
  cases hz : validR n l with
  | false =>
    have hd : wholeOf n l = false := by unfold wholeOf; rw [hz]; rfl
    have Hd := Lib.hid hd; clear hd
    rw [hz] at H2
    clear hz
    go_enter Try.func49, Try.ntmps49
    go_wp2_with fail
    refine (H2.out).mono ?_
    rintro e w' ⟨rfl, hb⟩
    go_wp2
    go_ret
    exact ⟨ret_bool Hd.out.symm, hb⟩
  | true =>
    have hd : wholeOf n l = decide (mostOf n l 0 < 100000) := by unfold wholeOf; rw [hz]; rfl
    have Hd := Lib.hid hd; clear hd
    rw [hz] at H2
    obtain ⟨hn1, hn8, _, _⟩ := valid_bounds hz
    have Hz := Lib.hid hz; clear hz
    have hbd := mostOf_bd Hz.out 0
    obtain ⟨hb0, hb1⟩ := hbd
    go_enter Try.func49, Try.ntmps49
    go_wp2_with fail
    refine (H2.out).mono ?_
    rintro e w1 ⟨rfl, hb⟩
    go_wp2_with fail
    refine (l1Most_any n v l 0 _ (Hv.out.below hb) Hz.out (by omega) (by omega)).mono ?_
    rintro e w2 ⟨rfl, hb2⟩
    generalize mostOf n l 0 = M at *
    go_wp2
    go_ret
    exact ⟨ret_bool Hd.out.symm, hb.trans (hb2.mono hb.size)⟩

theorem whole_iff {n : Int} {l : List Rd} (hz : validR n l = true) : decide (mostOf n l 0 < 100000) = ((List.range n.toNat).all fun i => (distO (edge l) 0 (i : Int)).isSome) := by
  rw [Bool.eq_iff_iff]
  simp only [decide_eq_true_eq, List.all_eq_true, List.mem_range]
  constructor
  · intro h i hi
    have := mostTo_ge (dst l 0) (k := n.toNat) hi
    unfold mostOf at h
    cases hd : distO (edge l) 0 (i : Int) with
    | none => unfold dst at this; rw [hd] at this; simp at this; unfold dst at h; omega
    | some d => rfl
  · intro h
    have := mostTo_le (dst l 0) (M := 792) (by omega) (k := n.toNat) (fun i hi => by
      have := h i hi
      cases hd : distO (edge l) 0 (i : Int) with
      | none => rw [hd] at this; cases this
      | some d => have := dist_bd hz hd; unfold dst; rw [hd]; simp; omega)
    unfold mostOf; omega

/-- Whether all towns are reached from the first. -/
noncomputable def wholeB (n : Int) (g : Int → Int → Option Int) : Bool := (List.range n.toNat).all fun i => (distO g 0 (i : Int)).isSome

theorem size_far {w : World} {n : Int} {g : Int → Int → Option Int} (he : EdgesOk n g) {b c : Nat} {D : DataW Unit} (h : w.ownsMap Try.prog 3 intElem b c D) (hf : ∀ x, W64 x → Maps.has D (.int .i64 x) = (((distN n g 0 x).map dI)).isSome ∧ ∀ z, D.atKey (.int .i64 x) z = ((distN n g 0 x).map dI).getD z) :
    ((Maps.size D : Int) == n) = wholeB n g := by
  have h0 : 0 ≤ (0 : Int) ∧ (0 : Int) < n := ⟨by omega, by have := he.n1; omega⟩
  have hN : ∀ x, distN n g 0 x = distO g 0 x := fun x => by unfold distN; rw [if_pos h0]
  have hs := size_of_map h (f := fun x => (distN n g 0 x).map dI) (fun x wx => (hf x wx).1) (n := n.toNat) (by have := he.n8; omega) (fun x hx => by
    rw [Option.isSome_map, hN] at hx
    obtain ⟨d, hd⟩ := Option.isSome_iff_exists.1 hx
    have := he.town (distO_some.1 hd) h0
    omega)
  have hfun : (fun (i : Nat) => ((distN n g 0 (i : Int)).map dI).isSome) = fun (i : Nat) => (distO g 0 (i : Int)).isSome := by
    funext i; rw [Option.isSome_map, hN]
  rw [hfun] at hs
  have hc := countP_all (n := n.toNat) (p := fun (i : Nat) => (distO g 0 (i : Int)).isSome)
  have hn1 := he.n1
  rw [Bool.eq_iff_iff]
  unfold wholeB
  simp only [beq_iff_eq, List.all_eq_true, List.mem_range]
  rw [← hc, ← hs]
  constructor <;> intro h <;> omega

theorem size_net {w : World} {nb : Nat} {n : Int} {bs : Int → Nat} {D : DataW Unit} (hn0 : 0 ≤ n) (hn : n ≤ 8) {c : Nat} (h : w.ownsMap Try.prog 3 mapElem nb c D) (hf : ∀ x, W64 x → Maps.has D (.int .i64 x) = ((outB n bs x).map fun c : Nat => dI (c : Int)).isSome) : (Maps.size D : Int) = n := by
  have hs := size_of_map h (f := fun x => (outB n bs x).map fun c : Nat => dI (c : Int)) hf (n := n.toNat) (by omega) (fun x hx => by
    rw [Option.isSome_map, outB_isSome] at hx
    have := (hasTown_iff n x).1 hx; omega)
  rw [hs, countP_all.2 (fun i hi => by rw [Option.isSome_map, outB_isSome]; exact (hasTown_iff n _).2 (by omega))]
  omega

set_option maxHeartbeats 400000 in
theorem whole_any (n : Int) (g : Int → Int → Option Int) (nb : Nat) (bs : Int → Nat) (cnt : Nat) (w : World) (h : NetAt w nb n bs cnt g) (he : EdgesOk n g) (hc : cnt ≤ 32) :
    Calls Try.prog 66 #[.map (some nb)] w (Gives (.bool (wholeB n g)) w) := by
  have hd := distances_any n g 0 nb bs cnt w h he (by unfold W64; omega) hc
  have Hd := Lib.hid hd; clear hd
  have H := Lib.hid h; clear h
  have hn8 := he.n8
  have hn1 := he.n1
  have He := Lib.hid he; clear he
  go_enter Try.func66, Try.ntmps66
  go_wp2_with fail
  refine (Hd.out).mono ?_
  rintro e w1 ⟨F, c, rfl, hF0, _, ⟨D, hD, hDf⟩, hb⟩
  obtain ⟨D2, hD2, hDf2⟩ := (H.out.below hb).outer
  have hs1 := size_far He.out hD hDf
  have hs2 := size_net (by omega) hn8 hD2 (fun x wx => (hDf2 x wx).1)
  clear hDf hDf2
  have Hs1 := Lib.hid hs1; clear hs1
  have Hs2 := Lib.hid hs2; clear hs2
  have tok1 : True := trivial
  go_wp2_with (first | (at_len; clear tok1; refine wpList_len_own _ rfl _ 89 rfl 3 3 Try.underlying89 intElem F c D rfl hD ?_) | (at_len; refine wpList_len_own _ rfl _ 79 rfl 3 89 Try.underlying79 mapElem nb 8 D2 rfl hD2 ?_; rw [Hs2.out]))
  go_ret
  exact ⟨ret_bool Hs1.out, hb⟩

set_option maxHeartbeats 400000 in
theorem whole2_any (n : Int) (v : Value) (l : List Rd) (w : World) (hv : RoadsIn w v l) (hl : l.length ≤ 1048576) (hw : RdWf l) :
    Calls Try.prog 30 #[.int .i64 n, v] w (Gives (.bool (wholeOf n l)) w) := by
  have hc := networkOf_any n v l w hv hl hw
  have Hc := Lib.hid hc; clear hc hv
  cases hz : validR n l with
  | true =>
    have hd : wholeOf n l = wholeB n (edge l) := by unfold wholeOf; rw [hz, whole_iff hz]; rfl
    have Hd := Lib.hid hd; clear hd
    have Hz := Lib.hid hz; clear hz
    go_enter Try.func30, Try.ntmps30
    go_wp2_with fail
    refine (Hc.out).mono ?_
    rintro e w1 ⟨h1, _⟩
    obtain ⟨nb, bs, cnt, rfl, hnet, hcn, _, _, hb⟩ := h1 Hz.out
    clear h1
    go_wp2_with fail
    refine (whole_any n _ nb bs cnt _ hnet (edges_ok Hz.out) hcn).mono ?_
    rintro e w2 ⟨rfl, hb2⟩
    go_wp2
    go_ret
    exact ⟨ret_bool Hd.out.symm, hb.trans (hb2.mono hb.size)⟩
  | false =>
    have hd : wholeOf n l = false := by unfold wholeOf; rw [hz]; rfl
    have Hd := Lib.hid hd; clear hd
    have Hz := Lib.hid hz; clear hz
    go_enter Try.func30, Try.ntmps30
    go_wp2_with fail
    refine (Hc.out).mono ?_
    rintro e w1 ⟨_, h1⟩
    obtain ⟨rfl, hb⟩ := h1 Hz.out
    clear h1
    go_wp2
    go_ret
    exact ⟨ret_bool Hd.out.symm, hb⟩

end Go.Proofs.Ytlkhgnglblgldaa
