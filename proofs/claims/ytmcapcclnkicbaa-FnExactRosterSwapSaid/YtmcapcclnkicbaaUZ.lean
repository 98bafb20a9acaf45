/- RosterSwap, model and program. -/
import Derived.Test.YtmcapcclnkicbaaUS
import Derived.Test.YtmcapcclnkicbaaUT
import Derived.Test.YtmcapcclnkicbaaUN
import Derived.Laws.AppendOwn
import Derived.Deep.AppendLies
import Derived.Lib.SliceRun
namespace Go.Proofs.Ytmcapcclnkicbaa
open Go.RowKit

def exch (t a b : Int) : Int := if t = a then b else if t = b then a else t
/-- The first j as they are turned. -/
def swpL (r : List Int) (f : Nat) (a b : Int) (j : Nat) : List Int := (List.range r.length).map fun i => if f ≤ i ∧ i < j then exch (r.getD i 0) a b else r.getD i 0

theorem swpL_len (r : List Int) (f : Nat) (a b : Int) (j : Nat) : (swpL r f a b j).length = r.length := by simp [swpL]
theorem swpL_at {r : List Int} {f : Nat} {a b : Int} {j i : Nat} (h : i < r.length) : (swpL r f a b j).getD i 0 = if f ≤ i ∧ i < j then exch (r.getD i 0) a b else r.getD i 0 := by simp [swpL, List.getD, h]
theorem swpL_start (r : List Int) (f : Nat) (a b : Int) : swpL r f a b f = r := by
  refine List.ext_getElem (swpL_len _ _ _ _ _) fun i h1 h2 => ?_
  rw [← getI _ h1, ← getI _ h2, swpL_at h2, if_neg (by omega)]
theorem swpL_succ {r : List Int} {f : Nat} {a b : Int} {j : Nat} (hf : f ≤ j) (hj : j < r.length) : swpL r f a b (j + 1) = (swpL r f a b j).set j (exch (r.getD j 0) a b) := by
  refine List.ext_getElem (by simp [swpL_len]) fun i h1 h2 => ?_
  rw [swpL_len] at h1
  rw [List.getElem_set]
  simp only [swpL, List.getElem_map, List.getElem_range]
  by_cases e : j = i
  · subst e; rw [if_pos rfl, if_pos ⟨hf, by omega⟩]
  · rw [if_neg e]
    by_cases q : f ≤ i ∧ i < j
    · rw [if_pos ⟨q.1, by omega⟩, if_pos q]
    · rw [if_neg (by omega), if_neg q]
theorem swpL_same {r : List Int} {f : Nat} {a b : Int} {j : Nat} (h : exch (r.getD j 0) a b = r.getD j 0) : swpL r f a b (j + 1) = swpL r f a b j := by
  refine List.ext_getElem (by simp [swpL_len]) fun i h1 h2 => ?_
  rw [swpL_len] at h1
  simp only [swpL, List.getElem_map, List.getElem_range]
  by_cases e : j = i
  · subst e
    by_cases q : f ≤ j
    · rw [if_pos ⟨q, by omega⟩, if_neg (by omega), h]
    · rw [if_neg (by omega), if_neg (by omega)]
  · by_cases q : f ≤ i ∧ i < j
    · rw [if_pos ⟨q.1, by omega⟩, if_pos q]
    · rw [if_neg (by omega), if_neg q]

def swapPre (l : List Rn) (rest : Int) (r : List Int) (f a b : Int) : Bool := rosU l rest r && (decide (0 ≤ f) && decide (f < (l.length : Int))) && teamB a && teamB b
def swapOk (l : List Rn) (rest : Int) (r : List Int) (f a b : Int) : Bool := swapPre l rest r f a b && rosU l rest (swpL r f.toNat a b r.length)
def swapL3 (l : List Rn) (rest : Int) (r : List Int) (f a b : Int) : List Int := if swapOk l rest r f a b = true then swpL r f.toNat a b r.length else []

theorem swapL3_len (l : List Rn) (rest : Int) (r : List Int) (f a b : Int) : (swapL3 l rest r f a b).length ≤ r.length := by
  unfold swapL3; split
  · rw [swpL_len]; exact Nat.le_refl _
  · simp
theorem swap_no {l : List Rn} {rest : Int} {r : List Int} {f a b : Int} (h : swapPre l rest r f a b = false) : swapOk l rest r f a b = false ∧ swapL3 l rest r f a b = [] := by
  have h1 : swapOk l rest r f a b = false := by unfold swapOk; rw [h]; rfl
  exact ⟨h1, if_neg (by rw [h1]; simp)⟩
theorem swap_bad {l : List Rn} {rest : Int} {r : List Int} {f a b : Int} (h : rosU l rest (swpL r f.toNat a b r.length) = false) : swapOk l rest r f a b = false ∧ swapL3 l rest r f a b = [] := by
  have h1 : swapOk l rest r f a b = false := by unfold swapOk; rw [h]; simp
  exact ⟨h1, if_neg (by rw [h1]; simp)⟩
theorem swap_yes {l : List Rn} {rest : Int} {r : List Int} {f a b : Int} (h : swapPre l rest r f a b = true) (h' : rosU l rest (swpL r f.toNat a b r.length) = true) : swapOk l rest r f a b = true ∧ swapL3 l rest r f a b = swpL r f.toNat a b r.length := by
  have h1 : swapOk l rest r f a b = true := by unfold swapOk; rw [h, h']; rfl
  exact ⟨h1, if_pos h1⟩
theorem swapPre_iff {l : List Rn} {rest : Int} {r : List Int} {f a b : Int} : swapPre l rest r f a b = true ↔ rosU l rest r = true ∧ (0 ≤ f ∧ f < (l.length : Int)) ∧ teamB a = true ∧ teamB b = true := by
  simp [swapPre, and_assoc]
theorem swapPre_no {l : List Rn} {rest : Int} {r : List Int} {f a b : Int} (h : ¬ (rosU l rest r = true ∧ (0 ≤ f ∧ f < (l.length : Int)) ∧ teamB a = true ∧ teamB b = true)) : swapPre l rest r f a b = false := by
  rw [Bool.eq_false_iff]; intro h'; exact h (swapPre_iff.1 h')

/-- The numbers of a row that lies in memory, to be appended. -/
theorem IntAt.news {w : World} {b o : Nat} {l : List Int} (h : IntAt w b o l) : ∀ j u, (l.map (Value.int .i64))[j]? = some u → w.cell? ((⟨b, o, none⟩ : Addr).add j) = some u := by
  intro j u hj
  have hjl : j < l.length := by have := (List.getElem?_eq_some_iff.1 hj).1; simpa using this
  have ea : (⟨b, o, none⟩ : Addr).add j = ⟨b, o + j, none⟩ := by
    unfold Addr.add
    split
    · rename_i h0; rw [h0]; rfl
    · rfl
  rw [ea, h j hjl]
  simp [List.getD, hjl] at hj ⊢
  exact hj
theorem ints_one (l : List Int) : ∀ u ∈ l.map (Value.int .i64), u.oneCell' = true := by
  intro u hu; obtain ⟨x, _, rfl⟩ := List.mem_map.1 hu; rfl

/-- A row of the call's own, which reads as l. -/
def RowIOut (l : List Int) (w : World) (e : Ending) (w' : World) : Prop := ∃ v, e = .returned v ∧ RowI w' w.heap.size v l ∧ Below w.heap.size w w'

set_option maxHeartbeats 400000 in
theorem clone_any (v : Value) (r : List Int) (w : World) (hr : IntsIn w v r) (h0 : 0 < r.length) (hlr : r.length ≤ 1048576) :
    Calls Try.prog 63 #[v] w (RowIOut r w) := by
  obtain ⟨ar, capr, rfl, hcapr, har⟩ := hr
  obtain ⟨b, o, rfl, hb0, hri⟩ := har (by rintro rfl; simp at h0)
  clear har hcapr
  obtain ⟨i0, hi, hz0, hz1, hz2⟩ := info_parts Try.info3
  have hb1 : Below w.heap.size w (w.alloc (.cells #[] 3)) := (Below.refl _ _).alloc (Nat.le_refl _) _
  have hnews := (hri.below hb1 hb0).news
  have hown := RowI.made w w.heap.size (Nat.le_refl _)
  unfold RowI at hown
  have Hri := Lib.hid hri; clear hri
  have hq := fun (w : World) (a : Option Addr) (n c : Nat) => Lib.run_eql_slice_nil (P := Try.prog) w 29 3 a n c 0 0 Try.underlying29
  go_enter Try.func63, Try.ntmps63
  go_wp2_with (at_builtin; refine wpList_append_own _ rfl _ _ 29 rfl w.heap.size 3 i0 (.int .i64 0) 1 8 Try.underlying29 hi hz0 hz1 hz2 rfl (by decide) _ _ [] rfl hown ⟨b, o, none⟩ r.length capr (r.map (Value.int .i64)) rfl (by simp) hnews (ints_one r) (by unfold maxLen; simp; omega) (by simp; omega) (by simp) ?_; intro v' w1 hown1 hgrow _)
  have hrow : RowI w1 w.heap.size v' r := by unfold RowI; simpa using hown1
  have hbel : Below w.heap.size w w1 := hb1.grown hgrow (by simp) (fun j hj => (hown.lt j hj).1)
  have Hrow := Lib.hid hrow
  clear hrow hown1 hgrow hown hnews
  go_wp2
  go_ret
  exact ⟨_, rfl, Hrow.out, hbel⟩

set_option maxHeartbeats 400000 in
theorem exch_any (t a b : Int) (w : World) : Calls Try.prog 64 #[.int .i64 t, .int .i64 a, .int .i64 b] w fun e w' => e = .returned (.int .i64 (exch t a b)) ∧ w = w' := by
  by_cases h1 : t = a
  · have He := Lib.hid (show exch t a b = b from if_pos h1)
    have hd : (t == a) = true := by simpa using h1
    clear h1
    go_enter Try.func64, Try.ntmps64
    go_wp2
    go_ret
    exact ⟨ret_int He.out.symm, rfl⟩
  · have hd : (t == a) = false := by simpa using h1
    by_cases h2 : t = b
    · have He := Lib.hid (show exch t a b = a by unfold exch; rw [if_neg h1, if_pos h2])
      have hd2 : (t == b) = true := by simpa using h2
      clear h1 h2
      go_enter Try.func64, Try.ntmps64
      go_wp2
      go_ret
      exact ⟨ret_int He.out.symm, rfl⟩
    · have He := Lib.hid (show exch t a b = t by unfold exch; rw [if_neg h1, if_neg h2])
      have hd2 : (t == b) = false := by simpa using h2
      clear h1 h2
      go_enter Try.func64, Try.ntmps64
      go_wp2
      go_ret
      exact ⟨ret_int He.out.symm, rfl⟩

def SwRel (r : List Int) (f : Nat) (a b : Int) (w : World) (g : Nat) (iv : Value) (wr : World) : Prop :=
  ∃ j : Nat, f ≤ j ∧ j ≤ r.length ∧ iv = .int .i64 j ∧ IntAt wr g 0 (swpL r f a b j) ∧ Room wr g r.length ∧ g < wr.heap.size ∧ Below w.heap.size w wr

theorem teamB_in (t : Int) : teamB t = inB t 0 11 := by rw [Bool.eq_iff_iff, teamB_iff, inB_iff]; omega

set_option maxRecDepth 100000 in
set_option maxHeartbeats 2000000 in
theorem swap2_any (v vr : Value) (l : List Rn) (r : List Int) (rest f a b : Int) (w : World) (hv : RnIn w v l) (hr : IntsIn w vr r) (hl : l.length ≤ 1048576) (hlr : r.length ≤ 1048576) :
    Calls Try.prog 46 #[v, .int .i64 rest, vr, .int .i64 f, .int .i64 a, .int .i64 b] w (IntsOk (swapL3 l rest r f a b) (swapOk l rest r f a b) w) := by
  have Hok := Lib.hid (roster2_any v vr l r rest w hv hr hl hlr)
  have Hend := Lib.hid (fun w' vx xs (h : Below w.heap.size w w') (hx : IntsIn w' vx xs) (hxl : xs.length ≤ 1048576) => roster2_any v vx l xs rest w' (hv.below h) hx hl hxl)
  have Hno := Lib.hid (fun h => swap_no (swapPre_no (l := l) (rest := rest) (r := r) (f := f) (a := a) (b := b) h))
  have Hcl := Lib.hid (fun w' (h : Below w.heap.size w w') (h0 : 0 < r.length) => clone_any vr r w' (hr.below h) h0 hlr)
  obtain ⟨al, cap, rfl, hcap, ha⟩ := hv
  obtain ⟨ar, capr, rfl, hcapr, har⟩ := hr
  clear hcap hcapr ha
  have Har := Lib.hid har; clear har
  cases hz : rosU l rest r with
  | true =>
    obtain ⟨hok0, hle, _⟩ := rosU_iff.1 hz
    have h12 := (validU_iff.1 (okR_parts.1 hok0).1).1
    have Hz := Lib.hid hz; clear hz hok0
    by_cases hf : 0 ≤ f ∧ f < (l.length : Int)
    · have Hff := Lib.hid hf
      obtain ⟨hf0, hf1⟩ := hf
      cases ha : teamB a with
      | true =>
        cases hb : teamB b with
        | true =>
          have Ha := Lib.hid (show teamB a = true from ha)
          have Hb := Lib.hid (show teamB b = true from hb)
          have Hpre := Lib.hid (swapPre_iff.2 ⟨Hz.out, Hff.out, ha, hb⟩)
          clear ha hb
          obtain ⟨n, rfl⟩ : ∃ n : Nat, f = (n : Int) := ⟨f.toNat, by omega⟩
          have hn : n < r.length := by omega
          have hr0 : 0 < r.length := by omega
          have Hle := Lib.hid hle; clear hle
          go_enter Try.func46, Try.ntmps46
          go_wp2_with fail
          refine (Hok.out).mono ?_; rintro e w1 ⟨rfl, hw1⟩
          rw [Hz.out]
          have HW := Lib.hid (show Below w.heap.size w w1 from hw1); clear hw1
          go_wp2_with fail
          refine (team_any _ _).mono ?_; rintro e w' ⟨rfl, rfl⟩
          rw [Ha.out]
          go_wp2_with fail
          refine (team_any _ _).mono ?_; rintro e w' ⟨rfl, rfl⟩
          rw [Hb.out]
          go_wp2_with fail
          refine (Hcl.out _ HW.out hr0).mono ?_; rintro e w2 ⟨vs, rfl, hrow, hbel2⟩
          obtain ⟨ad, cs, rfl, hcs, hown, hblk⟩ := hrow.row
          obtain ⟨g, rfl, hgl, hia, hroom⟩ := hown (by rintro rfl; simp at hr0)
          have hg0 := (hblk g ⟨0, rfl⟩).1
          have HB2 := Lib.hid (HW.out.trans (hbel2.mono HW.out.size))
          have hgw : w.heap.size ≤ g := Nat.le_trans HW.out.size hg0
          have Hst := Lib.hid (show IntAt w2 g 0 (swpL r n a b n) by rw [swpL_start]; exact hia)
          have Hroom := Lib.hid hroom
          have Hcs := Lib.hid hcs
          clear hia hroom hrow hblk hbel2 hcs hown
          go_wp2
          go_loopw [15] (fun iv wr => SwRel r n a b w g iv wr) (fun i _ => r.length - (intOf i).toNat)
          case atStart => exact ⟨n, Nat.le_refl _, by omega, rfl, Hst.out, Hroom.out, hgl, HB2.out⟩
          case round =>
            obtain ⟨j, hnj, hj, rfl, hia, hroom, hgr, hbel⟩ := hrel
            by_cases hlt : j < r.length
            · have hj0 : (0 : Int) ≤ (j : Int) := Int.natCast_nonneg _
              have hj1 : (j : Int) < (r.length : Int) := by omega
              obtain ⟨br, or', rfl, hbr0, hri⟩ := Har.out (by rintro rfl; simp at hlt)
              have d0 := (hri.below hbel hbr0) j hlt
              obtain ⟨u0, e0⟩ := hroom.1 j hlt
              have f0 := hroom.2 j
              have Hset := Lib.hid (fun x => IntAt.set hia hroom (by rw [swpL_len]; exact Nat.le_refl _) (i := j) (by rw [swpL_len]; exact hlt) x)
              have Hsucc := Lib.hid (swpL_succ (r := r) (a := a) (b := b) hnj hlt)
              have Hr := Lib.hid hroom
              have HB := Lib.hid hbel
              have Hlt := Lib.hid hlt
              clear hia hroom hbel hri
              generalize r.getD j 0 = x at *
              go_wp2_with fail
              refine (exch_any _ _ _ _).mono ?_; rintro e w' ⟨rfl, rfl⟩
              generalize exch x a b = y at *
              have Hn := Lib.hid (show IntAt (wr.setCell ⟨g, j, none⟩ (.int .i64 y)) g 0 (swpL r n a b (j + 1)) by rw [Hsucc.out]; exact Hset.out y)
              go_wp2
              exact ⟨⟨j + 1, by omega, Hlt.out, by go_num, Hn.out, Hr.out.setCell _ _, by simpa using hgr, HB.out.setCell hgw _⟩, by simp [intOf]; have := Hlt.out; omega⟩
            · obtain rfl : j = r.length := by omega
              have hin : IntsIn wr (.slice (some ⟨g, 0, none⟩) r.length cs) (swpL r n a b r.length) := by have := IntsIn.row (cap := cs) hgr (by rw [swpL_len]; exact Hcs.out) hia; rwa [swpL_len] at this
              have Hin := Lib.hid (Hend.out wr _ _ hbel hin (by rw [swpL_len]; exact hlr))
              have Hia := Lib.hid hia
              have Hr := Lib.hid hroom
              clear hin hia hroom
              cases hx : rosU l rest (swpL r n a b r.length) with
              | true =>
                have Hk := Lib.hid (swap_yes Hpre.out (by rw [Int.toNat_natCast]; exact hx))
                have Hx := Lib.hid hx; clear hx
                go_wp2_with fail
                refine (Hin.out).mono ?_; rintro e w9 ⟨rfl, hw9⟩
                rw [Hx.out]
                go_wp2
                go_ret2
                rw [Hk.out.1, Hk.out.2, Int.toNat_natCast]
                refine ⟨some ⟨g, 0, none⟩, cs, by rw [swpL_len]; rfl, by rw [swpL_len]; exact Hcs.out, fun _ => ⟨g, rfl, Nat.lt_of_lt_of_le hgr hw9.size, Hia.out.below hw9 hgr, by rw [swpL_len]; exact Hr.out.below hw9 hgr⟩, fun j hj => by obtain ⟨o, ho⟩ := hj; cases ho; exact ⟨hgw, Nat.lt_of_lt_of_le hgr hw9.size⟩, hbel.trans (hw9.mono hbel.size)⟩
              | false =>
                have Hk := Lib.hid (swap_bad (l := l) (rest := rest) (r := r) (f := (n : Int)) (a := a) (b := b) (by rw [Int.toNat_natCast]; exact hx))
                have Hx := Lib.hid hx; clear hx
                go_wp2_with fail
                refine (Hin.out).mono ?_; rintro e w9 ⟨rfl, hw9⟩
                rw [Hx.out]
                have HW9 := Lib.hid (hbel.trans (hw9.mono hbel.size)); clear hw9
                go_wp2
                go_ret2
                rw [Hk.out.1, Hk.out.2]
                exact IntsOk.no HW9.out.size (by simp) (HW9.out.alloc HW9.out.size _)
        | false =>
          have Ha := Lib.hid (show teamB a = true from ha)
          have Hb := Lib.hid (show teamB b = false from hb)
          have Hbb := Lib.hid hb
          clear ha hb
          clear hle
          have Hk := Lib.hid (Hno.out (fun h => (by have := h.2.2.2; rw [Hbb.out] at this; cases this)))
          go_enter Try.func46, Try.ntmps46
          go_wp2_with fail
          refine (Hok.out).mono ?_; rintro e w1 ⟨rfl, hw1⟩
          rw [Hz.out]
          have HW := Lib.hid (show Below w.heap.size w w1 from hw1); clear hw1
          go_wp2_with fail
          refine (team_any _ _).mono ?_; rintro e w' ⟨rfl, rfl⟩
          rw [Ha.out]
          go_wp2_with fail
          refine (team_any _ _).mono ?_; rintro e w' ⟨rfl, rfl⟩
          rw [Hb.out]
          go_wp2
          go_ret2
          rw [Hk.out.1, Hk.out.2]
          exact IntsOk.no HW.out.size (by simp) (HW.out.alloc HW.out.size _)
      | false =>
        have Ha := Lib.hid (show teamB a = false from ha)
        have Haa := Lib.hid ha
        clear ha
        clear hle
        have Hk := Lib.hid (Hno.out (fun h => (by have := h.2.2.1; rw [Haa.out] at this; cases this)))
        go_enter Try.func46, Try.ntmps46
        go_wp2_with fail
        refine (Hok.out).mono ?_; rintro e w1 ⟨rfl, hw1⟩
        rw [Hz.out]
        have HW := Lib.hid (show Below w.heap.size w w1 from hw1); clear hw1
        go_wp2_with fail
        refine (team_any _ _).mono ?_; rintro e w' ⟨rfl, rfl⟩
        rw [Ha.out]
        go_wp2
        go_ret2
        rw [Hk.out.1, Hk.out.2]
        exact IntsOk.no HW.out.size (by simp) (HW.out.alloc HW.out.size _)
    · have Hff := Lib.hid hf
      by_cases hf0 : f < 0
      · have hd : decide (f < 0) = true := by simpa using hf0
        clear hf
        clear hle
        have Hk := Lib.hid (Hno.out (fun h => absurd h.2.1 Hff.out))
        go_enter Try.func46, Try.ntmps46
        go_wp2_with fail
        refine (Hok.out).mono ?_; rintro e w1 ⟨rfl, hw1⟩
        rw [Hz.out]
        have HW := Lib.hid (show Below w.heap.size w w1 from hw1); clear hw1
        go_wp2
        go_ret2
        rw [Hk.out.1, Hk.out.2]
        exact IntsOk.no HW.out.size (by simp) (HW.out.alloc HW.out.size _)
      · have hd : decide ((l.length : Int) ≤ f) = true := by simp only [decide_eq_true_eq]; omega
        have hd0 : decide (f < 0) = false := by simpa using hf0
        have hd1 : (l.length : Int) ≤ f := by omega
        clear hf
        clear hle
        have Hk := Lib.hid (Hno.out (fun h => absurd h.2.1 Hff.out))
        go_enter Try.func46, Try.ntmps46
        go_wp2_with fail
        refine (Hok.out).mono ?_; rintro e w1 ⟨rfl, hw1⟩
        rw [Hz.out]
        have HW := Lib.hid (show Below w.heap.size w w1 from hw1); clear hw1
        go_wp2
        go_ret2
        rw [Hk.out.1, Hk.out.2]
        exact IntsOk.no HW.out.size (by simp) (HW.out.alloc HW.out.size _)
  | false =>
    have Hz := Lib.hid hz; clear hz
    have Hk := Lib.hid (Hno.out (fun h => (by have := h.1; rw [Hz.out] at this; cases this)))
    go_enter Try.func46, Try.ntmps46
    go_wp2_with fail
    refine (Hok.out).mono ?_; rintro e w1 ⟨rfl, hw1⟩
    rw [Hz.out]
    have HW := Lib.hid (show Below w.heap.size w w1 from hw1); clear hw1
    go_wp2
    go_ret2
    rw [Hk.out.1, Hk.out.2]
    exact IntsOk.no HW.out.size (by simp) (HW.out.alloc HW.out.size _)

set_option maxRecDepth 100000 in
set_option maxHeartbeats 2000000 in
theorem swap1_any (v vr : Value) (l : List Rn) (r : List Int) (rest f a b : Int) (w : World) (hv : RnIn w v l) (hr : IntsIn w vr r) (hl : l.length ≤ 1048576) (hlr : r.length ≤ 1048576) :
    Calls Try.prog 45 #[v, .int .i64 rest, vr, .int .i64 f, .int .i64 a, .int .i64 b] w (IntsOk (swapL3 l rest r f a b) (swapOk l rest r f a b) w) := by
  have Hok := Lib.hid (Calls.gives (roster1_any v vr l r rest w hv hr hl hlr))
  have Hend := Lib.hid (fun w' vx xs (h : Below w.heap.size w w') (hx : IntsIn w' vx xs) (hxl : xs.length ≤ 1048576) => Calls.gives (roster1_any v vx l xs rest w' (hv.below h) hx hl hxl))
  have Hno := Lib.hid (fun h => swap_no (swapPre_no (l := l) (rest := rest) (r := r) (f := f) (a := a) (b := b) h))
  obtain ⟨al, cap, rfl, hcap, ha⟩ := hv
  obtain ⟨ar, capr, rfl, hcapr, har⟩ := hr
  clear hcap hcapr ha
  have Har := Lib.hid har; clear har
  obtain ⟨i0, hi0, hz0, hz1, hz2⟩ := info_parts Try.info3
  cases hz : rosU l rest r with
  | true =>
    obtain ⟨hok0, hle, _⟩ := rosU_iff.1 hz
    have h12 := (validU_iff.1 (okR_parts.1 hok0).1).1
    have Hz := Lib.hid hz; clear hz hok0
    by_cases hf : 0 ≤ f ∧ f < (l.length : Int)
    · have Hff := Lib.hid hf
      obtain ⟨hf0, hf1⟩ := hf
      cases ha : teamB a with
      | true =>
        cases hb : teamB b with
        | true =>
          have Hf := Lib.hid (show inB f 0 ((l.length : Int) - 1) = true from (inB_iff _ _ _).2 (by omega))
          have Ha := Lib.hid (show inB a 0 11 = true from (by rw [← teamB_in]; exact ha))
          have Hb := Lib.hid (show inB b 0 11 = true from (by rw [← teamB_in]; exact hb))
          have Hpre := Lib.hid (swapPre_iff.2 ⟨Hz.out, Hff.out, ha, hb⟩)
          clear ha hb
          obtain ⟨n, rfl⟩ : ∃ n : Nat, f = (n : Int) := ⟨f.toNat, by omega⟩
          have hn : n < r.length := by omega
          have hwl : IntKind.i64.wrap ((l.length : Int) - 1) = (l.length : Int) - 1 := IntWalk.i64_in _ (by omega)
          have Hle := Lib.hid hle; clear hle
          go_enter Try.func45, Try.ntmps45
          go_wp2_with fail
          refine (Hok.out).mono ?_; rintro e w1 ⟨rfl, hw1⟩
          rw [Hz.out]
          have HW := Lib.hid (show Below w.heap.size w w1 from hw1); clear hw1
          go_wp2_with fail
          refine (l6In_any _ _ _ _).mono ?_; rintro e w' ⟨rfl, rfl⟩
          rw [Hf.out]
          go_wp2_with fail
          refine (l6In_any _ _ _ _).mono ?_; rintro e w' ⟨rfl, rfl⟩
          rw [Ha.out]
          go_wp2_with fail
          refine (l6In_any _ _ _ _).mono ?_; rintro e w' ⟨rfl, rfl⟩
          rw [Hb.out]
          obtain ⟨br, or', rfl, hbr0, hri⟩ := Har.out (by rintro rfl; simp at hn)
          have hb1 : Below w1.heap.size w1 (w1.alloc (.cells #[] 3)) := (Below.refl _ _).alloc (Nat.le_refl _) _
          have hnews := ((hri.below HW.out hbr0).below hb1 (Nat.lt_of_lt_of_le hbr0 HW.out.size)).news
          have hown := RowI.made w1 w1.heap.size (Nat.le_refl _)
          unfold RowI at hown
          have Hri := Lib.hid hri; clear hri
          go_wp2_with (at_builtin; refine wpList_append_own _ rfl _ _ 29 rfl w1.heap.size 3 i0 (.int .i64 0) 1 8 Try.underlying29 hi0 hz0 hz1 hz2 rfl (by decide) _ _ [] rfl hown ⟨br, or', none⟩ r.length capr (r.map (Value.int .i64)) rfl (by simp) hnews (ints_one r) (by unfold maxLen; simp; omega) (by simp; omega) (by simp) ?_; intro v' w2 hown1 hgrow _)
          have hrow : RowI w2 w1.heap.size v' r := by unfold RowI; simpa using hown1
          have hbel2 : Below w1.heap.size w1 w2 := hb1.grown hgrow (by simp) (fun j hj => (hown.lt j hj).1)
          obtain ⟨ad, cs, rfl, hcs, hown2, hblk⟩ := hrow.row
          obtain ⟨g, rfl, hgl, hia, hroom⟩ := hown2 (by rintro rfl; simp at hn)
          have hg0 := (hblk g ⟨0, rfl⟩).1
          have HB2 := Lib.hid (HW.out.trans (hbel2.mono HW.out.size))
          clear hown1 hgrow hnews hb1
          have hgw : w.heap.size ≤ g := Nat.le_trans HW.out.size hg0
          have Hst := Lib.hid (show IntAt w2 g 0 (swpL r n a b n) by rw [swpL_start]; exact hia)
          have Hroom := Lib.hid hroom
          have Hcs := Lib.hid hcs
          clear hia hroom hrow hblk hbel2 hcs hown hown2
          go_wp2
          go_loopw [15] (fun iv wr => SwRel r n a b w g iv wr) (fun i _ => r.length - (intOf i).toNat)
          case atStart => exact ⟨n, Nat.le_refl _, by omega, rfl, Hst.out, Hroom.out, hgl, HB2.out⟩
          case round =>
            obtain ⟨j, hnj, hj, rfl, hia, hroom, hgr, hbel⟩ := hrel
            by_cases hlt : j < r.length
            · have hj0 : (0 : Int) ≤ (j : Int) := Int.natCast_nonneg _
              have hj1 : (j : Int) < (r.length : Int) := by omega
              have d0 := (Hri.out.below hbel hbr0) j hlt
              obtain ⟨u0, e0⟩ := hroom.1 j hlt
              have f0 := hroom.2 j
              have Hset := Lib.hid (fun x => IntAt.set hia hroom (by rw [swpL_len]; exact Nat.le_refl _) (i := j) (by rw [swpL_len]; exact hlt) x)
              have Hsucc := Lib.hid (swpL_succ (r := r) (a := a) (b := b) hnj hlt)
              have Hsame := Lib.hid (swpL_same (r := r) (f := n) (a := a) (b := b) (j := j))
              have Hia := Lib.hid hia
              have Hr := Lib.hid hroom
              have HB := Lib.hid hbel
              have Hlt := Lib.hid hlt
              clear hia hroom hbel
              generalize r.getD j 0 = x at *
              by_cases h1 : x = a
              · have hd : (x == a) = true := by simpa using h1
                have Hn := Lib.hid (show IntAt (wr.setCell ⟨g, j, none⟩ (.int .i64 b)) g 0 (swpL r n a b (j + 1)) by rw [Hsucc.out, show exch x a b = b from if_pos h1]; exact Hset.out b)
                clear h1
                go_wp2
                exact ⟨⟨j + 1, by omega, Hlt.out, by go_num, Hn.out, Hr.out.setCell _ _, by simpa using hgr, HB.out.setCell hgw _⟩, by simp [intOf]; have := Hlt.out; omega⟩
              · have hd : (x == a) = false := by simpa using h1
                by_cases h2 : x = b
                · have hd2 : (x == b) = true := by simpa using h2
                  have Hn := Lib.hid (show IntAt (wr.setCell ⟨g, j, none⟩ (.int .i64 a)) g 0 (swpL r n a b (j + 1)) by rw [Hsucc.out, show exch x a b = a by unfold exch; rw [if_neg h1, if_pos h2]]; exact Hset.out a)
                  clear h1 h2
                  go_wp2
                  exact ⟨⟨j + 1, by omega, Hlt.out, by go_num, Hn.out, Hr.out.setCell _ _, by simpa using hgr, HB.out.setCell hgw _⟩, by simp [intOf]; have := Hlt.out; omega⟩
                · have hd2 : (x == b) = false := by simpa using h2
                  have Hn := Lib.hid (show IntAt wr g 0 (swpL r n a b (j + 1)) by rw [Hsame.out (by unfold exch; rw [if_neg h1, if_neg h2])]; exact Hia.out)
                  clear h1 h2
                  go_wp2
                  exact ⟨⟨j + 1, by omega, Hlt.out, by go_num, Hn.out, Hr.out, hgr, HB.out⟩, by simp [intOf]; have := Hlt.out; omega⟩
            · obtain rfl : j = r.length := by omega
              have hin : IntsIn wr (.slice (some ⟨g, 0, none⟩) r.length cs) (swpL r n a b r.length) := by have := IntsIn.row (cap := cs) hgr (by rw [swpL_len]; exact Hcs.out) hia; rwa [swpL_len] at this
              have Hin := Lib.hid (Hend.out wr _ _ hbel hin (by rw [swpL_len]; exact hlr))
              have Hia := Lib.hid hia
              have Hr := Lib.hid hroom
              clear hin hia hroom
              cases hx : rosU l rest (swpL r n a b r.length) with
              | true =>
                have Hk := Lib.hid (swap_yes Hpre.out (by rw [Int.toNat_natCast]; exact hx))
                have Hx := Lib.hid hx; clear hx
                go_wp2_with fail
                refine (Hin.out).mono ?_; rintro e w9 ⟨rfl, hw9⟩
                rw [Hx.out]
                go_wp2
                go_ret2
                rw [Hk.out.1, Hk.out.2, Int.toNat_natCast]
                refine ⟨some ⟨g, 0, none⟩, cs, by rw [swpL_len]; rfl, by rw [swpL_len]; exact Hcs.out, fun _ => ⟨g, rfl, Nat.lt_of_lt_of_le hgr hw9.size, Hia.out.below hw9 hgr, by rw [swpL_len]; exact Hr.out.below hw9 hgr⟩, fun j hj => by obtain ⟨o, ho⟩ := hj; cases ho; exact ⟨hgw, Nat.lt_of_lt_of_le hgr hw9.size⟩, hbel.trans (hw9.mono hbel.size)⟩
              | false =>
                have Hk := Lib.hid (swap_bad (l := l) (rest := rest) (r := r) (f := (n : Int)) (a := a) (b := b) (by rw [Int.toNat_natCast]; exact hx))
                have Hx := Lib.hid hx; clear hx
                go_wp2_with fail
                refine (Hin.out).mono ?_; rintro e w9 ⟨rfl, hw9⟩
                rw [Hx.out]
                have HW9 := Lib.hid (hbel.trans (hw9.mono hbel.size)); clear hw9
                go_wp2
                go_ret2
                rw [Hk.out.1, Hk.out.2]
                exact IntsOk.no HW9.out.size (by simp) (HW9.out.alloc HW9.out.size _)
        | false =>
          have Hf := Lib.hid (show inB f 0 ((l.length : Int) - 1) = true from (inB_iff _ _ _).2 (by omega))
          have Ha := Lib.hid (show inB a 0 11 = true from (by rw [← teamB_in]; exact ha))
          have Hb := Lib.hid (show inB b 0 11 = false from (by rw [← teamB_in]; exact hb))
          have Hbb := Lib.hid hb
          clear ha hb
          have hwl : IntKind.i64.wrap ((l.length : Int) - 1) = (l.length : Int) - 1 := IntWalk.i64_in _ (by omega)
          clear hle
          have Hk := Lib.hid (Hno.out (fun h => (by have := h.2.2.2; rw [Hbb.out] at this; cases this)))
          go_enter Try.func45, Try.ntmps45
          go_wp2_with fail
          refine (Hok.out).mono ?_; rintro e w1 ⟨rfl, hw1⟩
          rw [Hz.out]
          have HW := Lib.hid (show Below w.heap.size w w1 from hw1); clear hw1
          go_wp2_with fail
          refine (l6In_any _ _ _ _).mono ?_; rintro e w' ⟨rfl, rfl⟩
          rw [Hf.out]
          go_wp2_with fail
          refine (l6In_any _ _ _ _).mono ?_; rintro e w' ⟨rfl, rfl⟩
          rw [Ha.out]
          go_wp2_with fail
          refine (l6In_any _ _ _ _).mono ?_; rintro e w' ⟨rfl, rfl⟩
          rw [Hb.out]
          go_wp2
          go_ret2
          rw [Hk.out.1, Hk.out.2]
          exact IntsOk.no HW.out.size (by simp) (HW.out.alloc HW.out.size _)
      | false =>
        have Hf := Lib.hid (show inB f 0 ((l.length : Int) - 1) = true from (inB_iff _ _ _).2 (by omega))
        have Ha := Lib.hid (show inB a 0 11 = false from (by rw [← teamB_in]; exact ha))
        have Haa := Lib.hid ha
        clear ha
        have hwl : IntKind.i64.wrap ((l.length : Int) - 1) = (l.length : Int) - 1 := IntWalk.i64_in _ (by omega)
        clear hle
        have Hk := Lib.hid (Hno.out (fun h => (by have := h.2.2.1; rw [Haa.out] at this; cases this)))
        go_enter Try.func45, Try.ntmps45
        go_wp2_with fail
        refine (Hok.out).mono ?_; rintro e w1 ⟨rfl, hw1⟩
        rw [Hz.out]
        have HW := Lib.hid (show Below w.heap.size w w1 from hw1); clear hw1
        go_wp2_with fail
        refine (l6In_any _ _ _ _).mono ?_; rintro e w' ⟨rfl, rfl⟩
        rw [Hf.out]
        go_wp2_with fail
        refine (l6In_any _ _ _ _).mono ?_; rintro e w' ⟨rfl, rfl⟩
        rw [Ha.out]
        go_wp2
        go_ret2
        rw [Hk.out.1, Hk.out.2]
        exact IntsOk.no HW.out.size (by simp) (HW.out.alloc HW.out.size _)
    · have Hff := Lib.hid hf
      have Hf := Lib.hid (show inB f 0 ((l.length : Int) - 1) = false by rw [Bool.eq_false_iff]; intro h; have := (inB_iff _ _ _).1 h; exact hf (by omega))
      clear hf
      have hwl : IntKind.i64.wrap ((l.length : Int) - 1) = (l.length : Int) - 1 := IntWalk.i64_in _ (by omega)
      clear hle
      have Hk := Lib.hid (Hno.out (fun h => absurd h.2.1 Hff.out))
      go_enter Try.func45, Try.ntmps45
      go_wp2_with fail
      refine (Hok.out).mono ?_; rintro e w1 ⟨rfl, hw1⟩
      rw [Hz.out]
      have HW := Lib.hid (show Below w.heap.size w w1 from hw1); clear hw1
      go_wp2_with fail
      refine (l6In_any _ _ _ _).mono ?_; rintro e w' ⟨rfl, rfl⟩
      rw [Hf.out]
      go_wp2
      go_ret2
      rw [Hk.out.1, Hk.out.2]
      exact IntsOk.no HW.out.size (by simp) (HW.out.alloc HW.out.size _)
  | false =>
    have Hz := Lib.hid hz; clear hz
    have Hk := Lib.hid (Hno.out (fun h => (by have := h.1; rw [Hz.out] at this; cases this)))
    go_enter Try.func45, Try.ntmps45
    go_wp2_with fail
    refine (Hok.out).mono ?_; rintro e w1 ⟨rfl, hw1⟩
    rw [Hz.out]
    have HW := Lib.hid (show Below w.heap.size w w1 from hw1); clear hw1
    go_wp2
    go_ret2
    rw [Hk.out.1, Hk.out.2]
    exact IntsOk.no HW.out.size (by simp) (HW.out.alloc HW.out.size _)

end Go.Proofs.Ytmcapcclnkicbaa
