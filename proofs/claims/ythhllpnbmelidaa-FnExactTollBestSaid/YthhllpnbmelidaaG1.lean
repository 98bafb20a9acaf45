/- The program's plan: the best payments from a gate on. -/
import Derived.Test.YthhllpnbmelidaaGU
import Derived.Deep.LoopGhost
import Derived.BigRegion
namespace Go.Proofs.Ythhllpnbmelidaa
open Go.RowKit
set_option linter.unusedVariables false
set_option linter.unusedSimpArgs false

def ptrA (blk : Int → Nat) : List Int → Option Addr
  | [] => none
  | k :: _ => some ⟨blk k, 0, none⟩
def ptrB (blk : Int → Nat) : Option (List Int) → Option Addr
  | none => none
  | some q => ptrA blk q
/-- What a plan's block holds. -/
def planC (blk : Int → Nat) (l : List Gt) (free : Int) (k : Int) (s : List Int) : Array Value :=
  #[.int .i64 k, .int .i64 (vI l free (k :: s)), (.pointer (ptrB blk (scanI l free ((gAt l k).a + free) s []))), (.pointer (ptrA blk s))]
/-- The plans at the gates of one trust, from the first of s on. -/
def PlansAt (w : World) (blk : Int → Nat) (l : List Gt) (free : Int) : List Int → Prop
  | [] => True
  | k :: s => Whole w (blk k) 86 (planC blk l free k s) ∧ PlansAt w blk l free s
theorem PlansAt.below {w w' : World} {blk : Int → Nat} {l : List Gt} {free : Int} (hb : Below w.heap.size w w') : ∀ {s : List Int}, PlansAt w blk l free s → PlansAt w' blk l free s
  | [], _ => trivial
  | k :: s, h => ⟨h.1.below hb h.1.lt, PlansAt.below hb h.2⟩
theorem PlansAt.touch8 {w w' : World} {blk : Int → Nat} {l : List Gt} {free : Int} {S : Nat → Prop} (ht : Touch S w w') : ∀ {s : List Int}, (∀ k ∈ s, ¬ S (blk k)) → PlansAt w blk l free s → PlansAt w' blk l free s
  | [], _, _ => trivial
  | k :: s, hn, h => ⟨h.1.touch8 ht (hn k List.mem_cons_self), PlansAt.touch8 ht (fun j hj => hn j (List.mem_cons_of_mem _ hj)) h.2⟩
theorem PlansAt.suf {w : World} {blk : Int → Nat} {l : List Gt} {free : Int} : ∀ {pre s : List Int}, PlansAt w blk l free (pre ++ s) → PlansAt w blk l free s
  | [], _, h => h
  | k :: pre, s, h => PlansAt.suf (pre := pre) h.2
theorem scan_mem {l : List Gt} {free r : Int} : ∀ {s best q : List Int}, scanI l free r s best = some q → q = best ∨ ∃ k s', q = k :: s' ∧ k ∈ s
  | [], best, q, h => by simp [scanI] at h
  | k :: s, best, q, h => by
    unfold scanI at h
    by_cases c : best = [] ∨ vI l free (k :: s) < vI l free best
    · rw [if_pos c] at h
      by_cases d : (gAt l k).a > r
      · rw [if_pos d] at h
        injection h with h
        exact .inr ⟨k, s, h.symm, List.mem_cons_self⟩
      · rw [if_neg d] at h
        rcases scan_mem h with e | ⟨j, s', e, hj⟩
        · exact .inr ⟨k, s, e, List.mem_cons_self⟩
        · exact .inr ⟨j, s', e, List.mem_cons_of_mem _ hj⟩
    · rw [if_neg c] at h
      by_cases d : (gAt l k).a > r
      · rw [if_pos d] at h
        injection h with h
        exact .inl h.symm
      · rw [if_neg d] at h
        rcases scan_mem h with e | ⟨j, s', e, hj⟩
        · exact .inl e
        · exact .inr ⟨j, s', e, List.mem_cons_of_mem _ hj⟩
theorem scanI_cons (l : List Gt) (free r : Int) (k : Int) (s best : List Int) : scanI l free r (k :: s) best =
    if (gAt l k).a > r then some (if best = [] ∨ vI l free (k :: s) < vI l free best then k :: s else best) else scanI l free r s (if best = [] ∨ vI l free (k :: s) < vI l free best then k :: s else best) := rfl
theorem ptrL_congr {blk blk' : Int → Nat} {s : List Int} (h : ∀ j ∈ s, blk' j = blk j) : ptrA blk' s = ptrA blk s := by
  cases s with
  | nil => rfl
  | cons k s => show some _ = some _; rw [h k List.mem_cons_self]
theorem ptrO_scan {blk blk' : Int → Nat} {l : List Gt} {free r : Int} {s : List Int} (h : ∀ j ∈ s, blk' j = blk j) : ptrB blk' (scanI l free r s []) = ptrB blk (scanI l free r s []) := by
  cases hq : scanI l free r s [] with
  | none => rfl
  | some q =>
    rcases scan_mem hq with e | ⟨k, s', e, hk⟩
    · rw [e]; rfl
    · rw [e]; show some _ = some _; rw [h k hk]
theorem PlansAt.lt {w : World} {blk : Int → Nat} {l : List Gt} {free : Int} : ∀ {s : List Int}, PlansAt w blk l free s → ∀ j ∈ s, blk j < w.heap.size
  | [], _, j, hj => absurd hj List.not_mem_nil
  | k :: s, h, j, hj => by
    rw [List.mem_cons] at hj
    rcases hj with rfl | hj
    · exact h.1.lt
    · exact PlansAt.lt h.2 j hj
theorem PlansAt.congr {w : World} {blk blk' : Int → Nat} {l : List Gt} {free : Int} : ∀ {s : List Int}, (∀ j ∈ s, blk' j = blk j) → PlansAt w blk l free s → PlansAt w blk' l free s
  | [], _, _ => trivial
  | k :: s, h, hp => by
    have h2 : ∀ j ∈ s, blk' j = blk j := fun j hj => h j (List.mem_cons_of_mem _ hj)
    refine ⟨?_, PlansAt.congr h2 hp.2⟩
    have h1 := hp.1
    unfold planC at h1 ⊢
    rw [h k List.mem_cons_self, ptrO_scan h2, ptrL_congr h2]
    exact h1

/-- On the way along the plans behind: r is left, best the best one so far. -/
structure PlRel (blk : Int → Nat) (l : List Gt) (free U : Int) (s : List Int) (n : Nat) (nv lv : Value) (pre r best : List Int) : Prop where
  s_ : s = pre ++ r
  b_ : best = [] ∨ ∃ pre', s = pre' ++ best
  n_ : r.length < n
  nv : nv = (.pointer (ptrA blk best))
  lv : lv = (.pointer (ptrA blk r))
  go : scanI l free U r best = scanI l free U s []

set_option maxRecDepth 100000 in
set_option maxHeartbeats 8000000 in
theorem plan_any (blk : Int → Nat) (wb : Nat) (v vp : Value) (l : List Gt) (ps : List Int) (free : Int) (k : Nat) (s : List Int) (w : World) (hW : WayAt w wb v vp l ps free) (hfree : 0 ≤ free ∧ free ≤ 999) (hp : Pas l ((k : Int) :: s)) (hs : PlansAt w blk l free s) (hlen : s.length ≤ 9) :
    Calls Try.prog 102 #[.pointer (some ⟨wb, 0, none⟩), .int .i64 k, (.pointer (ptrA blk s))] w fun e w' =>
      e = .returned (.pointer (some ⟨w.heap.size, 0, none⟩)) ∧ Whole w' w.heap.size 86 (planC blk l free k s) ∧ Below w.heap.size w w' := by
  have hz := hp.v
  have hten := (validG_iff.1 hz).1
  have hk : k < l.length := by have := hp.head; omega
  have hgk : gAt l (k : Int) = l.getD k gt0 := by unfold gAt; rw [Int.toNat_natCast]
  have hzk := validG_at hz hk
  obtain ⟨hw1, hw2, hw3⟩ := hW
  obtain ⟨a, vcap, rfl, _, ha⟩ := hw2
  obtain ⟨b, o, rfl, hb0, hrw⟩ := ha (by intro h; simp [h] at hk)
  obtain ⟨c0, c1, c2⟩ := hrw k hk
  have w0 := hw1.cell (i := 0) rfl
  have w2 := hw1.cell (i := 2) rfl
  have hpc : planC blk l free k s = #[.int .i64 k, .int .i64 (vI l free ((k : Int) :: s)), (.pointer (ptrB blk (scanI l free ((l.getD k gt0).a + free) s []))), (.pointer (ptrA blk s))] := by unfold planC; rw [hgk]
  have hvI : vI l free ((k : Int) :: s) = (l.getD k gt0).m + gI l free s ((l.getD k gt0).a + free) := by rw [vI_cons, hgk]
  have hscan := scan_first (free := free) (r := (l.getD k gt0).a + free) hp.tail
  have hgbd := gI_le (free := free) (r := (l.getD k gt0).a + free) hp.tail
  have hgnn := gI_nonneg (free := free) (r := (l.getD k gt0).a + free) hp.tail
  have Hpc := Lib.hid hpc; have HvI := Lib.hid hvI; have Hscan := Lib.hid hscan
  have hps : ∀ (pre r : List Int), s = pre ++ r → Pas l r := fun pre r e => ⟨hz, fun x hx => hp.tail.i x (by rw [e]; exact List.mem_append_right _ hx), by have := hp.tail.asc; rw [e] at this; exact (List.pairwise_append.1 this).2.1⟩
  have Hps := Lib.hid hps
  have Hrw := Lib.hid hrw
  have HW0 := Lib.hid (show w.cell? ⟨wb, 0, none⟩ = some (.slice (some ⟨b, o, none⟩) l.length vcap) from w0)
  have HS := Lib.hid hs
  have Hlt := Lib.hid (fun j (hj : j ∈ s) => (show blk j ≠ w.heap.size from fun e => by have := hs.lt j hj; omega))
  have hwl := hw1.lt
  have hk0 : (0 : Int) ≤ (k : Int) := Int.natCast_nonneg _
  have hk1 : (k : Int) < (l.length : Int) := by omega
  have Hz := Lib.hid hz
  clear hpc hvI hscan hps hgk hrw ha hw3 hw1 hp hs hz c1
  generalize hxa : (l.getD k gt0).a = xa at *
  generalize hxb : (l.getD k gt0).b = xb at *
  generalize hxm : (l.getD k gt0).m = xm at *
  generalize hU : xa + free = U at *
  generalize hV : vI l free ((k : Int) :: s) = V at *
  have HU := Lib.hid hU
  have hU0 : 0 ≤ U ∧ U ≤ 1998 := by omega
  have hwU : IntKind.i64.wrap (xa + free) = U := by rw [IntWalk.i64_in _ (by have := HU.out; omega)]; exact HU.out
  have hwU2 : wrap64 (xa + free) = U := by have := HU.out; unfold wrap64; omega
  clear hxa hxb hxm hU hV
  -- the plan's own block
  have hB0 : Below w.heap.size w (w.alloc (.cells #[.int .i64 k, .int .i64 xm, .pointer none, (.pointer (ptrA blk s))] 86)) := (Below.refl _ _).alloc (Nat.le_refl _) _
  have hN0 := Whole.made w 86 #[.int .i64 k, .int .i64 xm, .pointer none, (.pointer (ptrA blk s))]
  have HB0 := Lib.hid hB0
  have HN0 := Lib.hid hN0
  have c0' := keepCell hB0 c0
  have w0' := keepCell hB0 w0
  have w2' := keepCell hB0 w2
  go_enter Try.func102, Try.ntmps102
  go_wp2_with fail
  generalize w.alloc (.cells #[.int .i64 k, .int .i64 xm, .pointer none, (.pointer (ptrA blk s))] 86) = wx at *
  clear hB0 hN0 c0 c2 w0 w2
  go_region
  have HBx := Lib.hid HB0.out.drew
  have HNx := Lib.hid (show Whole (World.drew wx) w.heap.size _ _ from HN0.out)
  have c0'' : (World.drew wx).cell? ⟨b, o + k * 3, none⟩ = some (.int .i64 xa) := c0'
  have w0'' := show (World.drew wx).cell? ⟨wb, 0, none⟩ = _ from w0'
  have w2'' := show (World.drew wx).cell? ⟨wb, 2, none⟩ = _ from w2'
  clear c0' w0' w2' HB0 HN0
  generalize World.drew wx = wy at *
  go_wp2
  go_loopg [9, 10] (s.length + 1) (fun gk nv lv wr => (∃ pre r best, PlRel blk l free U s gk nv lv pre r best) ∧ PlansAt wr blk l free s ∧ Whole wr w.heap.size 86 #[.int .i64 k, .int .i64 xm, .pointer none, (.pointer (ptrA blk s))] ∧ Below w.heap.size w wr)
  case atStart => exact ⟨⟨[], s, [], rfl, .inl rfl, by omega, rfl, rfl, rfl⟩, HS.out.below HBx.out, HNx.out, HBx.out⟩
  case round =>
    obtain ⟨⟨pre, r, best, hs_, hb_, hn, rfl, rfl, hgo⟩, hpl, hN, hbel⟩ := hrel
    have HPl := Lib.hid hpl; have HN := Lib.hid hN; have HB := Lib.hid hbel
    have Hs := Lib.hid hs_; have Hb := Lib.hid hb_; have Hgo := Lib.hid hgo
    have w0r := (show wr.cell? ⟨wb, 0, none⟩ = some (.slice (some ⟨b, o, none⟩) l.length vcap) from (hbel.cell (p := ⟨wb, 0, none⟩) hwl).trans HW0.out)
    have fz2 := hN.free 2
    have fz1 := hN.free 1
    have p1 : wr.cell? ⟨w.heap.size, 1, none⟩ = some (.int .i64 xm) := hN.cell (i := 1) rfl
    have p2 : wr.cell? ⟨w.heap.size, 2, none⟩ = some (.pointer none) := hN.cell (i := 2) rfl
    clear hpl hN hbel hs_ hb_ hgo
    cases r with
    | nil =>
      have hno := Hscan.out.2 (by rw [← Hgo.out]; rfl)
      have Hfin := Lib.hid (show planC blk l free k s = #[.int .i64 k, .int .i64 xm, .pointer none, (.pointer (ptrA blk s))] by
        rw [Hpc.out, ← Hgo.out, HvI.out, hno.1, Int.add_zero]; rfl)
      clear hno
      go_wp2
      go_ret
      rw [Hfin.out]
      exact ⟨rfl, HN.out, HB.out⟩
    | cons j r' =>
      have hpj := Hps.out pre (j :: r') Hs.out
      have hj := hpj.head
      have hpw := PlansAt.suf (pre := pre) (s := j :: r') (by rw [← Hs.out]; exact HPl.out)
      have hWj := hpw.1
      have hnj : blk j ≠ w.heap.size := Hlt.out _ (by rw [Hs.out]; exact List.mem_append_right _ List.mem_cons_self)
      obtain ⟨jn, rfl⟩ : ∃ jn : Nat, j = jn := ⟨j.toNat, by omega⟩
      have hjl : jn < l.length := by omega
      obtain ⟨g0, _, _⟩ := (Hrw.out.below HB.out hb0) jn hjl
      have hgj : gAt l (jn : Int) = l.getD jn gt0 := by unfold gAt; rw [Int.toNat_natCast]
      have hzj := validG_at Hz.out hjl
      have hj0 : (0 : Int) ≤ (jn : Int) := Int.natCast_nonneg _
      have hj1 : (jn : Int) < (l.length : Int) := by omega
      have l0 : wr.cell? ⟨blk jn, 0, none⟩ = some (.int .i64 (jn : Int)) := hWj.cell (i := 0) rfl
      have l1 : wr.cell? ⟨blk jn, 1, none⟩ = some (.int .i64 (vI l free ((jn : Int) :: r'))) := hWj.cell (i := 1) rfl
      have l3 : wr.cell? ⟨blk jn, 3, none⟩ = some (.pointer (ptrA blk r')) := hWj.cell (i := 3) rfl
      have Hgc := Lib.hid ((scanI_cons l free U (jn : Int) r' best).symm.trans Hgo.out)
      rw [hgj] at Hgc
      clear hpw hWj hpj hgj
      cases best with
      | nil =>
        have Hgd := Lib.hid (show (if U < (l.getD jn gt0).a then some ((jn : Int) :: r') else scanI l free U r' ((jn : Int) :: r')) = scanI l free U s [] from by have := Hgc.out; rw [if_pos (Or.inl rfl)] at this; exact this)
        have e1 : ptrA blk ([] : List Int) = none := rfl
        have e2 : ptrA blk ((jn : Int) :: r') = some ⟨blk jn, 0, none⟩ := rfl
        have hne1 : blk jn ≠ w.heap.size := hnj
        have hne2 : w.heap.size ≠ blk jn := fun e => hne1 e.symm
        by_cases hd : U < (l.getD jn gt0).a
        · have Hgx := Lib.hid ((if_pos hd).symm.trans Hgd.out)
          have hsc := Hscan.out.1 _ Hgx.out.symm
          have hVb : vI l free ((jn : Int) :: r') = gI l free s U := hsc.2.1
          have hbd : 0 ≤ vI l free ((jn : Int) :: r') ∧ vI l free ((jn : Int) :: r') ≤ 990 := by omega
          have Hfin := Lib.hid (show planC blk l free k s = #[.int .i64 k, .int .i64 (xm + vI l free ((jn : Int) :: r')), .pointer (some ⟨blk jn, 0, none⟩), (.pointer (ptrA blk s))] by rw [Hpc.out, ← Hgx.out, HvI.out, hVb]; rfl)
          have hws : IntKind.i64.wrap (xm + vI l free ((jn : Int) :: r')) = xm + vI l free ((jn : Int) :: r') := (by generalize vI l free ((jn : Int) :: r') = q at *; exact IntWalk.i64_in _ (by omega))
          clear hsc hVb Hgc Hgd Hgo Hscan hgbd hgnn
          generalize (l.getD jn gt0).a = ja at *
          generalize vI l free ((jn : Int) :: r') = vb at *
          go_wp2_with fail
          go_region
          all_goals
            go_wp2_with fail
            go_region
            all_goals
              go_wp2_with fail
              have hW2 : Whole (wr.setCell ⟨w.heap.size, 2, none⟩ (.pointer (some ⟨blk jn, 0, none⟩))) w.heap.size 86 #[.int .i64 k, .int .i64 xm, .pointer (some ⟨blk jn, 0, none⟩), (.pointer (ptrA blk s))] := Whole.set HN.out 2 _
              have p1' := show (wr.setCell ⟨w.heap.size, 2, none⟩ (.pointer (some ⟨blk jn, 0, none⟩))).cell? ⟨w.heap.size, 1, none⟩ = some (.int .i64 xm) from hW2.cell (i := 1) rfl
              have q1' : (wr.setCell ⟨w.heap.size, 2, none⟩ (.pointer (some ⟨blk jn, 0, none⟩))).cell? ⟨blk jn, 1, none⟩ = some (.int .i64 vb) := (World.cell?_setCell_other _ _ _ _ (by intro q; injection q with q; first | exact hne1 q | exact hne2 q)).trans l1
              have fz1' := hW2.free 1
              have HB2 := Lib.hid (show Below w.heap.size w (wr.setCell ⟨w.heap.size, 2, none⟩ (.pointer (some ⟨blk jn, 0, none⟩))) from HB.out.setCell (p := ⟨w.heap.size, 2, none⟩) (Nat.le_refl _) _)
              have HW2 := Lib.hid hW2
              clear hW2
              go_region
              all_goals
                go_wp2
                go_ret
                rw [Hfin.out]
                exact ⟨rfl, Whole.set HW2.out 1 (.int .i64 (xm + vb)), by first | exact (HB2.out.setCell (p := ⟨w.heap.size, 1, none⟩) (Nat.le_refl _) (.int .i64 (xm + vb))).drew.drew.drew | exact (HB2.out.setCell (p := ⟨w.heap.size, 1, none⟩) (Nat.le_refl _) (.int .i64 (xm + vb))).drewN _⟩
        · have Hgx := Lib.hid ((if_neg hd).symm.trans Hgd.out)
          clear Hgc Hgd Hgo
          generalize (l.getD jn gt0).a = ja at *
          go_wp2_with fail
          go_region
          all_goals
            go_wp2_with fail
            go_region
            all_goals
              go_wp2
              go_roundg (r'.length + 1)
              case measure => simp only [List.length_cons] at hn; omega
              case rel => exact ⟨⟨pre ++ [(jn : Int)], r', (jn : Int) :: r', by rw [Hs.out]; simp, .inr ⟨pre, Hs.out⟩, by omega, rfl, rfl, Hgx.out⟩, PlansAt.below (by first | exact (Below.refl _ _).drew.drew | exact (Below.refl _ _).drewN _) HPl.out, HN.out, by first | exact HB.out.drew.drew | exact HB.out.drewN _⟩
      | cons j2 b2 =>
        obtain ⟨pre2, hs2⟩ : ∃ pre', s = pre' ++ (j2 :: b2) := by
          rcases Hb.out with h | h
          · cases h
          · exact h
        have Hs2 := Lib.hid hs2
        have hp2 := PlansAt.suf (pre := pre2) (s := j2 :: b2) (by rw [← hs2]; exact HPl.out)
        have q1 : wr.cell? ⟨blk j2, 1, none⟩ = some (.int .i64 (vI l free (j2 :: b2))) := hp2.1.cell (i := 1) rfl
        have hn2 : blk j2 ≠ w.heap.size := Hlt.out _ (by rw [hs2]; exact List.mem_append_right _ List.mem_cons_self)
        have e1 : ptrA blk (j2 :: b2) = some ⟨blk j2, 0, none⟩ := rfl
        have e2 : ptrA blk ((jn : Int) :: r') = some ⟨blk jn, 0, none⟩ := rfl
        clear hp2 hs2
        by_cases hv : vI l free ((jn : Int) :: r') < vI l free (j2 :: b2)
        · have Hgd := Lib.hid (show (if U < (l.getD jn gt0).a then some ((jn : Int) :: r') else scanI l free U r' ((jn : Int) :: r')) = scanI l free U s [] from by have := Hgc.out; rw [if_pos (Or.inr hv)] at this; exact this)
          have hne1 : blk jn ≠ w.heap.size := hnj
          have hne2 : w.heap.size ≠ blk jn := fun e => hne1 e.symm
          by_cases hd : U < (l.getD jn gt0).a
          · have Hgx := Lib.hid ((if_pos hd).symm.trans Hgd.out)
            have hsc := Hscan.out.1 _ Hgx.out.symm
            have hVb : vI l free ((jn : Int) :: r') = gI l free s U := hsc.2.1
            have hbd : 0 ≤ vI l free ((jn : Int) :: r') ∧ vI l free ((jn : Int) :: r') ≤ 990 := by omega
            have Hfin := Lib.hid (show planC blk l free k s = #[.int .i64 k, .int .i64 (xm + vI l free ((jn : Int) :: r')), .pointer (some ⟨blk jn, 0, none⟩), (.pointer (ptrA blk s))] by rw [Hpc.out, ← Hgx.out, HvI.out, hVb]; rfl)
            have hws : IntKind.i64.wrap (xm + vI l free ((jn : Int) :: r')) = xm + vI l free ((jn : Int) :: r') := (by generalize vI l free ((jn : Int) :: r') = q at *; exact IntWalk.i64_in _ (by omega))
            clear hsc hVb Hgc Hgd Hgo Hscan hgbd hgnn
            generalize (l.getD jn gt0).a = ja at *
            generalize vI l free ((jn : Int) :: r') = vb at *
            go_wp2_with fail
            go_region
            all_goals
              go_wp2_with fail
              go_region
              all_goals
                go_wp2_with fail
                have hW2 : Whole (wr.setCell ⟨w.heap.size, 2, none⟩ (.pointer (some ⟨blk jn, 0, none⟩))) w.heap.size 86 #[.int .i64 k, .int .i64 xm, .pointer (some ⟨blk jn, 0, none⟩), (.pointer (ptrA blk s))] := Whole.set HN.out 2 _
                have p1' := show (wr.setCell ⟨w.heap.size, 2, none⟩ (.pointer (some ⟨blk jn, 0, none⟩))).cell? ⟨w.heap.size, 1, none⟩ = some (.int .i64 xm) from hW2.cell (i := 1) rfl
                have q1' : (wr.setCell ⟨w.heap.size, 2, none⟩ (.pointer (some ⟨blk jn, 0, none⟩))).cell? ⟨blk jn, 1, none⟩ = some (.int .i64 vb) := (World.cell?_setCell_other _ _ _ _ (by intro q; injection q with q; first | exact hne1 q | exact hne2 q)).trans l1
                have fz1' := hW2.free 1
                have HB2 := Lib.hid (show Below w.heap.size w (wr.setCell ⟨w.heap.size, 2, none⟩ (.pointer (some ⟨blk jn, 0, none⟩))) from HB.out.setCell (p := ⟨w.heap.size, 2, none⟩) (Nat.le_refl _) _)
                have HW2 := Lib.hid hW2
                clear hW2
                go_region
                all_goals
                  go_wp2
                  go_ret
                  rw [Hfin.out]
                  exact ⟨rfl, Whole.set HW2.out 1 (.int .i64 (xm + vb)), by first | exact (HB2.out.setCell (p := ⟨w.heap.size, 1, none⟩) (Nat.le_refl _) (.int .i64 (xm + vb))).drew.drew.drew | exact (HB2.out.setCell (p := ⟨w.heap.size, 1, none⟩) (Nat.le_refl _) (.int .i64 (xm + vb))).drewN _⟩
          · have Hgx := Lib.hid ((if_neg hd).symm.trans Hgd.out)
            clear Hgc Hgd Hgo
            generalize (l.getD jn gt0).a = ja at *
            go_wp2_with fail
            go_region
            all_goals
              go_wp2_with fail
              go_region
              all_goals
                go_wp2
                go_roundg (r'.length + 1)
                case measure => simp only [List.length_cons] at hn; omega
                case rel => exact ⟨⟨pre ++ [(jn : Int)], r', (jn : Int) :: r', by rw [Hs.out]; simp, .inr ⟨pre, Hs.out⟩, by omega, rfl, rfl, Hgx.out⟩, PlansAt.below (by first | exact (Below.refl _ _).drew.drew | exact (Below.refl _ _).drewN _) HPl.out, HN.out, by first | exact HB.out.drew.drew | exact HB.out.drewN _⟩
        · have Hgd := Lib.hid (show (if U < (l.getD jn gt0).a then some (j2 :: b2) else scanI l free U r' (j2 :: b2)) = scanI l free U s [] from by
            have hnn : ¬ (j2 :: b2 = [] ∨ vI l free ((jn : Int) :: r') < vI l free (j2 :: b2)) := fun h => h.elim (by simp) hv
            have := Hgc.out; rw [if_neg hnn] at this; exact this)
          have hne1 : blk j2 ≠ w.heap.size := hn2
          have hne2 : w.heap.size ≠ blk j2 := fun e => hne1 e.symm
          by_cases hd : U < (l.getD jn gt0).a
          · have Hgx := Lib.hid ((if_pos hd).symm.trans Hgd.out)
            have hsc := Hscan.out.1 _ Hgx.out.symm
            have hVb : vI l free (j2 :: b2) = gI l free s U := hsc.2.1
            have hbd : 0 ≤ vI l free (j2 :: b2) ∧ vI l free (j2 :: b2) ≤ 990 := by omega
            have Hfin := Lib.hid (show planC blk l free k s = #[.int .i64 k, .int .i64 (xm + vI l free (j2 :: b2)), .pointer (some ⟨blk j2, 0, none⟩), (.pointer (ptrA blk s))] by rw [Hpc.out, ← Hgx.out, HvI.out, hVb]; rfl)
            have hws : IntKind.i64.wrap (xm + vI l free (j2 :: b2)) = xm + vI l free (j2 :: b2) := (by generalize vI l free (j2 :: b2) = q at *; exact IntWalk.i64_in _ (by omega))
            clear hsc hVb Hgc Hgd Hgo Hscan hgbd hgnn
            generalize (l.getD jn gt0).a = ja at *
            generalize vI l free (j2 :: b2) = vb at *
            go_wp2_with fail
            go_region
            all_goals
              go_wp2_with fail
              go_region
              all_goals
                go_wp2_with fail
                have hW2 : Whole (wr.setCell ⟨w.heap.size, 2, none⟩ (.pointer (some ⟨blk j2, 0, none⟩))) w.heap.size 86 #[.int .i64 k, .int .i64 xm, .pointer (some ⟨blk j2, 0, none⟩), (.pointer (ptrA blk s))] := Whole.set HN.out 2 _
                have p1' := show (wr.setCell ⟨w.heap.size, 2, none⟩ (.pointer (some ⟨blk j2, 0, none⟩))).cell? ⟨w.heap.size, 1, none⟩ = some (.int .i64 xm) from hW2.cell (i := 1) rfl
                have q1' : (wr.setCell ⟨w.heap.size, 2, none⟩ (.pointer (some ⟨blk j2, 0, none⟩))).cell? ⟨blk j2, 1, none⟩ = some (.int .i64 vb) := (World.cell?_setCell_other _ _ _ _ (by intro q; injection q with q; first | exact hne1 q | exact hne2 q)).trans q1
                have fz1' := hW2.free 1
                have HB2 := Lib.hid (show Below w.heap.size w (wr.setCell ⟨w.heap.size, 2, none⟩ (.pointer (some ⟨blk j2, 0, none⟩))) from HB.out.setCell (p := ⟨w.heap.size, 2, none⟩) (Nat.le_refl _) _)
                have HW2 := Lib.hid hW2
                clear hW2
                go_region
                all_goals
                  go_wp2
                  go_ret
                  rw [Hfin.out]
                  exact ⟨rfl, Whole.set HW2.out 1 (.int .i64 (xm + vb)), by first | exact (HB2.out.setCell (p := ⟨w.heap.size, 1, none⟩) (Nat.le_refl _) (.int .i64 (xm + vb))).drew.drew.drew | exact (HB2.out.setCell (p := ⟨w.heap.size, 1, none⟩) (Nat.le_refl _) (.int .i64 (xm + vb))).drewN _⟩
          · have Hgx := Lib.hid ((if_neg hd).symm.trans Hgd.out)
            clear Hgc Hgd Hgo
            generalize (l.getD jn gt0).a = ja at *
            go_wp2_with fail
            go_region
            all_goals
              go_wp2_with fail
              go_region
              all_goals
                go_wp2
                go_roundg (r'.length + 1)
                case measure => simp only [List.length_cons] at hn; omega
                case rel => exact ⟨⟨pre ++ [(jn : Int)], r', j2 :: b2, by rw [Hs.out]; simp, .inr ⟨pre2, Hs2.out⟩, by omega, rfl, rfl, Hgx.out⟩, PlansAt.below (by first | exact (Below.refl _ _).drew.drew | exact (Below.refl _ _).drewN _) HPl.out, HN.out, by first | exact HB.out.drew.drew | exact HB.out.drewN _⟩

end Go.Proofs.Ythhllpnbmelidaa
