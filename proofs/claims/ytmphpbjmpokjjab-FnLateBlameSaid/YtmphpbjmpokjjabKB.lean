/- The program's latenessOf. -/
import Derived.Test.YtmphpbjmpokjjabKA
import Derived.Test.YtmphpbjmpokjjabICL
import Derived.Test.YtmphpbjmpokjjabY2
import Derived.Deep.AppendLies
import Derived.Deep.LoopGhost
namespace Go.Proofs.Ytmphpbjmpokjjab
open Go.RowKit

/-- By how much the coach left the stop ahead late; the delay on the way from there. -/
def prevV (l : List Rd) (least start : Int) (ds : List Int) (k : Nat) : Int := match k with | 0 => start | j + 1 => leaV l least start ds j
def aheadV (ds : List Int) (k : Nat) : Int := match k with | 0 => 0 | j + 1 => ds.getD j 0
theorem ahead_at (ds : List Int) (k : Nat) : (([0] ++ ds : List Int)).getD k 0 = aheadV ds k := by
  cases k with
  | zero => rfl
  | succ j => rfl
theorem late_step (l : List Rd) (least start : Int) (ds : List Int) (hs : 0 ≤ start) (k : Nat) : arrV l least start ds k = prevV l least start ds k + aheadV ds k ∧ leaV l least start ds k = max 0 (arrV l least start ds k - slkV l least k) := by
  cases k with
  | zero =>
    refine ⟨by show start = start + 0; omega, ?_⟩
    show start = max 0 (start - 0); omega
  | succ j =>
    refine ⟨rfl, ?_⟩
    rw [leaV_succ]
    unfold slkV; rw [if_neg (by omega)]
theorem prev_succ (l : List Rd) (least start : Int) (ds : List Int) (k : Nat) : prevV l least start ds (k + 1) = leaV l least start ds k := rfl

theorem own_touch {w w' : World} {B k E c : Nat} {v : Value} {xs : List Value} {S : Nat → Prop} (h : w.ownsRow B E c v k xs) (ht : Touch S w w') (hS : ∀ q, v.ownBlock = some q → ¬ S q) : w'.ownsRow B E c v k xs := by
  obtain ⟨h1, h2⟩ := h
  refine ⟨h1, ?_⟩
  rcases h2 with h0 | ⟨g, cap, cur, rfl, hg, hh, r⟩
  · exact .inl h0
  · exact .inr ⟨g, cap, cur, rfl, hg, (ht.block g (Array.getElem?_eq_some_iff.1 hh).1 (hS g rfl)).trans hh, r⟩
theorem Whole.grown {w w' : World} {g : Nat} {t : TypeId} {cs : Array Value} {row : Option Nat} (h : Whole w g t cs) (hg : w.grownBy w' row) (hne : row ≠ some g) : Whole w' g t cs :=
  (hg.block g h.lt (fun e => hne e.symm)).trans h
theorem Whole.touch {w w' : World} {g : Nat} {t : TypeId} {cs : Array Value} {S : Nat → Prop} (h : Whole w g t cs) (ht : Touch S w w') (hS : ¬ S g) : Whole w' g t cs :=
  (ht.block g h.lt hS).trans h

theorem own_mono {w : World} {B C E c k : Nat} {v : Value} {xs : List Value} (h : w.ownsRow B E c v k xs) (hC : C ≤ B) : w.ownsRow C E c v k xs := by
  obtain ⟨h1, h2⟩ := h
  refine ⟨h1, ?_⟩
  rcases h2 with h0 | ⟨g, cap, cur, rfl, hg, hh, r⟩
  · exact .inl h0
  · exact .inr ⟨g, cap, cur, rfl, Nat.le_trans hC hg, hh, r⟩
/-- Two rows of the call's own, in blocks of their own. -/
def LateOut (n : Int) (l : List Rd) (least start : Int) (ds : List Int) (w : World) (e : Ending) (w' : World) : Prop :=
  ∃ u r : Value, e = .returned (.tuple #[u, r, .bool (okLate n l least start ds)]) ∧ RowI w' w.heap.size u (arrX n l least start ds) ∧ RowI w' w.heap.size r (leaX n l least start ds) ∧ (∀ q, u.ownBlock = some q → r.ownBlock ≠ some q) ∧ Below w.heap.size w w'

theorem LateOut.no {n : Int} {l : List Rd} {least start : Int} {ds : List Int} {w w1 : World} (h : okLate n l least start ds = false) (hb : Below w.heap.size w w1) :
    LateOut n l least start ds w (.returned (.tuple #[.slice (some ⟨w1.heap.size, 0, none⟩) 0 0, .slice (some ⟨w1.heap.size + 1, 0, none⟩) 0 0, .bool false])) ((w1.alloc (.cells #[] 3)).alloc (.cells #[] 3)) := by
  have e1 : arrX n l least start ds = [] := by unfold arrX; rw [h]; rfl
  have e2 : leaX n l least start ds = [] := by unfold leaX; rw [h]; rfl
  have hb2 : Below (w1.alloc (.cells #[] 3)).heap.size (w1.alloc (.cells #[] 3)) ((w1.alloc (.cells #[] 3)).alloc (.cells #[] 3)) := (Below.refl _ _).alloc (Nat.le_refl _) _
  have hz : (w1.alloc (.cells #[] 3)).heap.size = w1.heap.size + 1 := by simp
  refine ⟨_, _, by rw [h], ?_, ?_, fun q hq hr => ?_, (hb.alloc hb.size _).alloc (by have := hb.size; simp; omega) _⟩
  · rw [e1]; exact (RowI.made w1 _ hb.size).below hb2
  · rw [e2, ← hz]; exact RowI.made _ _ (by have := hb.size; simp; omega)
  · simp [Value.ownBlock] at hq hr; omega

theorem LateOut.yes {n : Int} {l : List Rd} {least start : Int} {ds : List Int} {w w' : World} {u r : Value} (h : okLate n l least start ds = true) (hu : RowI w' w.heap.size u (arrX n l least start ds)) (hr : RowI w' w.heap.size r (leaX n l least start ds))
    (hn : ∀ q, u.ownBlock = some q → r.ownBlock ≠ some q) (hb : Below w.heap.size w w') : LateOut n l least start ds w (.returned (.tuple #[u, r, .bool true])) w' := ⟨u, r, by rw [h], hu, hr, hn, hb⟩

theorem parts2_mk {w W : World} {b o cap : Nat} {ds : List Int} (hb : Below w.heap.size w W) (hlt : b < w.heap.size) (hat : IntAt w b o ds) :
    PartsI ((W.alloc (.cells #[.int .i64 0] 3)).alloc (.cells #[.slice (some ⟨W.heap.size, 0, none⟩) 1 1, .slice (some ⟨b, o, none⟩) ds.length cap] 24)) (W.heap.size + 1)
      (fun i => if i = 0 then ⟨W.heap.size, 0, none⟩ else ⟨b, o, none⟩) (fun i => if i = 0 then 1 else cap) (fun i => if i = 0 then [0] else ds) := by
  have hb2 := (hb.alloc hb.size (.cells #[.int .i64 0] 3)).alloc (Nat.le_trans hb.size (by simp)) (.cells #[.slice (some ⟨W.heap.size, 0, none⟩) 1 1, .slice (some ⟨b, o, none⟩) ds.length cap] 24)
  have hnw := (hat.below hb2 hlt).news
  have hnew := heap_alloc_new (W.alloc (.cells #[.int .i64 0] 3)) (.cells #[.slice (some ⟨W.heap.size, 0, none⟩) 1 1, .slice (some ⟨b, o, none⟩) ds.length cap] 24)
  have hsz : (W.alloc (.cells #[.int .i64 0] 3)).heap.size = W.heap.size + 1 := by simp
  rw [hsz] at hnew
  refine ⟨by simp, fun i hi => ?_, fun i hi hn => ?_, fun i hi => ?_⟩
  · rw [cell_of_row _ _ i _ _ _ hnew]
    rcases (by omega : i = 0 ∨ i = 1) with rfl | rfl <;> simp
  · rcases (by omega : i = 0 ∨ i = 1) with rfl | rfl
    · show W.heap.size < _; simp; omega
    · show b < _; exact Nat.lt_of_lt_of_le hlt hb2.size
  · rcases (by omega : i = 0 ∨ i = 1) with rfl | rfl
    · intro j u hj
      have h1 := news1 W #[.int .i64 0] 3 j u hj
      exact (((Below.refl _ (W.alloc (.cells #[.int .i64 0] 3))).alloc (Nat.le_refl _) _).cell (by show (Addr.add ⟨W.heap.size, 0, none⟩ j).block < _; rw [addI_block]; simp)).trans h1
    · exact hnw

/-- Two rows of the call's own in blocks of their own, beside two boxes. -/
structure Rows2 (w : World) (B gl gm gu gr ku kr cu cr : Nat) (U R : List Value) (y z : Int) : Prop where
  hu : w.ownsRow B 3 1 (.slice (some ⟨gu, 0, none⟩) ku cu) ku U
  hr : w.ownsRow B 3 1 (.slice (some ⟨gr, 0, none⟩) kr cr) kr R
  ne : gu ≠ gr ∧ gu ≠ gl ∧ gu ≠ gm ∧ gr ≠ gl ∧ gr ≠ gm
  hl : Whole w gl 3 #[.int .i64 y]
  hm : Whole w gm 3 #[.int .i64 z]
theorem Rows2.swap {w : World} {B gl gm gu gr ku kr cu cr : Nat} {U R : List Value} {y z : Int} (h : Rows2 w B gl gm gu gr ku kr cu cr U R y z) : Rows2 w B gl gm gr gu kr ku cr cu R U y z :=
  ⟨h.hr, h.hu, ⟨fun e => h.ne.1 e.symm, h.ne.2.2.2.1, h.ne.2.2.2.2, h.ne.2.1, h.ne.2.2.1⟩, h.hl, h.hm⟩
theorem Rows2.appU {w w' : World} {B gl gm gu gr ku kr cu cr g2 k2 cp2 : Nat} {U R U2 : List Value} {y z : Int} (h : Rows2 w B gl gm gu gr ku kr cu cr U R y z) {A : Obj}
    (hg : (w.alloc A).grownBy w' (some gu)) (ho : w'.ownsRow B 3 1 (.slice (some ⟨g2, 0, none⟩) k2 cp2) k2 U2) (hlie : some gu = some g2 ∨ g2 = (w.alloc A).heap.size) : Rows2 w' B gl gm g2 gr k2 kr cp2 cr U2 R y z := by
  have hb : Below w.heap.size w (w.alloc A) := (Below.refl _ _).alloc (Nat.le_refl _) _
  have h1 := (h.hr.lt gr rfl).2
  have h2 := h.hl.lt
  have h3 := h.hm.lt
  obtain ⟨n1, n2, n3, n4, n5⟩ := h.ne
  rw [World.size_alloc] at hlie
  refine ⟨ho, World.ownsRow.kept (World.ownsRow.alloc h.hr A) hg (.inr (by intro e; injection e with e; exact n1 e.symm)), ?_, (h.hl.below hb h.hl.lt).grown hg (by intro e; injection e with e; exact n2 e), (h.hm.below hb h.hm.lt).grown hg (by intro e; injection e with e; exact n3 e)⟩
  rcases hlie with e | e
  · injection e with e; subst e; exact ⟨n1, n2, n3, n4, n5⟩
  · exact ⟨by omega, by omega, by omega, n4, n5⟩
theorem Rows2.belU {w w' w0 : World} {B gl gm gu gr ku kr cu cr : Nat} {U R : List Value} {y z : Int} (h : Rows2 w B gl gm gu gr ku kr cu cr U R y z) {A : Obj}
    (hb : Below B w0 w) (hB : B ≤ w.heap.size) (hg : (w.alloc A).grownBy w' (some gu)) : Below B w0 w' :=
  (hb.alloc hB A).grown hg (by simp; omega) (fun q hq => by injection hq with hq; subst hq; exact (h.hu.lt gu rfl).1)

def LoRel (l : List Rd) (least start : Int) (ds : List Int) (hs : List Nat) (w3 : World) (gl gm : Nat) (gk : Nat) (u r hv : Value) (wr : World) : Prop :=
  ∃ k gu gr cu cr : Nat, k + gk = l.length ∧ hv = ptB hs[k]? ∧ u = .slice (some ⟨gu, 0, none⟩) k cu ∧ r = .slice (some ⟨gr, 0, none⟩) k cr ∧
    Rows2 wr w3.heap.size gl gm gu gr k k cu cr ((arrL l least start ds k).map (Value.int .i64)) ((leaL l least start ds k).map (Value.int .i64)) (prevV l least start ds k) least ∧ Below w3.heap.size w3 wr

theorem late_two (w : World) (x y : Int) : IntAt (w.alloc (.cells #[.int .i64 x, .int .i64 y] 3)) w.heap.size 0 [x, y] := fun i hi => by
  simp at hi
  rcases (show i = 0 ∨ i = 1 by omega) with rfl | rfl <;> simp

set_option maxRecDepth 100000 in
set_option maxHeartbeats 2000000 in
theorem late2_any (n : Int) (v : Value) (l : List Rd) (least start : Int) (v' : Value) (ds : List Int) (w : World) (hv : RoadsIn w v l) (hl : l.length ≤ 1048576) (hv' : IntsIn w v' ds) (hd : ds.length ≤ 1048576) :
    Calls Try.prog 47 #[.int .i64 n, v, .int .i64 least, .int .i64 start, v'] w (LateOut n l least start ds w) := by
  obtain ⟨i0, hi, hz0, hz1, hz2⟩ := info_parts Try.info3
  have HC := Lib.hid (ttOf_any n v l w hv hl)
  have HV' := Lib.hid (fun (w' : World) (h : Below w.heap.size w w') => areDl_any v' ds w' (hv'.below h) hd)
  have HD := Lib.hid hv'
  obtain ⟨av, cv, rfl, _⟩ := hv
  obtain ⟨a', cap', rfl, hc', ha'⟩ := hv'
  have Ha' := Lib.hid ha'
  have Hok := Lib.hid (show okLate n l least start ds = (allDl ds && (validS n l && (okDl least && (okDl start && decide (ds.length + 1 = l.length))))) from rfl)
  clear ha' hc'
  cases hz : validS n l with
  | false =>
    have Ho := Lib.hid (show okLate n l least start ds = false by rw [Hok.out, hz, Bool.false_and, Bool.and_false])
    have Hz := Lib.hid hz; clear hz Hok
    go_enter Try.func47, Try.ntmps47
    go_wp2_with fail
    refine HC.out.mono ?_; rintro e w1 ⟨_, h1⟩
    obtain ⟨rfl, hb1⟩ := h1 Hz.out
    have HB1 := Lib.hid hb1
    clear h1 hb1 HC
    go_wp2
    go_ret3
    exact LateOut.no Ho.out HB1.out
  | true =>
    rw [hz, Bool.true_and] at Hok
    have h2 := (validS_iff.1 hz).1
    obtain ⟨_, _, l2, l8⟩ := h2
    have Hz := Lib.hid hz; clear hz
    have hlw : wrap64 ((l.length : Int) - 1) = (l.length : Int) - 1 := by unfold wrap64; omega
    by_cases hlen : ds.length + 1 = l.length
    · have hn1 : ((ds.length : Int) != (l.length : Int) - 1) = false := by simp; omega
      rw [decide_eq_true hlen, Bool.and_true] at Hok
      have Hlen := Lib.hid hlen
      have hll : (ds.length : Int) ≤ 7 := by omega
      clear hlen
      go_enter Try.func47, Try.ntmps47
      go_wp2_with fail
      refine HC.out.mono ?_; rintro e w1 ⟨h1, _⟩
      obtain ⟨tb, hs, rfl, htt, _, hb1⟩ := h1 Hz.out
      have HB1 := Lib.hid hb1
      have HT := Lib.hid htt
      clear h1 hb1 HC htt
      have HB2 := Lib.hid (HB1.out.alloc HB1.out.size (.cells #[.int .i64 least, .int .i64 start] 3))
      have HI := Lib.hid (IntsIn.row (cap := 2) (show w1.heap.size < (w1.alloc (.cells #[.int .i64 least, .int .i64 start] 3)).heap.size by simp) (by simp) (late_two w1 least start))
      have HT2 := Lib.hid (HT.out.below ((Below.refl _ _).alloc (Nat.le_refl _) (.cells #[.int .i64 least, .int .i64 start] 3)))
      clear HT
      go_wp2_with fail
      generalize w1.alloc (.cells #[.int .i64 least, .int .i64 start] 3) = w2 at *
      refine (areDl_any _ [least, start] _ HI.out (by simp)).mono ?_; rintro e w' ⟨rfl, rfl⟩
      rw [show allDl [least, start] = (okDl least && okDl start) by simp [allDl]]
      clear HI
      cases hq : (okDl least && okDl start) with
      | false =>
        have Ho := Lib.hid (show okLate n l least start ds = false by rw [Hok.out, hq, Bool.and_false])
        clear hq Hok
        go_wp2
        go_ret3
        exact LateOut.no Ho.out HB2.out
      | true =>
        rw [hq, Bool.and_true] at Hok
        have hq2 := hq
        rw [Bool.and_eq_true] at hq2
        obtain ⟨l0, l1⟩ := okDl_iff.1 hq2.1
        obtain ⟨s0, s1⟩ := okDl_iff.1 hq2.2
        clear hq hq2
        go_wp2_with fail
        refine (HV'.out w' HB2.out).mono ?_; rintro e w2 ⟨rfl, rfl⟩
        clear HV'
        cases hq : allDl ds with
        | false =>
          have Ho := Lib.hid (show okLate n l least start ds = false by rw [Hok.out, hq])
          clear hq Hok
          go_wp2
          go_ret3
          exact LateOut.no Ho.out HB2.out
        | true =>
          have Ho := Lib.hid (show okLate n l least start ds = true by rw [Hok.out, hq])
          have Hda := Lib.hid (fun k => allDl_at hq k)
          have Hbd := Lib.hid (fun k => late_bd (l := l) (least := least) hq ⟨s0, s1⟩ k)
          clear hq Hok
          obtain ⟨b, o, rfl, hb0, hat⟩ := Ha'.out (by rintro rfl; have := Hlen.out; simp at this; omega)
          have Hp := Lib.hid (parts2_mk (cap := cap') HB2.out hb0 hat)
          clear hat hb0 HD Ha'
          have HBc := Lib.hid (show Below w2.heap.size w2 ((w2.alloc (.cells #[.int .i64 0] 3)).alloc (.cells #[.slice (some ⟨w2.heap.size, 0, none⟩) 1 1, .slice (some ⟨b, o, none⟩) ds.length cap'] 24)) from ((Below.refl _ _).alloc (Nat.le_refl _) _).alloc (by simp) _)
          go_wp2_with fail
          refine (concatI_any _ _ _ _ _ Hp.out (by simp [catI]; omega)).mono ?_; rintro e w3 ⟨vc, rfl, hrow, hb3⟩
          have hcl : (catI (fun i => if i = 0 then [0] else ds) 2).length = l.length := by have := Hlen.out; simp [catI]; omega
          obtain ⟨ga, capa, rfl, hca, hata, _, _, hga⟩ := hrow.open2 (by rw [hcl]; omega)
          have Hata := Lib.hid (fun (k : Nat) (hk : k < l.length) => (show w3.cell? ⟨ga, k, none⟩ = some (.int .i64 (aheadV ds k)) by
            have := hata k (by rw [hcl]; exact hk)
            rw [Nat.zero_add] at this
            rw [this, show (catI (fun i => if i = 0 then [0] else ds) 2) = ([0] ++ ds : List Int) by simp [catI], ahead_at]))
          rw [hcl] at hca ⊢
          have HBw := Lib.hid (HBc.out.trans (hb3.mono HBc.out.size))
          have HT3 := Lib.hid (HT2.out.below HBw.out)
          have HB3 := Lib.hid (HB2.out.trans (HBw.out.mono HB2.out.size))
          have Hga := Lib.hid hga
          clear hcl hata hrow hb3 HBc Hp hga HT2
          have hu0 := (RowI.made w3 w3.heap.size (Nat.le_refl _)).below ((Below.refl _ (w3.alloc (.cells #[] 3))).alloc (Nat.le_refl _) (.cells #[] 3))
          have hr0 := RowI.made (w3.alloc (.cells #[] 3)) w3.heap.size (by simp)
          have hb4 : Below w3.heap.size w3 ((w3.alloc (.cells #[] 3)).alloc (.cells #[] 3)) := ((Below.refl _ _).alloc (Nat.le_refl _) _).alloc (by simp) _
          have hz4 : ((w3.alloc (.cells #[] 3)).alloc (.cells #[] 3)).heap.size = w3.heap.size + 2 := by simp
          rw [World.size_alloc] at hr0
          have Hu0 := Lib.hid hu0
          have Hr0 := Lib.hid hr0
          have HB4 := Lib.hid hb4
          have Hz4 := Lib.hid hz4
          clear hu0 hr0 hb4 hz4
          go_wp2_with fail
          generalize (w3.alloc (.cells #[] 3)).alloc (.cells #[] 3) = w4 at *
          refine (lateFrom_any start least w4).mono ?_; rintro e w5 ⟨rfl, hgm, hgl, hb5, hz5⟩
          have HG := Lib.hid (And.intro hgm hgl)
          have HB5 := Lib.hid (HB4.out.trans (hb5.mono HB4.out.size))
          have Hu5 := Lib.hid (Hu0.out.below hb5)
          have Hr5 := Lib.hid (Hr0.out.below hb5)
          have HT5 := Lib.hid (HT3.out.below HB5.out)
          rw [Hz4.out]
          rw [Hz4.out] at HG
          obtain ⟨gm, hgm9⟩ : ∃ g, w3.heap.size + 2 = g := ⟨_, rfl⟩
          obtain ⟨gl, hgl9⟩ : ∃ g, w3.heap.size + 2 + 1 = g := ⟨_, rfl⟩
          rw [hgl9, hgm9]
          rw [hgl9, hgm9] at HG
          have Hgm := Lib.hid hgm9
          have Hgl := Lib.hid hgl9
          have c0 := HT5.out.first_some (by omega)
          clear hgm hgl hb5 hz5 Hu0 Hr0 hgm9 hgl9 Hz4
          generalize hg0 : hs.getD 0 0 = g0 at *
          have Hg0 := Lib.hid hg0
          clear hg0
          go_wp2
          go_loopg [16, 17, 19] l.length (fun gk u r hv wr => LoRel l least start ds hs w3 gl gm gk u r hv wr)
          case atStart =>
            have hm := Hgm.out
            have hl9 := Hgl.out
            refine ⟨0, w3.heap.size, w3.heap.size + 1, 0, 0, by omega, ?_, rfl, rfl, ⟨Hu5.out, Hr5.out, ⟨by omega, by omega, by omega, by omega, by omega⟩, HG.out.2, HG.out.1⟩, HB5.out⟩
            rw [ptB_some (by rw [HT5.out.len]; omega), Hg0.out]
          case round =>
            obtain ⟨k, gu, gr, cu, cr, hkg, rfl, rfl, rfl, hR, hbel⟩ := hrel
            have hm9 := Hgm.out
            have hl9 := Hgl.out
            have HTr := Lib.hid (HT3.out.below hbel)
            by_cases hlt : k < l.length
            · rw [ptB_some (by rw [HTr.out.len]; exact hlt)]
              have c1 := HTr.out.arrive hlt
              have c2 := HTr.out.leave hlt
              have c3 := HTr.out.index hlt
              have c4 : ∃ pv, wr.cell? ⟨hs.getD k 0, 4, none⟩ = some (.pointer pv) ∧ SlkIs pv (l.getD k rd0).b (l.getD k rd0).m least (slkV l least k) := by
                cases k with
                | zero => exact ⟨none, HTr.out.prev_none (by omega), .inl ⟨rfl, rfl⟩⟩
                | succ j => exact ⟨_, HTr.out.prev_some hlt, .inr ⟨_, rfl, by unfold slkV slackOf; rw [if_neg (by omega)]⟩⟩
              obtain ⟨pv, c4, hsk⟩ := c4
              have hc5 : ∀ w8 : World, Below w3.heap.size wr w8 → w8.cell? ⟨hs.getD k 0, 5, none⟩ = some (ptB hs[k + 1]?) := fun w8 h8 => ((HT3.out.below (hbel.trans h8)).halts k hlt).cell rfl
              have ca : wr.cell? ⟨ga, k, none⟩ = some (.int .i64 (aheadV ds k)) := (hbel.cell (p := ⟨ga, k, none⟩) Hga.out).trans (Hata.out k hlt)
              obtain ⟨_, _, b0, b1, b2, _⟩ := validS_at Hz.out hlt
              obtain ⟨hx1, hx2⟩ := late_step l least start ds s0 k
              obtain ⟨x0, x1, y0, y1⟩ := Hbd.out k
              have hal := arrL_succ l least start ds k
              have hll9 := leaL_succ l least start ds k
              have hpv : 0 ≤ prevV l least start ds k ∧ prevV l least start ds k ≤ 100000 := by
                cases k with
                | zero => show 0 ≤ start ∧ start ≤ 100000; omega
                | succ j => have := Hbd.out j; show 0 ≤ leaV l least start ds j ∧ leaV l least start ds j ≤ 100000; omega
              have hav : 0 ≤ aheadV ds k ∧ aheadV ds k ≤ 300 := by
                cases k with
                | zero => show (0 : Int) ≤ 0 ∧ (0 : Int) ≤ 300; omega
                | succ j => exact Hda.out j
              have hsv : 0 ≤ slkV l least k ∧ slkV l least k ≤ 10000 := by
                refine ⟨slkV_pos _ _ _, ?_⟩
                unfold slkV; split
                · omega
                · unfold slackOf; omega
              have HN := Lib.hid (next_any (hs.getD k 0) gl gm pv (l.getD k rd0).b (l.getD k rd0).m least (prevV l least start ds k) (aheadV ds k) (slkV l least k) wr c1 c2 c4 b0 b1 b2 l0 l1 hsk hR.hl (hR.hm.cell rfl) hpv.1 hpv.2 hav.1 hav.2 hsv.1 hsv.2)
              rw [← hx1, ← hx2] at HN
              have hns : prevV l least start ds (k + 1) = leaV l least start ds k := rfl
              have Hns := Lib.hid hns
              have Hal := Lib.hid hal
              have Hll := Lib.hid hll9
              have Hc5 := Lib.hid hc5
              have HR := Lib.hid hR
              have HB := Lib.hid hbel
              have hk8 : k ≤ 7 := by omega
              have hkn : (0 : Int) ≤ (k : Int) := Int.natCast_nonneg _
              have hkl : (k : Int) < (l.length : Int) := by omega
              have hns5 : hs.getD k 0 < w3.heap.size := (HT3.out.halts k hlt).lt
              obtain ⟨gk', rfl⟩ : ∃ g, gk = g + 1 := ⟨gk - 1, by omega⟩
              have Hkg := Lib.hid hkg
              clear c1 c2 c4 hsk hc5 b0 b1 b2 hx1 hx2 hal hll9 hpv hav hsv hns hR hbel hlt hkg
              generalize arrV l least start ds k = x at *
              generalize leaV l least start ds k = y at *
              generalize aheadV ds k = ah at *
              generalize hs.getD k 0 = hk at *
              go_wp2_with fail
              refine HN.out.mono ?_; rintro e w6 ⟨rfl, ht6, hW6⟩
              have hz6 := HB.out.size
              have hb6 : Below w3.heap.size wr w6 := ht6.below (fun j hj => by rw [hj]; have := HR.out; omega) hz6
              obtain ⟨n1, n2, n3, n4, n5⟩ := HR.out.ne
              have R6 := Lib.hid (show Rows2 w6 w3.heap.size gl gm gu gr k k cu cr _ _ y least from ⟨own_touch HR.out.hu ht6 (fun q hq e => n2 ((Option.some.inj (show some gu = some q from hq)).trans e)), own_touch HR.out.hr ht6 (fun q hq e => n4 ((Option.some.inj (show some gr = some q from hq)).trans e)), HR.out.ne, hW6, HR.out.hm.touch ht6 (fun e => by have := hW6.lt; omega)⟩)
              have hz7 := hb6.size
              have Hb6 := Lib.hid hb6
              clear ht6 hW6 hb6 HR HN n1 n2 n3 n4 n5
              go_wp2_with (first | (at_builtin; refine wpList_append_lies _ rfl _ _ 24 rfl w3.heap.size 3 i0 (.int .i64 0) 1 8 Try.underlying24 hi hz0 hz1 hz2 rfl (by decide) _ k _ rfl (World.ownsRow.alloc R6.out.hu _) ⟨w6.heap.size, 0, none⟩ 1 1 [.int .i64 x] rfl rfl (cell_one_new _ _ _) (by simp [Value.oneCell']) (by decide) (by simp only [maxLen]; omega) (by omega) (by simp; omega) _ rfl ?_; intro g2 cp2 w7 hown7 hgrow7 hlie7 hlt7; have Hb7 := Lib.hid (R6.out.belU Hb6.out (by omega) hgrow7); have R7 := Lib.hid (R6.out.appU hgrow7 hown7 hlie7).swap; have hz8 := Hb7.out.size; clear hown7 hgrow7 hlie7 hlt7) | (at_builtin; refine wpList_append_lies _ rfl _ _ 24 rfl w3.heap.size 3 i0 (.int .i64 0) 1 8 Try.underlying24 hi hz0 hz1 hz2 rfl (by decide) _ k _ rfl (World.ownsRow.alloc R7.out.hu _) ⟨w7.heap.size, 0, none⟩ 1 1 [.int .i64 y] rfl rfl (cell_one_new _ _ _) (by simp [Value.oneCell']) (by decide) (by simp only [maxLen]; omega) (by omega) (by simp; omega) _ rfl ?_; intro g3 cp3 w8 hown8 hgrow8 hlie8 hlt8; have Hb8 := Lib.hid (R7.out.belU Hb7.out (by omega) hgrow8); have R8 := Lib.hid (R7.out.appU hgrow8 hown8 hlie8).swap; have c5 := Hc5.out w8 Hb8.out; clear hown8 hgrow8 hlie8 hlt8))
              go_roundg gk'
              case measure => omega
              case rel => exact ⟨k + 1, g2, g3, cp2, cp3, by have := Hkg.out; omega, rfl, rfl, rfl, by rw [Hal.out, Hll.out, Hns.out, List.map_append, List.map_append]; exact R8.out, HB.out.trans Hb8.out⟩
            · obtain rfl : k = l.length := by omega
              have HR := Lib.hid hR
              have HF := Lib.hid (HB3.out.trans (hbel.mono HB3.out.size))
              have hpn : ptB hs[l.length]? = .pointer none := ptB_none (by rw [HTr.out.len]; exact Nat.le_refl _)
              rw [hpn]
              have hle := HB3.out.size
              clear hR hbel hlt hkg hpn
              go_wp2
              go_ret3
              have e1 : arrX n l least start ds = arrL l least start ds l.length := by unfold arrX; rw [if_pos Ho.out]
              have e2 : leaX n l least start ds = leaL l least start ds l.length := by unfold leaX; rw [if_pos Ho.out]
              refine LateOut.yes Ho.out ?_ ?_ (fun q h1 h2 => ?_) HF.out
              · rw [e1]; unfold RowI; rw [arrL_len]; exact own_mono HR.out.hu hle
              · rw [e2]; unfold RowI; rw [leaL_len]; exact own_mono HR.out.hr hle
              · exact HR.out.ne.1 ((Option.some.inj (show some gu = some q from h1)).trans (Option.some.inj (show some gr = some q from h2)).symm)
    · have hn1 : ((ds.length : Int) != (l.length : Int) - 1) = true := by simp; omega
      have Ho := Lib.hid (show okLate n l least start ds = false by rw [Hok.out, decide_eq_false hlen, Bool.and_false, Bool.and_false, Bool.and_false])
      clear Hok hlen
      go_enter Try.func47, Try.ntmps47
      go_wp2_with fail
      refine HC.out.mono ?_; rintro e w1 ⟨h1, _⟩
      obtain ⟨tb, hs, rfl, _, _, hb1⟩ := h1 Hz.out
      have HB1 := Lib.hid hb1
      clear h1 hb1 HC
      go_wp2
      go_ret3
      exact LateOut.no Ho.out HB1.out

end Go.Proofs.Ytmphpbjmpokjjab
