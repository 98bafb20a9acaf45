/- The program's way-bill: a parcel more. -/
import Derived.Test.YtmdcpigobfhckaaFU
namespace Go.Proofs.Ytmdcpigobfhckaa
open Go.RowKit

/-- The loads while a parcel is laid on, up to a leg. -/
def ldMid (l : List Fr) (n j e : Nat) : List Int := (List.range n).map fun (g : Nat) => if g < e then load9 l g (j + 1) else load9 l g j
theorem ldMid_at {l : List Fr} {n j e g : Nat} (h : g < n) : (ldMid l n j e)[g]? = some (if g < e then load9 l g (j + 1) else load9 l g j) := by simp [ldMid, h]
theorem ldMid_start {l : List Fr} {n j A : Nat} (ha : (l.getD j fr0).a = A) : ldMid l n j A = loadsL l n j := by
  refine List.ext_getElem? fun g => ?_
  by_cases h : g < n
  · rw [ldMid_at h]; simp only [loadsL, List.getElem?_map, List.getElem?_range h, Option.map_some]
    congr 1
    split
    · simp only [load9, onF]; rw [if_neg (by omega)]; omega
    · rfl
  · rw [List.getElem?_eq_none (by simp [ldMid]; omega), List.getElem?_eq_none (by simp [loadsL]; omega)]
theorem ldMid_end {l : List Fr} {n j B : Nat} (hb : (l.getD j fr0).b = B) : ldMid l n j B = loadsL l n (j + 1) := by
  refine List.ext_getElem? fun g => ?_
  by_cases h : g < n
  · rw [ldMid_at h]; simp only [loadsL, List.getElem?_map, List.getElem?_range h, Option.map_some]
    congr 1
    split
    · rfl
    · simp only [load9, onF]; rw [if_neg (by omega)]; omega
  · rw [List.getElem?_eq_none (by simp [ldMid]; omega), List.getElem?_eq_none (by simp [loadsL]; omega)]
theorem ldMid_step {l : List Fr} {n j e : Nat} (he : e < n) : (ldMid l n j e).set e (load9 l e (j + 1)) = ldMid l n j (e + 1) := by
  refine List.ext_getElem? fun g => ?_
  by_cases h : g < n
  · rw [List.getElem?_set, ldMid_at h, ldMid_at h]
    by_cases e1 : e = g
    · subst e1; simp [ldMid, he]
    · rw [if_neg e1]
      congr 1
      by_cases e2 : g < e
      · rw [if_pos e2, if_pos (by omega)]
      · rw [if_neg e2, if_neg (by omega)]
  · rw [List.getElem?_eq_none (by simp [ldMid]; omega), List.getElem?_eq_none (by simp [ldMid]; omega)]
def cellsL (xs : List Int) : Array Value := (xs.map (Value.int .i64)).toArray
theorem cellsL_set (xs : List Int) (i : Nat) (x : Int) : (cellsL xs).setIfInBounds i (.int .i64 x) = cellsL (xs.set i x) := by
  simp [cellsL, List.map_set]

/-- The way-bill at W while parcel j is laid on, up to leg e. -/
structure WayM (w : World) (W F1 L n : Nat) (pv : Value) (l : List Fr) (j e : Nat) : Prop where
  st : Whole w W 80 #[pv, .slice (some ⟨L, 0, none⟩) n n]
  own : OwnK w F1 pv ((List.range (j + 1)).map (pkF l))
  ld : Whole w L 3 (cellsL (ldMid l n j e))
  lo : F1 ≤ W ∧ F1 ≤ L ∧ L ≠ W
  ap : pv.ownBlock ≠ some L ∧ pv.ownBlock ≠ some W
theorem WayM.below {w w' : World} {W F1 L n : Nat} {pv : Value} {l : List Fr} {j e : Nat} (h : WayM w W F1 L n pv l j e) (hb : Below w.heap.size w w') : WayM w' W F1 L n pv l j e :=
  ⟨h.st.below hb h.st.lt, h.own.below hb, h.ld.below hb h.ld.lt, h.lo, h.ap⟩
theorem WayM.load {w : World} {W F1 L n : Nat} {pv : Value} {l : List Fr} {j e : Nat} (h : WayM w W F1 L n pv l j e) (he : e < n) : w.cell? ⟨L, e, none⟩ = some (.int .i64 (load9 l e j)) :=
  h.ld.cell (by simp [cellsL, ldMid, he])
theorem WayM.step {w : World} {W F1 L n : Nat} {pv : Value} {l : List Fr} {j e : Nat} (h : WayM w W F1 L n pv l j e) (he : e < n) : WayM (w.setCell ⟨L, e, none⟩ (.int .i64 (load9 l e (j + 1)))) W F1 L n pv l j (e + 1) := by
  refine ⟨h.st.off (by simp only; exact fun e => h.lo.2.2 e.symm) _, ?_, ?_, h.lo, h.ap⟩
  · exact h.own.touch (S := fun k => k = L) (Touch.setCell (S := fun k => k = L) (Touch.refl _ w) (a := ⟨L, e, none⟩) rfl _) (fun g hg e => h.ap.1 (by rw [hg, e]))
  · have := h.ld.set e (.int .i64 (load9 l e (j + 1)))
    rw [cellsL_set, ldMid_step he] at this
    exact this
theorem WayM.fin {w : World} {W F1 L n B : Nat} {pv : Value} {l : List Fr} {j : Nat} (h : WayM w W F1 L n pv l j B) (hb : (l.getD j fr0).b = B) : WayK w W F1 L n pv l (j + 1) :=
  ⟨h.st, h.own, by have := h.ld; rw [ldMid_end hb] at this; exact this, h.lo, h.ap⟩
/-- What grows elsewhere, then the slice stored. -/
theorem WayK.grow {w wa w1 : World} {W F1 L n k : Nat} {pv : Value} {l : List Fr} {j A gg cap2 : Nat} (h : WayK w W F1 L n pv l j) (ha : (l.getD j fr0).a = A) (hg : wa.grownBy w1 pv.ownBlock) (hs : wa.heap.size = w.heap.size + k) (hk : ∀ i, i < w.heap.size → wa.heap[i]? = w.heap[i]?)
    (hown : w1.ownsRow F1 93 4 (.slice (some ⟨gg, 0, none⟩) (j + 1) cap2) (j + 1) (encK ((List.range j).map (pkF l)) ++ [.int .i64 (pkF l j).a, .int .i64 (pkF l j).b, .int .i64 (pkF l j).i, .int .i64 (pkF l j).m])) (hat : pv.ownBlock = some gg ∨ w.heap.size ≤ gg) :
    WayM (w1.setCell ⟨W, 0, none⟩ (.slice (some ⟨gg, 0, none⟩) (j + 1) cap2)) W F1 L n (.slice (some ⟨gg, 0, none⟩) (j + 1) cap2) l j A := by
  have h1 := push_whole hg hs hk h.st h.ap.2
  have h2 := push_whole hg hs hk h.ld h.ap.1
  have hW := h.st.lt
  have hL := h.ld.lt
  have hgW : gg ≠ W := by
    rcases hat with e | e
    · rintro rfl; exact h.ap.2 e
    · omega
  have hgL : gg ≠ L := by
    rcases hat with e | e
    · rintro rfl; exact h.ap.1 e
    · omega
  have e1 : (List.range (j + 1)).map (pkF l) = (List.range j).map (pkF l) ++ [pkF l j] := by rw [List.range_succ, List.map_append]; rfl
  have e2 : ((List.range (j + 1)).map (pkF l)).length = j + 1 := by simp
  refine ⟨h1.set 0 _, ?_, ?_, h.lo, ⟨fun e => hgL (by injection e), fun e => hgW (by injection e)⟩⟩
  · have : OwnK w1 F1 (.slice (some ⟨gg, 0, none⟩) (j + 1) cap2) ((List.range (j + 1)).map (pkF l)) := by
      unfold OwnK; rw [e2, e1, encK_snoc]; exact hown
    exact this.touch (S := fun k => k = W) (Touch.setCell (S := fun k => k = W) (Touch.refl _ w1) (a := ⟨W, 0, none⟩) rfl _) (fun g hg e => by injection hg with hg; exact hgW (hg.trans e))
  · have e3 : ((loadsL l n j).map (Value.int .i64)).toArray = cellsL (ldMid l n j A) := by rw [ldMid_start ha]; rfl
    rw [e3] at h2
    exact h2.off (by simp only; exact h.lo.2.2) _

def AddRel (W F1 L n : Nat) (pv : Value) (l : List Fr) (j P A B : Nat) (cs : Array Value) (w : World) (v : Value) (wr : World) : Prop :=
  ∃ E : Nat, v = .int .i64 E ∧ A ≤ E ∧ E ≤ B ∧ WayM wr W F1 L n pv l j E ∧ Whole wr P 93 cs ∧ Below F1 w wr

def AddOut (W F1 L n : Nat) (l : List Fr) (j : Nat) (ok : Bool) (w : World) (e : Ending) (w' : World) : Prop :=
  e = .returned (.bool ok) ∧ (ok = true → ∃ pv', WayK w' W F1 L n pv' l (j + 1)) ∧ Below F1 w w'

theorem step_no1 {n : Int} {l : List Fr} {j : Nat} (h : fitF n (l.getD j fr0).a (l.getD j fr0).b = false) : stepF n l j = false := by simp only [stepF, okF]; rw [h]; rfl
theorem step_no2 {n : Int} {l : List Fr} {j : Nat} (h : ¬ (1 ≤ (l.getD j fr0).m ∧ (l.getD j fr0).m ≤ 99 ∧ (l.getD j fr0).m ≤ roomF l j (l.getD j fr0).a (l.getD j fr0).b)) : stepF n l j = false := by
  rw [Bool.eq_false_iff]; intro h'
  simp only [stepF, okF, Bool.and_eq_true, decide_eq_true_eq] at h'
  exact h ⟨h'.1.2.1, h'.1.2.2, h'.2⟩
theorem step_yes {n : Int} {l : List Fr} {j : Nat} (h : fitF n (l.getD j fr0).a (l.getD j fr0).b = true) (h2 : 1 ≤ (l.getD j fr0).m ∧ (l.getD j fr0).m ≤ 99 ∧ (l.getD j fr0).m ≤ roomF l j (l.getD j fr0).a (l.getD j fr0).b) : stepF n l j = true := by
  simp only [stepF, okF, Bool.and_eq_true, decide_eq_true_eq]
  exact ⟨⟨h, h2.1, h2.2.1⟩, h2.2.2⟩

set_option maxRecDepth 100000 in
set_option maxHeartbeats 4000000 in
theorem add9_any (W F1 L n : Nat) (pv : Value) (l : List Fr) (j : Nat) (xa xb xm : Int) (w : World) (h : WayK w W F1 L n pv l j) (hr : l.getD j fr0 = ⟨xa, xb, xm⟩) (hn : n ≤ 7) (hj : j < 12) (ho : okFs n l j = true) (hF : F1 ≤ w.heap.size) :
    Calls Try.prog 97 #[.pointer (some ⟨W, 0, none⟩), .agg #[.int .i64 xa, .int .i64 xb, .int .i64 j, .int .i64 xm]] w (AddOut W F1 L n l j (stepF n l j) w) := by
  have hb0 : Below w.heap.size w (w.alloc (.cells #[.int .i64 xa, .int .i64 xb, .int .i64 j, .int .i64 xm] 93)) := (Below.refl _ _).alloc (Nat.le_refl _) _
  have H2 := Lib.hid (h.below hb0)
  have Hb0 := Lib.hid hb0
  have HP := Lib.hid (Whole.made w 93 #[.int .i64 xa, .int .i64 xb, .int .i64 j, .int .i64 xm])
  have hsz0 : (w.alloc (.cells #[.int .i64 xa, .int .i64 xb, .int .i64 j, .int .i64 xm] 93)).heap.size = w.heap.size + 1 := by simp
  have hno1 := step_no1 (n := n) (l := l) (j := j)
  have hno2 := step_no2 (n := n) (l := l) (j := j)
  have hyes := step_yes (n := n) (l := l) (j := j)
  rw [hr] at hno1 hno2 hyes
  have Hno1 := Lib.hid hno1
  have Hno2 := Lib.hid hno2
  have Hyes := Lib.hid hyes
  have Hr := Lib.hid hr
  have Hpv := Lib.hid (show ∀ g, pv.ownBlock = some g → F1 ≤ g ∧ g < w.heap.size from fun g hg => h.own.blk hg)
  have hWl := h.st.lt
  have hLl := h.ld.lt
  clear h hb0 hno1 hno2 hyes hr
  have d0 := HP.out.cell (i := 0) rfl
  have d1 := HP.out.cell (i := 1) rfl
  have d2 := HP.out.cell (i := 2) rfl
  have d3 := HP.out.cell (i := 3) rfl
  go_enter Try.func97, Try.ntmps97
  go_wp2_with fail
  refine (room_any W F1 L n pv l j xa xb _ H2.out hn (by omega) ho).mono ?_; rintro e w1 ⟨rfl, hb1⟩
  have H3 := Lib.hid (H2.out.below hb1)
  have HP1 := Lib.hid (HP.out.below hb1 HP.out.lt)
  have Hb1 := Lib.hid (Hb0.out.trans (hb1.mono (by omega)))
  have hsz1 := hb1.size
  clear hb1 H2 HP Hb0 d0 d1 d2 d3
  have d0 := HP1.out.cell (i := 0) rfl
  have d1 := HP1.out.cell (i := 1) rfl
  have d2 := HP1.out.cell (i := 2) rfl
  have d3 := HP1.out.cell (i := 3) rfl
  cases hf : fitF n xa xb with
  | false =>
    have HF := Lib.hid (show AddOut W F1 L n l j (stepF n l j) w (.returned (.bool false)) w1 by rw [Hno1.out hf]; exact ⟨rfl, (fun h => by cases h), Hb1.out.mono hF⟩)
    clear hf
    go_wp2
    go_ret
    exact HF.out
  | true =>
    obtain ⟨hf0, hf1, hf2⟩ := fitF_iff.1 hf
    obtain ⟨x, hx⟩ : ∃ x, roomF l j xa xb = x := ⟨_, rfl⟩
    have hxb : x ≤ 300 := by rw [← hx]; unfold roomF; have := mxF_nn (l := l) (j := j) (a := xa) (k := (xb - xa).toNat); omega
    have hxl : -2000 ≤ x := by rw [← hx]; unfold roomF; have := mxF_bd (l := l) (j := j) (a := xa) (k := (xb - xa).toNat) ho; omega
    rw [hx] at Hno2 Hyes ⊢
    have HFno := Lib.hid (show ¬ (1 ≤ xm ∧ xm ≤ 99 ∧ xm ≤ x) → AddOut W F1 L n l j (stepF n l j) w (.returned (.bool false)) w1 from fun hh => by rw [Hno2.out hh]; exact ⟨rfl, (fun h => by cases h), Hb1.out.mono hF⟩)
    by_cases q1 : xm < 1
    · have HF := Lib.hid (HFno.out (by omega))
      go_wp2
      go_ret
      exact HF.out
    · have hd1 : decide (xm < 1) = false := by simpa using q1
      have hq1 : 1 ≤ xm := by omega
      by_cases q2 : min x 99 < xm
      · have HF := Lib.hid (HFno.out (by omega))
        by_cases q0 : 99 < x
        · have q3 : (99 : Int) < xm := by omega
          go_wp2
          go_ret
          exact HF.out
        · have q3 : x < xm := by omega
          have hd0 : decide (99 < x) = false := by simpa using q0
          go_wp2
          go_ret
          exact HF.out
      · have HY := Lib.hid (Hyes.out hf (by omega))
        have hm99 : xm ≤ 99 := by omega
        have hmx : xm ≤ x := by omega
        have hbel := Hb1.out
        have hx0 := H3.out.st.cell (i := 0) rfl
        have hxf := H3.out.st.free 0
        have hown := H3.out.own
        unfold OwnK at hown
        rw [List.length_map, List.length_range] at hown
        have hpl := HP1.out.lt
        have hWl1 := H3.out.st.lt
        obtain ⟨i0, hi0, hz0, hz1, hz2⟩ := info_parts infoK
        clear Hno1 Hno2 Hyes HFno hx q2 hd1 q1 hf
        obtain ⟨A, rfl⟩ : ∃ A : Nat, xa = A := ⟨xa.toNat, by omega⟩
        obtain ⟨B, rfl⟩ : ∃ B : Nat, xb = B := ⟨xb.toNat, by omega⟩
        have HPk := Lib.hid (show pkF l j = ⟨A, B, j, xm⟩ by unfold pkF; rw [Hr.out])
        have HPP := Lib.hid HP1.out
        have Hld := Lib.hid (fun (e : Nat) => (load9_nn (g := (e : Int)) ho))
        have hblk := Lib.hid (fun (k : Nat) (hk : pv.ownBlock = some k) => (Hpv.out k hk))
        by_cases q0 : 99 < x
        · have hd3 : ¬ (99 : Int) < xm := by omega
          go_wp2_with fail
          go_region_law (first | (refine step_append_lies _ (by rfl) _ _ _ (by rfl) F1 93 i0 _ 4 32 Try.underlying78 hi0 hz0 hz1 hz2 rfl (by omega) pv j (encK ((List.range j).map (pkF l))) (by rfl) (by first | exact (hown.drew).alloc _ | exact (hown.alloc _).drew) ⟨w1.heap.size, 0, none⟩ 1 1 [.int .i64 A, .int .i64 B, .int .i64 j, .int .i64 xm] (by rfl) (by rfl) (by first | exact news1 w1.drew #[.int .i64 A, .int .i64 B, .int .i64 j, .int .i64 xm] 93 | exact news1 w1 #[.int .i64 A, .int .i64 B, .int .i64 j, .int .i64 xm] 93) (by simp [Value.oneCell']) (by omega) (by unfold maxLen; omega) (by omega) (by simp; omega) (w1.heap.size + 1) (by simp) ?_; intro gg cap2 w4 hown4 hgrow hat hlt4; have hw4 := push_whole (w := w1) (k := 1) hgrow (by simp) (fun i hi => Below.heap_alloc w1 _ i hi) H3.out.st H3.out.ap.2; have hc4 := hw4.cell (i := 0) rfl; have hf4 := hw4.free 0))
          all_goals
            have hmid := H3.out.grow (A := A) (by rw [Hr.out]) hgrow (show _ = w1.heap.size + 1 by simp) (fun i hi => Below.heap_alloc w1 _ i hi) (by rw [HPk.out]; exact hown4) (by rcases hat with h | h; exact .inl h; exact .inr (by omega))
            have hpw4 := push_whole (w := w1) (k := 1) hgrow (by simp) (fun i hi => Below.heap_alloc w1 _ i hi) HPP.out (fun h => by have := (hblk.out _ h).2; omega)
            have hpw5 := hpw4.off (p := ⟨W, 0, none⟩) (by simp only; omega) (.slice (some ⟨gg, 0, none⟩) (j + 1) cap2)
            have htt := push_touch (w := w1) (X := W) (k := 1) hgrow (by simp) ⟨rfl, rfl, rfl, fun i hi => Below.heap_alloc w1 _ i hi⟩ H3.out.st (i := 0) (u := .slice (some ⟨gg, 0, none⟩) (j + 1) cap2)
            have hbb : Below F1 w (w4.setCell ⟨W, 0, none⟩ (.slice (some ⟨gg, 0, none⟩) (j + 1) cap2)) := (Hb1.out.mono hF).trans (htt.below (fun k hk => by
              rcases hk with h | h
              · have := H3.out.lo.1; omega
              · exact (hblk.out k h).1) (by omega))
            have Hmid := Lib.hid hmid
            have Hpw5 := Lib.hid hpw5
            have Hbb := Lib.hid hbb
            clear hmid hpw4 hpw5 htt hbb hw4 hc4 hf4 hown4 hgrow hat hlt4 hown hx0 hxf d0 d1 d2 d3 hbel
            generalize w4.setCell ⟨W, 0, none⟩ (.slice (some ⟨gg, 0, none⟩) (j + 1) cap2) = w5 at *
            have d0 := Hpw5.out.cell (i := 0) rfl
            generalize hpv2 : Value.slice (some ⟨gg, 0, none⟩) (j + 1) cap2 = pv2 at *
            clear hpv2
            go_wp2
            go_loopw [7] (fun v wr => AddRel W F1 L n pv2 l j w.heap.size A B #[.int .i64 A, .int .i64 B, .int .i64 j, .int .i64 xm] w v wr) (fun v _ => B - (intOf v).toNat)
            case atStart => exact ⟨A, rfl, Nat.le_refl _, by omega, Hmid.out, Hpw5.out, Hbb.out⟩
            case round =>
              clear Hmid Hpw5 Hbb d0
              obtain ⟨E, rfl, hAE, hEB, hm, hp, hb⟩ := hrel
              have d1 := hp.cell (i := 1) rfl
              have d3 := hp.cell (i := 3) rfl
              have hplt := hp.lt
              have Hm := Lib.hid hm
              have Hp := Lib.hid hp
              have Hb := Lib.hid hb
              clear hm hp hb
              by_cases hlt : E < B
              · have hEn : E < n := by omega
                have x1 := Hm.out.st.cell (i := 1) rfl
                have y0 := Hm.out.load hEn
                have yf := Hm.out.ld.free E
                have hst := Hm.out.step hEn
                have hpk := Hp.out.off (p := ⟨L, E, none⟩) (by simp only; omega) (.int .i64 (load9 l E (j + 1)))
                have hbk := Hb.out.trans (show Below F1 wr (wr.setCell ⟨L, E, none⟩ (.int .i64 (load9 l E (j + 1)))) from (Touch.setCell (S := fun k => k = L) (Touch.refl _ wr) (a := ⟨L, E, none⟩) rfl _).below (fun k hk => by have := Hm.out.lo.2.1; omega) (by have := Hm.out.ld.lt; have := Hm.out.lo.2.1; omega))
                obtain ⟨b0, b1⟩ := Hld.out E
                have hs : load9 l E (j + 1) = load9 l E j + xm := by
                  simp only [load9, onF]; rw [Hr.out]; simp only; rw [if_pos (by omega)]
                rw [hs] at hst hpk hbk
                generalize load9 l (E : Int) j = y at *
                have Hst := Lib.hid hst
                have Hpk := Lib.hid hpk
                have Hbk := Lib.hid hbk
                have hE0 : (0 : Int) ≤ (E : Int) := Int.natCast_nonneg _
                have hEi : (E : Int) < (n : Int) := by omega
                have hltI : (E : Int) < (B : Int) := by omega
                clear hst hpk hbk hs
                have hwy : IntKind.i64.wrap (y + xm) = y + xm := IntWalk.i64_in _ (by omega)
                go_wp2
                go_region
                all_goals
                  go_wp2
                  exact ⟨⟨E + 1, by go_num, by omega, by omega, Hst.out.below (Below.refl _ _).drew, Hpk.out, Hbk.out.drew⟩, by simp [intOf]; omega⟩
              · obtain rfl : E = B := by omega
                have HF := Lib.hid (show AddOut W F1 L n l j (stepF n l j) w (.returned (.bool true)) wr by rw [HY.out]; exact ⟨rfl, fun _ => ⟨_, Hm.out.fin (by rw [Hr.out])⟩, Hb.out⟩)
                go_wp2
                go_ret
                exact HF.out
        · have hd3 : ¬ x < xm := by omega
          go_wp2_with fail
          go_region_law (first | (refine step_append_lies _ (by rfl) _ _ _ (by rfl) F1 93 i0 _ 4 32 Try.underlying78 hi0 hz0 hz1 hz2 rfl (by omega) pv j (encK ((List.range j).map (pkF l))) (by rfl) (by first | exact (hown.drew).alloc _ | exact (hown.alloc _).drew) ⟨w1.heap.size, 0, none⟩ 1 1 [.int .i64 A, .int .i64 B, .int .i64 j, .int .i64 xm] (by rfl) (by rfl) (by first | exact news1 w1.drew #[.int .i64 A, .int .i64 B, .int .i64 j, .int .i64 xm] 93 | exact news1 w1 #[.int .i64 A, .int .i64 B, .int .i64 j, .int .i64 xm] 93) (by simp [Value.oneCell']) (by omega) (by unfold maxLen; omega) (by omega) (by simp; omega) (w1.heap.size + 1) (by simp) ?_; intro gg cap2 w4 hown4 hgrow hat hlt4; have hw4 := push_whole (w := w1) (k := 1) hgrow (by simp) (fun i hi => Below.heap_alloc w1 _ i hi) H3.out.st H3.out.ap.2; have hc4 := hw4.cell (i := 0) rfl; have hf4 := hw4.free 0))
          all_goals
            have hmid := H3.out.grow (A := A) (by rw [Hr.out]) hgrow (show _ = w1.heap.size + 1 by simp) (fun i hi => Below.heap_alloc w1 _ i hi) (by rw [HPk.out]; exact hown4) (by rcases hat with h | h; exact .inl h; exact .inr (by omega))
            have hpw4 := push_whole (w := w1) (k := 1) hgrow (by simp) (fun i hi => Below.heap_alloc w1 _ i hi) HPP.out (fun h => by have := (hblk.out _ h).2; omega)
            have hpw5 := hpw4.off (p := ⟨W, 0, none⟩) (by simp only; omega) (.slice (some ⟨gg, 0, none⟩) (j + 1) cap2)
            have htt := push_touch (w := w1) (X := W) (k := 1) hgrow (by simp) ⟨rfl, rfl, rfl, fun i hi => Below.heap_alloc w1 _ i hi⟩ H3.out.st (i := 0) (u := .slice (some ⟨gg, 0, none⟩) (j + 1) cap2)
            have hbb : Below F1 w (w4.setCell ⟨W, 0, none⟩ (.slice (some ⟨gg, 0, none⟩) (j + 1) cap2)) := (Hb1.out.mono hF).trans (htt.below (fun k hk => by
              rcases hk with h | h
              · have := H3.out.lo.1; omega
              · exact (hblk.out k h).1) (by omega))
            have Hmid := Lib.hid hmid
            have Hpw5 := Lib.hid hpw5
            have Hbb := Lib.hid hbb
            clear hmid hpw4 hpw5 htt hbb hw4 hc4 hf4 hown4 hgrow hat hlt4 hown hx0 hxf d0 d1 d2 d3 hbel
            generalize w4.setCell ⟨W, 0, none⟩ (.slice (some ⟨gg, 0, none⟩) (j + 1) cap2) = w5 at *
            have d0 := Hpw5.out.cell (i := 0) rfl
            generalize hpv2 : Value.slice (some ⟨gg, 0, none⟩) (j + 1) cap2 = pv2 at *
            clear hpv2
            go_wp2
            go_loopw [7] (fun v wr => AddRel W F1 L n pv2 l j w.heap.size A B #[.int .i64 A, .int .i64 B, .int .i64 j, .int .i64 xm] w v wr) (fun v _ => B - (intOf v).toNat)
            case atStart => exact ⟨A, rfl, Nat.le_refl _, by omega, Hmid.out, Hpw5.out, Hbb.out⟩
            case round =>
              clear Hmid Hpw5 Hbb d0
              obtain ⟨E, rfl, hAE, hEB, hm, hp, hb⟩ := hrel
              have d1 := hp.cell (i := 1) rfl
              have d3 := hp.cell (i := 3) rfl
              have hplt := hp.lt
              have Hm := Lib.hid hm
              have Hp := Lib.hid hp
              have Hb := Lib.hid hb
              clear hm hp hb
              by_cases hlt : E < B
              · have hEn : E < n := by omega
                have x1 := Hm.out.st.cell (i := 1) rfl
                have y0 := Hm.out.load hEn
                have yf := Hm.out.ld.free E
                have hst := Hm.out.step hEn
                have hpk := Hp.out.off (p := ⟨L, E, none⟩) (by simp only; omega) (.int .i64 (load9 l E (j + 1)))
                have hbk := Hb.out.trans (show Below F1 wr (wr.setCell ⟨L, E, none⟩ (.int .i64 (load9 l E (j + 1)))) from (Touch.setCell (S := fun k => k = L) (Touch.refl _ wr) (a := ⟨L, E, none⟩) rfl _).below (fun k hk => by have := Hm.out.lo.2.1; omega) (by have := Hm.out.ld.lt; have := Hm.out.lo.2.1; omega))
                obtain ⟨b0, b1⟩ := Hld.out E
                have hs : load9 l E (j + 1) = load9 l E j + xm := by
                  simp only [load9, onF]; rw [Hr.out]; simp only; rw [if_pos (by omega)]
                rw [hs] at hst hpk hbk
                generalize load9 l (E : Int) j = y at *
                have Hst := Lib.hid hst
                have Hpk := Lib.hid hpk
                have Hbk := Lib.hid hbk
                have hE0 : (0 : Int) ≤ (E : Int) := Int.natCast_nonneg _
                have hEi : (E : Int) < (n : Int) := by omega
                have hltI : (E : Int) < (B : Int) := by omega
                clear hst hpk hbk hs
                have hwy : IntKind.i64.wrap (y + xm) = y + xm := IntWalk.i64_in _ (by omega)
                go_wp2
                go_region
                all_goals
                  go_wp2
                  exact ⟨⟨E + 1, by go_num, by omega, by omega, Hst.out.below (Below.refl _ _).drew, Hpk.out, Hbk.out.drew⟩, by simp [intOf]; omega⟩
              · obtain rfl : E = B := by omega
                have HF := Lib.hid (show AddOut W F1 L n l j (stepF n l j) w (.returned (.bool true)) wr by rw [HY.out]; exact ⟨rfl, fun _ => ⟨_, Hm.out.fin (by rw [Hr.out])⟩, Hb.out⟩)
                go_wp2
                go_ret
                exact HF.out

end Go.Proofs.Ytmdcpigobfhckaa
