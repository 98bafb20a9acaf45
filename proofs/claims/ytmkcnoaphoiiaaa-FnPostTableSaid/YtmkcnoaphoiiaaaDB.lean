/- Draws: a timetable. -/
import Derived.Test.YtmkcnoaphoiiaaaDK
import Derived.Test.YtmkcnoaphoiiaaaBT
import Derived.Deep.LoopGhost
namespace Go.Proofs.Ytmkcnoaphoiiaaa
open Go.RowKit

theorem list_ofR {Q : Nat → Rd → Prop} : ∀ (n : Nat), (∀ i, i < n → ∃ x, Q i x) → ∃ l : List Rd, l.length = n ∧ ∀ i, i < n → Q i (l.getD i rd0)
  | 0, _ => ⟨[], rfl, fun i h => by cases h⟩
  | n + 1, h => by
    obtain ⟨l, hl, hq⟩ := list_ofR n (fun i hi => h i (by omega))
    obtain ⟨x, hx⟩ := h n (by omega)
    refine ⟨l ++ [x], by simp [hl], fun i hi => ?_⟩
    by_cases hin : i < n
    · rw [getR_snoc_lt l x (by omega)]; exact hq i hin
    · obtain rfl : i = n := by omega
      rw [getR_snoc_eq l x hl.symm]; exact hx

theorem IntRow.rows {w : World} {b n m : Nat} (h : IntRow w b m) (hm : n * 3 ≤ m) : ∃ xs : List Rd, xs.length = n ∧ RowAt w b 0 xs ∧ Room w b (xs.length * 3) := by
  obtain ⟨xs, hl, hq⟩ := list_ofR (Q := fun i r => w.cell? ⟨b, 0 + i * 3, none⟩ = some (.int .i64 r.a) ∧ w.cell? ⟨b, 0 + i * 3 + 1, none⟩ = some (.int .i64 r.b) ∧ w.cell? ⟨b, 0 + i * 3 + 2, none⟩ = some (.int .i64 r.m)) n (fun i hi => by
    obtain ⟨z0, h0⟩ := h.1 (0 + i * 3) (by omega)
    obtain ⟨z1, h1⟩ := h.1 (0 + i * 3 + 1) (by omega)
    obtain ⟨z2, h2⟩ := h.1 (0 + i * 3 + 2) (by omega)
    exact ⟨⟨z0, z1, z2⟩, h0, h1, h2⟩)
  refine ⟨xs, hl, fun i hi => hq i (by omega), fun j hj => ?_, h.2⟩
  obtain ⟨z, hz⟩ := h.1 j (by omega)
  exact ⟨_, hz⟩

theorem OwnS.cap {w : World} {B : Nat} {v : Value} {l : List Rd} (h : OwnS w B v l) (hl : 0 < l.length) : ∃ (b cap : Nat), v = .slice (some ⟨b, 0, none⟩) l.length cap ∧ l.length ≤ cap ∧ B ≤ b ∧ b < w.heap.size ∧ IntRow w b (l.length * 3) := by
  obtain ⟨ad, cp, hv, hrd, hblk⟩ := h.row
  obtain ⟨b, rfl, hb, hr, hroom⟩ := hrd (by rintro rfl; simp at hl)
  obtain ⟨_, h⟩ := h
  rcases h with ⟨_, h0⟩ | ⟨g, cap, cur, hv2, hB, hh, hcap, _⟩
  · omega
  · rw [hv] at hv2
    injection hv2 with h1 _ h3
    injection h1 with h1
    injection h1 with h1
    subst h1 h3
    refine ⟨b, cp, hv, hcap, hB, hb, fun j hj => ?_, hroom.2⟩
    obtain ⟨c0, c1, c2⟩ := hr (j / 3) (by omega)
    have hm : j % 3 = 0 ∨ j % 3 = 1 ∨ j % 3 = 2 := by omega
    rcases hm with h | h | h
    · exact ⟨_, by rw [show j = 0 + j / 3 * 3 by omega]; exact c0⟩
    · exact ⟨_, by rw [show j = 0 + j / 3 * 3 + 1 by omega]; exact c1⟩
    · exact ⟨_, by rw [show j = 0 + j / 3 * 3 + 2 by omega]; exact c2⟩

theorem OwnS.grown {w w' : World} {B g : Nat} {v : Value} {l : List Rd} (h : OwnS w B v l) (hg : w.grownBy w' (some g)) (hB : g < B) : OwnS w' B v l := by
  obtain ⟨h1, h2⟩ := h
  refine ⟨h1, ?_⟩
  rcases h2 with h0 | ⟨b, cap, cur, rfl, hb, hh, r⟩
  · exact .inl h0
  · exact .inr ⟨b, cap, cur, rfl, hb, (hg.block b (Array.getElem?_eq_some_iff.1 hh).1 (fun e => by injection e with e; omega)).trans hh, r⟩

theorem news1D (w0 : World) (cs : Array Value) (t : TypeId) : ∀ j u, cs.toList[j]? = some u → (w0.alloc (.cells cs t)).cell? ((⟨w0.heap.size, 0, none⟩ : Addr).add j) = some u := by
  intro j u hj
  have h := Whole.made w0 t cs
  rw [addr_add, Nat.zero_add]
  exact h.cell (by simpa using hj)

/-- What a drawn timetable is. -/
def DrawnS (g : Nat) (l : List Int) (p : Nat) (w : World) (e : Ending) (w' : World) : Prop :=
  ∃ (ad : Option Addr) (cap : Nat) (xs : List Rd) (p' : Nat), e = .returned (.slice ad xs.length cap) ∧ xs.length ≤ cap ∧ xs.length ≤ 8 ∧ OwnRd w' ad xs ∧
    (∀ j, inBlk ad j → w.heap.size ≤ j ∧ j < w'.heap.size) ∧ Reader w' g l p' ∧ p' ≤ p + 40 ∧ Touch (fun j => j = g) w w'

theorem drawn_fin {w wf : World} {g : Nat} {l : List Int} {p p' b cap i m : Nat} (hrow : IntRow wf b m) (hm : i * 3 ≤ m) (hic : i ≤ cap) (hi8 : i ≤ 8) (hB : w.heap.size ≤ b) (hbl : b < wf.heap.size) (hr : Reader wf g l p') (hp : p' ≤ p + 40) (ht : Touch (fun j => j = g) w wf) :
    DrawnS g l p w (.returned (.slice (some ⟨b, 0, none⟩) i cap)) wf := by
  obtain ⟨xs, hl, hra, hroom⟩ := hrow.rows hm
  exact ⟨some ⟨b, 0, none⟩, cap, xs, p', by rw [hl], by omega, by omega, fun _ => ⟨b, rfl, hbl, hra, hroom⟩, fun j hj => by obtain ⟨o, ho⟩ := hj; cases ho; exact ⟨hB, hbl⟩, hr, hp, ht⟩

def SRel (g : Nat) (l : List Int) (p : Nat) (n m : Int) (w : World) (tv v hv iv : Value) (wr : World) : Prop :=
  ∃ (i : Nat) (xs : List Rd) (t h : Int), (i : Int) ≤ m ∧ (i : Int) ≤ n ∧ iv = .int .i64 i ∧ xs.length = i ∧ tv = .int .i64 t ∧ 0 ≤ t ∧ t ≤ 10000 + 100 * i ∧ hv = .int .i64 h ∧ 0 ≤ h ∧ h < n ∧
    OwnS wr w.heap.size v xs ∧ Reader wr g l (p + 2 + 3 * i) ∧ Touch (fun j => j = g) w wr

set_option maxRecDepth 100000 in
set_option maxHeartbeats 3000000 in
theorem stops91_any (g : Nat) (l : List Int) (p : Nat) (n t : Int) (w : World) (h : Reader w g l p) (hp : p ≤ 1000) (n2 : 2 ≤ n) (n6 : n ≤ 6) (t0 : 0 ≤ t) (t9 : t ≤ 10000) :
    Calls Try.prog 108 #[.pointer (some ⟨g, 0, none⟩), .int .i64 n, .int .i64 t] w (DrawnS g l p w) := by
  obtain ⟨i0, hi0, hz0, hz1, hz2⟩ := info_parts stopInfo
  have hgl := h.lt
  have hb0 : Below w.heap.size w (w.alloc (.cells #[] 77)) := (Below.refl _ _).alloc (Nat.le_refl _) _
  have hr0 := h.belowB hb0 hgl
  have Hr0 := Lib.hid hr0
  have Hown0 := Lib.hid (OwnS.made w w.heap.size (Nat.le_refl _))
  have HT0 := Lib.hid (Touch.of_below (S := fun j => j = g) hb0)
  clear hr0 h hb0
  go_enter Try.func108, Try.ntmps108
  go_wp2_with fail
  refine (pick_any g l p 4 _ Hr0.out (by omega) (by omega)).mono ?_; rintro e w1 ⟨⟨x, rfl, hx0, hx1⟩, hr1, hg1⟩
  have hx4 : x < 4 := by omega
  clear hx1
  have HT1 := Lib.hid (HT0.out.trans (Touch.grown hg1 rfl))
  have Hown1 := Lib.hid (Hown0.out.grown hg1 hgl)
  have Hr1 := Lib.hid hr1
  clear hr1 hg1
  have h1n : (1 : Int) < n := by omega
  go_wp2_with fail
  refine (pick_any g l (p + 1) n _ Hr1.out (by omega) (by omega)).mono ?_; rintro e w2 ⟨⟨y, rfl, hy0, hy1⟩, hr2, hg2⟩
  have hyn : y < n := by omega
  clear hy1
  have HT2 := Lib.hid (HT1.out.trans (Touch.grown hg2 rfl))
  have Hown2 := Lib.hid (Hown1.out.grown hg2 hgl)
  have Hr2 := Lib.hid hr2
  clear hr2 hg2
  go_wp2
  go_loopw [2, 7, 9, 10] (fun tv v hv iv wr => SRel g l p n (2 + x) w tv v hv iv wr) (fun _ _ _ i _ => 10 - (intOf i).toNat)
  case atStart => exact ⟨0, [], t, y, by omega, by omega, rfl, rfl, rfl, t0, by omega, rfl, hy0, hyn, Hown2.out, Hr2.out, HT2.out⟩
  case round =>
    obtain ⟨i, xs, t, hh, him, hin, rfl, hxl, rfl, ht0, ht1, rfl, hh0, hh1, hown, hrd, htc⟩ := hrel
    have Hown := Lib.hid hown; clear hown
    have Hrd := Lib.hid hrd; clear hrd
    have Htc := Lib.hid htc; clear htc
    have Hxl := Lib.hid hxl; clear hxl
    by_cases hgo : (i : Int) < 2 + x ∧ (i : Int) < n
    · obtain ⟨hg1, hg2⟩ := hgo
      go_wp2_with fail
      refine (pick_any g l (p + 2 + 3 * i) 3 _ Hrd.out (by omega) (by omega)).mono ?_; rintro e w3 ⟨⟨a, rfl, ha0, ha1⟩, hr3, hg3⟩
      have ha3 : a < 3 := by omega
      clear ha1
      have HT3 := Lib.hid (Htc.out.trans (Touch.grown hg3 rfl))
      have Hown3 := Lib.hid (Hown.out.grown hg3 hgl)
      have Hr3 := Lib.hid hr3
      clear hr3 hg3
      go_wp2_with fail
      refine (pick_any g l (p + 2 + 3 * i + 1) 12 _ Hr3.out (by omega) (by omega)).mono ?_; rintro e w4 ⟨⟨b, rfl, hb0, hb1⟩, hr4, hg4⟩
      have hb12 : b < 12 := by omega
      clear hb1
      have hab0 : 0 ≤ a * b := Int.mul_nonneg ha0 hb0
      have hab1 : a * b ≤ 22 := by
        have h1 : a * b ≤ 2 * b := Int.mul_le_mul_of_nonneg_right (by omega) hb0
        omega
      have HT4 := Lib.hid (HT3.out.trans (Touch.grown hg4 rfl))
      have hown4 := Hown3.out.grown hg4 hgl
      have Hr4 := Lib.hid hr4
      clear hr4 hg4
      unfold OwnS at hown4
      have hxl' : xs.length ≤ 100 := by rw [Hxl.out]; omega
      have hT4s := HT4.out.size
      have hw : wrap64 (a * b) = a * b := wrap64_ok (by omega) (by omega)
      go_wp2_with (at_builtin; refine wpList_append_own _ rfl _ _ 57 rfl w.heap.size 77 i0 _ 3 24 Try.underlying57 hi0 hz0 hz1 hz2 rfl (by omega) _ _ (encR xs) rfl (hown4.alloc _) ⟨w4.heap.size, 0, none⟩ 1 1 [.int .i64 hh, .int .i64 t, .int .i64 (t + a * b)] rfl rfl (news1D w4 #[.int .i64 hh, .int .i64 t, .int .i64 (t + a * b)] 77) (by simp [Value.oneCell']) (by unfold maxLen; omega) (by omega) (by simp; omega) ?_; intro v' w5 hown5 hgrow _)
      have hB5 : Below w.heap.size w4 w5 := (((Below.refl _ _).alloc hT4s _).grown hgrow (by simp; omega) (fun j hj => (hown4.lt j hj).1))
      have Hr5 := Lib.hid (Hr4.out.belowB hB5 hgl)
      have HT5 := Lib.hid (HT4.out.belowB hB5)
      have hown6 : OwnS w5 w.heap.size v' (xs ++ [⟨hh, t, t + a * b⟩]) := OwnS.snoc hown5
      have Hown5 := Lib.hid hown6
      clear hown6 hown5 hgrow hown4 hB5
      refine (pick_any g l (p + 2 + 3 * i + 1 + 1) 40 _ Hr5.out (by omega) (by omega)).mono ?_; rintro e w6 ⟨⟨z, rfl, hz0', hz1'⟩, hr6, hg6⟩
      have hz40 : z < 40 := by omega
      clear hz1'
      have HT6 := Lib.hid (HT5.out.trans (Touch.grown hg6 rfl))
      have Hown6 := Lib.hid (Hown5.out.grown hg6 hgl)
      have Hr6 := Lib.hid hr6
      clear hr6 hg6
      have hm0 := Int.emod_nonneg (hh + 1) (show n ≠ 0 by omega)
      have hm1 := Int.emod_lt_of_pos (hh + 1) (show 0 < n by omega)
      go_wp2
      exact ⟨⟨i + 1, xs ++ [⟨hh, t, t + a * b⟩], t + a * b + 1 + z, (hh + 1) % n, by omega, by omega, by go_num, by rw [List.length_append, Hxl.out]; rfl, rfl, by omega, by omega, rfl, hm0, hm1, Hown6.out, by rw [show p + 2 + 3 * (i + 1) = p + 2 + 3 * i + 1 + 1 + 1 by omega]; exact Hr6.out, HT6.out⟩, by simp [intOf]; omega⟩
    · have hi2 : 2 ≤ i := by omega
      have hi6 : i ≤ 6 := by omega
      obtain ⟨b, cap, rfl, hcap, hB, hbl, hrow⟩ := Hown.out.cap (by rw [Hxl.out]; omega)
      rw [Hxl.out] at hcap hrow
      rw [Hxl.out]
      have hgb : g < b := by omega
      have hend : ((i : Int) < 2 + x → ¬ (i : Int) < n) := fun h1 h2 => hgo ⟨h1, h2⟩
      have Hrow := Lib.hid hrow
      clear hrow hgo
      have hcapI : (i : Int) ≤ (cap : Int) := by omega
      have hi1I : (1 : Int) < (i : Int) := by omega
      have hi0I : (0 : Int) < (i : Int) := by omega
      by_cases hA : (i : Int) < 2 + x
      · have hA' := hend hA
        clear hend
        by_cases h3 : 3 ≤ i
        · have h3I : (2 : Int) < (i : Int) := by omega
          go_wp2_with fail
          refine (pick_any g l (p + 2 + 3 * i) 2 _ Hrd.out (by omega) (by omega)).mono ?_; rintro e wa ⟨⟨d, rfl, hd0, hd1⟩, hra, hga⟩
          have HTa := Lib.hid (Htc.out.trans (Touch.grown hga rfl))
          have Hrowa := Lib.hid (Hrow.out.touch (Touch.grown (S := fun j => j = g) hga rfl) (by omega) hbl)
          have hbla : b < wa.heap.size := Nat.lt_of_lt_of_le hbl hga.size
          have Hra := Lib.hid hra
          clear hra hga hd1
          by_cases hd : d = 0
          · subst hd
            go_wp2_with fail
            refine (pick_any g l (p + 2 + 3 * i + 1) ((i : Int) - 2) _ Hra.out (by omega) (by omega)).mono ?_; rintro e wb ⟨⟨d, rfl, hd0, hd1⟩, hrb, hgb2⟩
            obtain ⟨kn, hk⟩ : ∃ kn : Nat, 1 + d = (kn : Int) := ⟨(1 + d).toNat, by omega⟩
            have hk1 : 1 ≤ kn ∧ kn < i := by omega
            have HTb := Lib.hid (HTa.out.trans (Touch.grown hgb2 rfl))
            have hrowb := Hrowa.out.touch (Touch.grown (S := fun j => j = g) hgb2 rfl) (by omega) hbla
            have hblb : b < wb.heap.size := Nat.lt_of_lt_of_le hbla hgb2.size
            have Hrb := Lib.hid hrb
            obtain ⟨z0, e0⟩ := hrowb.1 0 (by omega)
            obtain ⟨zk, ek⟩ := hrowb.1 (kn * 3) (by omega)
            have f0 := hrowb.2 0
            have fk := hrowb.2 (kn * 3)
            have Hrowb := Lib.hid hrowb
            have hkI0 : (0 : Int) ≤ (kn : Int) := by omega
            have hkI1 : (kn : Int) < (i : Int) := by omega
            have hkne : kn * 3 ≠ 0 := by omega
            clear hrb hgb2 hrowb hd1
            go_wp2_with fail
            have Hrc := Lib.hid (show Reader ((wb.setCell ⟨b, 0, none⟩ (.int .i64 zk)).setCell ⟨b, kn * 3, none⟩ (.int .i64 z0)) g l (p + 2 + 3 * i + 1 + 1) from (Hrb.out.setFar hgb _ _).setFar hgb _ _)
            have Hrowc := Lib.hid (show IntRow ((wb.setCell ⟨b, 0, none⟩ (.int .i64 zk)).setCell ⟨b, kn * 3, none⟩ (.int .i64 z0)) b (i * 3) from (Hrowb.out.set 0 zk).set (kn * 3) z0)
            have HTc := Lib.hid (show Touch (fun j => j = g) w ((wb.setCell ⟨b, 0, none⟩ (.int .i64 zk)).setCell ⟨b, kn * 3, none⟩ (.int .i64 z0)) from (HTb.out.setNew hB _ _).setNew hB _ _)
            have hblc : b < ((wb.setCell ⟨b, 0, none⟩ (.int .i64 zk)).setCell ⟨b, kn * 3, none⟩ (.int .i64 z0)).heap.size := by simpa using hblb
            clear e0 ek f0 fk hk
            generalize (wb.setCell ⟨b, 0, none⟩ (.int .i64 zk)).setCell ⟨b, kn * 3, none⟩ (.int .i64 z0) = wc at *
            refine (pick_any g l (p + 2 + 3 * i + 1 + 1) 40 _ Hrc.out (by omega) (by omega)).mono ?_; rintro e wz ⟨⟨c, rfl, hc0, hc1⟩, hrz, hgz⟩
            have HTz := Lib.hid (HTc.out.trans (Touch.grown hgz rfl))
            have hrowz := Hrowc.out.touch (Touch.grown (S := fun j => j = g) hgz rfl) (by omega) hblc
            have hblz : b < wz.heap.size := Nat.lt_of_lt_of_le hblc hgz.size
            have Hrz := Lib.hid hrz
            obtain ⟨z0, e0⟩ := hrowz.1 0 (by omega)
            obtain ⟨z1, e1⟩ := hrowz.1 1 (by omega)
            obtain ⟨z2, e2⟩ := hrowz.1 2 (by omega)
            obtain ⟨z3, e3⟩ := hrowz.1 3 (by omega)
            obtain ⟨z4, e4⟩ := hrowz.1 4 (by omega)
            have f1 := hrowz.2 1
            have f3 := hrowz.2 3
            have f4 := hrowz.2 4
            have Hrowz := Lib.hid hrowz
            clear hrz hgz hrowz hc1
            by_cases q0 : c = 0
            · subst q0
              go_wp2
              go_ret
              exact drawn_fin (Hrowz.out.set 3 _) (by omega) (by omega) (by omega) hB (by simpa using hblz) (Hrz.out.setFar hgb _ _) (by omega) (HTz.out.setNew hB _ _)
            · have q0' : (c == 0) = false := by simpa using q0
              by_cases q1 : c = 1
              · subst q1
                go_wp2
                go_ret
                exact drawn_fin (Hrowz.out.set 4 _) (by omega) (by omega) (by omega) hB (by simpa using hblz) (Hrz.out.setFar hgb _ _) (by omega) (HTz.out.setNew hB _ _)
              · have q1' : (c == 1) = false := by simpa using q1
                by_cases q2 : c = 2
                · subst q2
                  go_wp2
                  go_ret
                  exact drawn_fin (i := 1) Hrowz.out (by omega) (by omega) (by omega) hB hblz Hrz.out (by omega) HTz.out
                · have q2' : (c == 2) = false := by simpa using q2
                  by_cases q3 : c = 3
                  · subst q3
                    go_wp2
                    go_ret
                    exact drawn_fin (Hrowz.out.set 1 _) (by omega) (by omega) (by omega) hB (by simpa using hblz) (Hrz.out.setFar hgb _ _) (by omega) (HTz.out.setNew hB _ _)
                  · have q3' : (c == 3) = false := by simpa using q3
                    clear q0 q1 q2 q3
                    go_wp2
                    go_ret
                    exact drawn_fin Hrowz.out (by omega) (by omega) (by omega) hB hblz Hrz.out (by omega) HTz.out
          · have hd' : (d == 0) = false := by simpa using hd
            clear hd
            go_wp2_with fail
            refine (pick_any g l (p + 2 + 3 * i + 1) 40 _ Hra.out (by omega) (by omega)).mono ?_; rintro e wz ⟨⟨c, rfl, hc0, hc1⟩, hrz, hgz⟩
            have HTz := Lib.hid (HTa.out.trans (Touch.grown hgz rfl))
            have hrowz := Hrowa.out.touch (Touch.grown (S := fun j => j = g) hgz rfl) (by omega) hbla
            have hblz : b < wz.heap.size := Nat.lt_of_lt_of_le hbla hgz.size
            have Hrz := Lib.hid hrz
            obtain ⟨z0, e0⟩ := hrowz.1 0 (by omega)
            obtain ⟨z1, e1⟩ := hrowz.1 1 (by omega)
            obtain ⟨z2, e2⟩ := hrowz.1 2 (by omega)
            obtain ⟨z3, e3⟩ := hrowz.1 3 (by omega)
            obtain ⟨z4, e4⟩ := hrowz.1 4 (by omega)
            have f1 := hrowz.2 1
            have f3 := hrowz.2 3
            have f4 := hrowz.2 4
            have Hrowz := Lib.hid hrowz
            clear hrz hgz hrowz hc1
            by_cases q0 : c = 0
            · subst q0
              go_wp2
              go_ret
              exact drawn_fin (Hrowz.out.set 3 _) (by omega) (by omega) (by omega) hB (by simpa using hblz) (Hrz.out.setFar hgb _ _) (by omega) (HTz.out.setNew hB _ _)
            · have q0' : (c == 0) = false := by simpa using q0
              by_cases q1 : c = 1
              · subst q1
                go_wp2
                go_ret
                exact drawn_fin (Hrowz.out.set 4 _) (by omega) (by omega) (by omega) hB (by simpa using hblz) (Hrz.out.setFar hgb _ _) (by omega) (HTz.out.setNew hB _ _)
              · have q1' : (c == 1) = false := by simpa using q1
                by_cases q2 : c = 2
                · subst q2
                  go_wp2
                  go_ret
                  exact drawn_fin (i := 1) Hrowz.out (by omega) (by omega) (by omega) hB hblz Hrz.out (by omega) HTz.out
                · have q2' : (c == 2) = false := by simpa using q2
                  by_cases q3 : c = 3
                  · subst q3
                    go_wp2
                    go_ret
                    exact drawn_fin (Hrowz.out.set 1 _) (by omega) (by omega) (by omega) hB (by simpa using hblz) (Hrz.out.setFar hgb _ _) (by omega) (HTz.out.setNew hB _ _)
                  · have q3' : (c == 3) = false := by simpa using q3
                    clear q0 q1 q2 q3
                    go_wp2
                    go_ret
                    exact drawn_fin Hrowz.out (by omega) (by omega) (by omega) hB hblz Hrz.out (by omega) HTz.out
        · have h3I : ¬ (2 : Int) < (i : Int) := by omega
          go_wp2_with fail
          refine (pick_any g l (p + 2 + 3 * i) 40 _ Hrd.out (by omega) (by omega)).mono ?_; rintro e wz ⟨⟨c, rfl, hc0, hc1⟩, hrz, hgz⟩
          have HTz := Lib.hid (Htc.out.trans (Touch.grown hgz rfl))
          have hrowz := Hrow.out.touch (Touch.grown (S := fun j => j = g) hgz rfl) (by omega) hbl
          have hblz : b < wz.heap.size := Nat.lt_of_lt_of_le hbl hgz.size
          have Hrz := Lib.hid hrz
          obtain ⟨z0, e0⟩ := hrowz.1 0 (by omega)
          obtain ⟨z1, e1⟩ := hrowz.1 1 (by omega)
          obtain ⟨z2, e2⟩ := hrowz.1 2 (by omega)
          obtain ⟨z3, e3⟩ := hrowz.1 3 (by omega)
          obtain ⟨z4, e4⟩ := hrowz.1 4 (by omega)
          have f1 := hrowz.2 1
          have f3 := hrowz.2 3
          have f4 := hrowz.2 4
          have Hrowz := Lib.hid hrowz
          clear hrz hgz hrowz hc1
          by_cases q0 : c = 0
          · subst q0
            go_wp2
            go_ret
            exact drawn_fin (Hrowz.out.set 3 _) (by omega) (by omega) (by omega) hB (by simpa using hblz) (Hrz.out.setFar hgb _ _) (by omega) (HTz.out.setNew hB _ _)
          · have q0' : (c == 0) = false := by simpa using q0
            by_cases q1 : c = 1
            · subst q1
              go_wp2
              go_ret
              exact drawn_fin (Hrowz.out.set 4 _) (by omega) (by omega) (by omega) hB (by simpa using hblz) (Hrz.out.setFar hgb _ _) (by omega) (HTz.out.setNew hB _ _)
            · have q1' : (c == 1) = false := by simpa using q1
              by_cases q2 : c = 2
              · subst q2
                go_wp2
                go_ret
                exact drawn_fin (i := 1) Hrowz.out (by omega) (by omega) (by omega) hB hblz Hrz.out (by omega) HTz.out
              · have q2' : (c == 2) = false := by simpa using q2
                by_cases q3 : c = 3
                · subst q3
                  go_wp2
                  go_ret
                  exact drawn_fin (Hrowz.out.set 1 _) (by omega) (by omega) (by omega) hB (by simpa using hblz) (Hrz.out.setFar hgb _ _) (by omega) (HTz.out.setNew hB _ _)
                · have q3' : (c == 3) = false := by simpa using q3
                  clear q0 q1 q2 q3
                  go_wp2
                  go_ret
                  exact drawn_fin Hrowz.out (by omega) (by omega) (by omega) hB hblz Hrz.out (by omega) HTz.out
      · have hA' : ¬ (i : Int) < 2 + x := hA
        clear hend
        by_cases h3 : 3 ≤ i
        · have h3I : (2 : Int) < (i : Int) := by omega
          go_wp2_with fail
          refine (pick_any g l (p + 2 + 3 * i) 2 _ Hrd.out (by omega) (by omega)).mono ?_; rintro e wa ⟨⟨d, rfl, hd0, hd1⟩, hra, hga⟩
          have HTa := Lib.hid (Htc.out.trans (Touch.grown hga rfl))
          have Hrowa := Lib.hid (Hrow.out.touch (Touch.grown (S := fun j => j = g) hga rfl) (by omega) hbl)
          have hbla : b < wa.heap.size := Nat.lt_of_lt_of_le hbl hga.size
          have Hra := Lib.hid hra
          clear hra hga hd1
          by_cases hd : d = 0
          · subst hd
            go_wp2_with fail
            refine (pick_any g l (p + 2 + 3 * i + 1) ((i : Int) - 2) _ Hra.out (by omega) (by omega)).mono ?_; rintro e wb ⟨⟨d, rfl, hd0, hd1⟩, hrb, hgb2⟩
            obtain ⟨kn, hk⟩ : ∃ kn : Nat, 1 + d = (kn : Int) := ⟨(1 + d).toNat, by omega⟩
            have hk1 : 1 ≤ kn ∧ kn < i := by omega
            have HTb := Lib.hid (HTa.out.trans (Touch.grown hgb2 rfl))
            have hrowb := Hrowa.out.touch (Touch.grown (S := fun j => j = g) hgb2 rfl) (by omega) hbla
            have hblb : b < wb.heap.size := Nat.lt_of_lt_of_le hbla hgb2.size
            have Hrb := Lib.hid hrb
            obtain ⟨z0, e0⟩ := hrowb.1 0 (by omega)
            obtain ⟨zk, ek⟩ := hrowb.1 (kn * 3) (by omega)
            have f0 := hrowb.2 0
            have fk := hrowb.2 (kn * 3)
            have Hrowb := Lib.hid hrowb
            have hkI0 : (0 : Int) ≤ (kn : Int) := by omega
            have hkI1 : (kn : Int) < (i : Int) := by omega
            have hkne : kn * 3 ≠ 0 := by omega
            clear hrb hgb2 hrowb hd1
            go_wp2_with fail
            have Hrc := Lib.hid (show Reader ((wb.setCell ⟨b, 0, none⟩ (.int .i64 zk)).setCell ⟨b, kn * 3, none⟩ (.int .i64 z0)) g l (p + 2 + 3 * i + 1 + 1) from (Hrb.out.setFar hgb _ _).setFar hgb _ _)
            have Hrowc := Lib.hid (show IntRow ((wb.setCell ⟨b, 0, none⟩ (.int .i64 zk)).setCell ⟨b, kn * 3, none⟩ (.int .i64 z0)) b (i * 3) from (Hrowb.out.set 0 zk).set (kn * 3) z0)
            have HTc := Lib.hid (show Touch (fun j => j = g) w ((wb.setCell ⟨b, 0, none⟩ (.int .i64 zk)).setCell ⟨b, kn * 3, none⟩ (.int .i64 z0)) from (HTb.out.setNew hB _ _).setNew hB _ _)
            have hblc : b < ((wb.setCell ⟨b, 0, none⟩ (.int .i64 zk)).setCell ⟨b, kn * 3, none⟩ (.int .i64 z0)).heap.size := by simpa using hblb
            clear e0 ek f0 fk hk
            generalize (wb.setCell ⟨b, 0, none⟩ (.int .i64 zk)).setCell ⟨b, kn * 3, none⟩ (.int .i64 z0) = wc at *
            refine (pick_any g l (p + 2 + 3 * i + 1 + 1) 40 _ Hrc.out (by omega) (by omega)).mono ?_; rintro e wz ⟨⟨c, rfl, hc0, hc1⟩, hrz, hgz⟩
            have HTz := Lib.hid (HTc.out.trans (Touch.grown hgz rfl))
            have hrowz := Hrowc.out.touch (Touch.grown (S := fun j => j = g) hgz rfl) (by omega) hblc
            have hblz : b < wz.heap.size := Nat.lt_of_lt_of_le hblc hgz.size
            have Hrz := Lib.hid hrz
            obtain ⟨z0, e0⟩ := hrowz.1 0 (by omega)
            obtain ⟨z1, e1⟩ := hrowz.1 1 (by omega)
            obtain ⟨z2, e2⟩ := hrowz.1 2 (by omega)
            obtain ⟨z3, e3⟩ := hrowz.1 3 (by omega)
            obtain ⟨z4, e4⟩ := hrowz.1 4 (by omega)
            have f1 := hrowz.2 1
            have f3 := hrowz.2 3
            have f4 := hrowz.2 4
            have Hrowz := Lib.hid hrowz
            clear hrz hgz hrowz hc1
            by_cases q0 : c = 0
            · subst q0
              go_wp2
              go_ret
              exact drawn_fin (Hrowz.out.set 3 _) (by omega) (by omega) (by omega) hB (by simpa using hblz) (Hrz.out.setFar hgb _ _) (by omega) (HTz.out.setNew hB _ _)
            · have q0' : (c == 0) = false := by simpa using q0
              by_cases q1 : c = 1
              · subst q1
                go_wp2
                go_ret
                exact drawn_fin (Hrowz.out.set 4 _) (by omega) (by omega) (by omega) hB (by simpa using hblz) (Hrz.out.setFar hgb _ _) (by omega) (HTz.out.setNew hB _ _)
              · have q1' : (c == 1) = false := by simpa using q1
                by_cases q2 : c = 2
                · subst q2
                  go_wp2
                  go_ret
                  exact drawn_fin (i := 1) Hrowz.out (by omega) (by omega) (by omega) hB hblz Hrz.out (by omega) HTz.out
                · have q2' : (c == 2) = false := by simpa using q2
                  by_cases q3 : c = 3
                  · subst q3
                    go_wp2
                    go_ret
                    exact drawn_fin (Hrowz.out.set 1 _) (by omega) (by omega) (by omega) hB (by simpa using hblz) (Hrz.out.setFar hgb _ _) (by omega) (HTz.out.setNew hB _ _)
                  · have q3' : (c == 3) = false := by simpa using q3
                    clear q0 q1 q2 q3
                    go_wp2
                    go_ret
                    exact drawn_fin Hrowz.out (by omega) (by omega) (by omega) hB hblz Hrz.out (by omega) HTz.out
          · have hd' : (d == 0) = false := by simpa using hd
            clear hd
            go_wp2_with fail
            refine (pick_any g l (p + 2 + 3 * i + 1) 40 _ Hra.out (by omega) (by omega)).mono ?_; rintro e wz ⟨⟨c, rfl, hc0, hc1⟩, hrz, hgz⟩
            have HTz := Lib.hid (HTa.out.trans (Touch.grown hgz rfl))
            have hrowz := Hrowa.out.touch (Touch.grown (S := fun j => j = g) hgz rfl) (by omega) hbla
            have hblz : b < wz.heap.size := Nat.lt_of_lt_of_le hbla hgz.size
            have Hrz := Lib.hid hrz
            obtain ⟨z0, e0⟩ := hrowz.1 0 (by omega)
            obtain ⟨z1, e1⟩ := hrowz.1 1 (by omega)
            obtain ⟨z2, e2⟩ := hrowz.1 2 (by omega)
            obtain ⟨z3, e3⟩ := hrowz.1 3 (by omega)
            obtain ⟨z4, e4⟩ := hrowz.1 4 (by omega)
            have f1 := hrowz.2 1
            have f3 := hrowz.2 3
            have f4 := hrowz.2 4
            have Hrowz := Lib.hid hrowz
            clear hrz hgz hrowz hc1
            by_cases q0 : c = 0
            · subst q0
              go_wp2
              go_ret
              exact drawn_fin (Hrowz.out.set 3 _) (by omega) (by omega) (by omega) hB (by simpa using hblz) (Hrz.out.setFar hgb _ _) (by omega) (HTz.out.setNew hB _ _)
            · have q0' : (c == 0) = false := by simpa using q0
              by_cases q1 : c = 1
              · subst q1
                go_wp2
                go_ret
                exact drawn_fin (Hrowz.out.set 4 _) (by omega) (by omega) (by omega) hB (by simpa using hblz) (Hrz.out.setFar hgb _ _) (by omega) (HTz.out.setNew hB _ _)
              · have q1' : (c == 1) = false := by simpa using q1
                by_cases q2 : c = 2
                · subst q2
                  go_wp2
                  go_ret
                  exact drawn_fin (i := 1) Hrowz.out (by omega) (by omega) (by omega) hB hblz Hrz.out (by omega) HTz.out
                · have q2' : (c == 2) = false := by simpa using q2
                  by_cases q3 : c = 3
                  · subst q3
                    go_wp2
                    go_ret
                    exact drawn_fin (Hrowz.out.set 1 _) (by omega) (by omega) (by omega) hB (by simpa using hblz) (Hrz.out.setFar hgb _ _) (by omega) (HTz.out.setNew hB _ _)
                  · have q3' : (c == 3) = false := by simpa using q3
                    clear q0 q1 q2 q3
                    go_wp2
                    go_ret
                    exact drawn_fin Hrowz.out (by omega) (by omega) (by omega) hB hblz Hrz.out (by omega) HTz.out
        · have h3I : ¬ (2 : Int) < (i : Int) := by omega
          go_wp2_with fail
          refine (pick_any g l (p + 2 + 3 * i) 40 _ Hrd.out (by omega) (by omega)).mono ?_; rintro e wz ⟨⟨c, rfl, hc0, hc1⟩, hrz, hgz⟩
          have HTz := Lib.hid (Htc.out.trans (Touch.grown hgz rfl))
          have hrowz := Hrow.out.touch (Touch.grown (S := fun j => j = g) hgz rfl) (by omega) hbl
          have hblz : b < wz.heap.size := Nat.lt_of_lt_of_le hbl hgz.size
          have Hrz := Lib.hid hrz
          obtain ⟨z0, e0⟩ := hrowz.1 0 (by omega)
          obtain ⟨z1, e1⟩ := hrowz.1 1 (by omega)
          obtain ⟨z2, e2⟩ := hrowz.1 2 (by omega)
          obtain ⟨z3, e3⟩ := hrowz.1 3 (by omega)
          obtain ⟨z4, e4⟩ := hrowz.1 4 (by omega)
          have f1 := hrowz.2 1
          have f3 := hrowz.2 3
          have f4 := hrowz.2 4
          have Hrowz := Lib.hid hrowz
          clear hrz hgz hrowz hc1
          by_cases q0 : c = 0
          · subst q0
            go_wp2
            go_ret
            exact drawn_fin (Hrowz.out.set 3 _) (by omega) (by omega) (by omega) hB (by simpa using hblz) (Hrz.out.setFar hgb _ _) (by omega) (HTz.out.setNew hB _ _)
          · have q0' : (c == 0) = false := by simpa using q0
            by_cases q1 : c = 1
            · subst q1
              go_wp2
              go_ret
              exact drawn_fin (Hrowz.out.set 4 _) (by omega) (by omega) (by omega) hB (by simpa using hblz) (Hrz.out.setFar hgb _ _) (by omega) (HTz.out.setNew hB _ _)
            · have q1' : (c == 1) = false := by simpa using q1
              by_cases q2 : c = 2
              · subst q2
                go_wp2
                go_ret
                exact drawn_fin (i := 1) Hrowz.out (by omega) (by omega) (by omega) hB hblz Hrz.out (by omega) HTz.out
              · have q2' : (c == 2) = false := by simpa using q2
                by_cases q3 : c = 3
                · subst q3
                  go_wp2
                  go_ret
                  exact drawn_fin (Hrowz.out.set 1 _) (by omega) (by omega) (by omega) hB (by simpa using hblz) (Hrz.out.setFar hgb _ _) (by omega) (HTz.out.setNew hB _ _)
                · have q3' : (c == 3) = false := by simpa using q3
                  clear q0 q1 q2 q3
                  go_wp2
                  go_ret
                  exact drawn_fin Hrowz.out (by omega) (by omega) (by omega) hB hblz Hrz.out (by omega) HTz.out

end Go.Proofs.Ytmkcnoaphoiiaaa
