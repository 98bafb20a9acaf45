/- Draws: parcels (l92Bookings). -/
import Derived.Test.YtmdcpigobfhckaaDK
import Derived.Test.YtmdcpigobfhckaaFBS
namespace Go.Proofs.Ytmdcpigobfhckaa
open Go.RowKit

theorem RowFr.inB {w : World} {B : Nat} {a : Option Addr} {cap : Nat} {l : List Fr} (h : RowFr w B (.slice a l.length cap) l) (hc : l.length ≤ cap) : FrIn w (.slice a l.length cap) l := by
  obtain ⟨ad', cap', he, _, ho, _⟩ := h.row
  cases he
  exact ho.ins hc
theorem RowFr.grown {w w' : World} {B g : Nat} {v : Value} {l : List Fr} (h : RowFr w B v l) (hg : w.grownBy w' (some g)) (hB : g < B) : RowFr w' B v l := by
  obtain ⟨h1, h2⟩ := h
  refine ⟨h1, ?_⟩
  rcases h2 with h0 | ⟨b, cap, cur, rfl, hb, hh, r⟩
  · exact .inl h0
  · exact .inr ⟨b, cap, cur, rfl, hb, (hg.block b (Array.getElem?_eq_some_iff.1 hh).1 (fun e => by injection e with e; omega)).trans hh, r⟩
theorem RowFr.first {w : World} {B : Nat} {a : Option Addr} {cap : Nat} {l : List Fr} (h : RowFr w B (.slice a l.length cap) l) (h0 : 0 < l.length) : ∃ b, a = some ⟨b, 0, none⟩ ∧ B ≤ b ∧ b < w.heap.size ∧ FrAt w b 0 l ∧ Room w b (l.length * 3) := by
  obtain ⟨ad', cap', he, _, ho, hblk⟩ := h.row
  cases he
  obtain ⟨b, rfl, hb, hat, hr⟩ := ho (by rintro rfl; simp at h0)
  exact ⟨b, rfl, (hblk b ⟨0, rfl⟩).1, hb, hat, hr⟩
theorem far_cellB {w : World} {b i j : Nat} (v : Value) (h : i ≠ j) : (w.setCell ⟨b, i, none⟩ v).cell? ⟨b, j, none⟩ = w.cell? ⟨b, j, none⟩ :=
  World.cell?_setCell_other _ _ _ _ (by intro e; injection e with _ e; exact h e)
theorem FrAt.putA {w : World} {b : Nat} {l : List Fr} (h : FrAt w b 0 l) (h0 : 0 < l.length) (z : Int) : FrAt (w.setCell ⟨b, 0, none⟩ (.int .i64 z)) b 0 (l.set 0 ⟨z, (l.getD 0 fr0).b, (l.getD 0 fr0).m⟩) := by
  intro i hi
  simp only [List.length_set] at hi
  obtain ⟨c0, c1, c2⟩ := h i hi
  by_cases e : i = 0
  · subst e
    have e1 : (l.set 0 ⟨z, (l.getD 0 fr0).b, (l.getD 0 fr0).m⟩).getD 0 fr0 = ⟨z, (l.getD 0 fr0).b, (l.getD 0 fr0).m⟩ := by simp [List.getD, hi]
    rw [e1]
    simp only [Nat.zero_mul, Nat.zero_add, Nat.add_zero] at c0 c1 c2 ⊢
    exact ⟨World.cell?_setCell_same _ _ _ c0, by rw [far_cellB _ (by omega)]; exact c1, by rw [far_cellB _ (by omega)]; exact c2⟩
  · have e1 : (l.set 0 ⟨z, (l.getD 0 fr0).b, (l.getD 0 fr0).m⟩).getD i fr0 = l.getD i fr0 := by simp [List.getD, List.getElem?_set, show ¬ 0 = i by omega]
    rw [e1]
    exact ⟨by rw [far_cellB _ (by omega)]; exact c0, by rw [far_cellB _ (by omega)]; exact c1, by rw [far_cellB _ (by omega)]; exact c2⟩
theorem FrAt.putB {w : World} {b : Nat} {l : List Fr} (h : FrAt w b 0 l) (h0 : 0 < l.length) (z : Int) : FrAt (w.setCell ⟨b, 1, none⟩ (.int .i64 z)) b 0 (l.set 0 ⟨(l.getD 0 fr0).a, z, (l.getD 0 fr0).m⟩) := by
  intro i hi
  simp only [List.length_set] at hi
  obtain ⟨c0, c1, c2⟩ := h i hi
  by_cases e : i = 0
  · subst e
    have e1 : (l.set 0 ⟨(l.getD 0 fr0).a, z, (l.getD 0 fr0).m⟩).getD 0 fr0 = ⟨(l.getD 0 fr0).a, z, (l.getD 0 fr0).m⟩ := by simp [List.getD, hi]
    rw [e1]
    simp only [Nat.zero_mul, Nat.zero_add, Nat.add_zero] at c0 c1 c2 ⊢
    exact ⟨by rw [far_cellB _ (by omega)]; exact c0, World.cell?_setCell_same _ _ _ c1, by rw [far_cellB _ (by omega)]; exact c2⟩
  · have e1 : (l.set 0 ⟨(l.getD 0 fr0).a, z, (l.getD 0 fr0).m⟩).getD i fr0 = l.getD i fr0 := by simp [List.getD, List.getElem?_set, show ¬ 0 = i by omega]
    rw [e1]
    exact ⟨by rw [far_cellB _ (by omega)]; exact c0, by rw [far_cellB _ (by omega)]; exact c1, by rw [far_cellB _ (by omega)]; exact c2⟩
theorem FrAt.putC {w : World} {b : Nat} {l : List Fr} (h : FrAt w b 0 l) (h0 : 0 < l.length) (z : Int) : FrAt (w.setCell ⟨b, 2, none⟩ (.int .i64 z)) b 0 (l.set 0 ⟨(l.getD 0 fr0).a, (l.getD 0 fr0).b, z⟩) := by
  intro i hi
  simp only [List.length_set] at hi
  obtain ⟨c0, c1, c2⟩ := h i hi
  by_cases e : i = 0
  · subst e
    have e1 : (l.set 0 ⟨(l.getD 0 fr0).a, (l.getD 0 fr0).b, z⟩).getD 0 fr0 = ⟨(l.getD 0 fr0).a, (l.getD 0 fr0).b, z⟩ := by simp [List.getD, hi]
    rw [e1]
    simp only [Nat.zero_mul, Nat.zero_add, Nat.add_zero] at c0 c1 c2 ⊢
    exact ⟨by rw [far_cellB _ (by omega)]; exact c0, by rw [far_cellB _ (by omega)]; exact c1, World.cell?_setCell_same _ _ _ c2⟩
  · have e1 : (l.set 0 ⟨(l.getD 0 fr0).a, (l.getD 0 fr0).b, z⟩).getD i fr0 = l.getD i fr0 := by simp [List.getD, List.getElem?_set, show ¬ 0 = i by omega]
    rw [e1]
    exact ⟨by rw [far_cellB _ (by omega)]; exact c0, by rw [far_cellB _ (by omega)]; exact c1, by rw [far_cellB _ (by omega)]; exact c2⟩
theorem bookL_len (n : Int) (l : List Fr) (r : Fr) : (bookL n l r).length ≤ l.length + 1 := by
  unfold bookL; split <;> simp
theorem FrRow.any {xs : List Fr} {ok : Bool} {w : World} {e : Ending} {w' : World} (h : FrRow xs ok w e w') : ∃ ad cap, e = .returned (.tuple #[.slice ad xs.length cap, .bool ok]) ∧ xs.length ≤ cap ∧ RowFr w' w.heap.size (.slice ad xs.length cap) xs ∧ Below w.heap.size w w' := by
  obtain ⟨v, rfl, hr, hb⟩ := h
  obtain ⟨ad, cap, rfl, hc, _, _⟩ := hr.row
  exact ⟨ad, cap, rfl, hc, hr, hb⟩

def litB (x y : Int) (k : Nat) : Int := if k = 0 then x else y
theorem litB_at (w : World) (x y : Int) (k : Nat) (h : k < 2) : (w.alloc (.cells #[.int .i64 x, .int .i64 y] 3)).cell? ⟨w.heap.size, k, none⟩ = some (.int .i64 (litB x y k)) := by
  rcases (show k = 0 ∨ k = 1 by omega) with rfl | rfl <;> simp [litB]

/-- What drawn parcels are. -/
def DrawnFr (g : Nat) (l : List Int) (p : Nat) (w : World) (e : Ending) (w' : World) : Prop :=
  ∃ (n : Int) (ad : Option Addr) (cap : Nat) (xs : List Fr) (p' : Nat), e = .returned (.tuple #[.int .i64 n, .slice ad xs.length cap]) ∧ 1 ≤ n ∧ n ≤ 6 ∧ xs.length ≤ cap ∧ xs.length ≤ 12 ∧ OwnFr w' ad xs ∧
    (∀ j, inBlk ad j → w.heap.size ≤ j ∧ j < w'.heap.size) ∧ Reader w' g l p' ∧ p' ≤ p + 100 ∧ Touch (fun j => j = g) w w' ∧ ad ≠ none

def DbRel (g : Nat) (l : List Int) (p : Nat) (k : Int) (w : World) (v iv : Value) (wr : World) : Prop :=
  ∃ (i : Nat) (ad : Addr) (cap : Nat) (xs : List Fr) (p' : Nat), (i : Int) ≤ k ∧ iv = .int .i64 i ∧ v = .slice (some ad) xs.length cap ∧ xs.length ≤ cap ∧ xs.length ≤ i ∧
    RowFr wr w.heap.size (.slice (some ad) xs.length cap) xs ∧ Reader wr g l p' ∧ p' ≤ p + 2 + 3 * i ∧ Touch (fun j => j = g) w wr

set_option maxRecDepth 100000 in
set_option maxHeartbeats 4000000 in
theorem bill93_any (g : Nat) (l : List Int) (p : Nat) (w : World) (h : Reader w g l p) (hp : p ≤ 1000) :
    Calls Try.prog 94 #[.pointer (some ⟨g, 0, none⟩)] w (DrawnFr g l p w) := by
  obtain ⟨i0, hi0, hz0, hz1, hz2⟩ := info_parts infoFr
  have hgl := h.lt
  have Hr0 := Lib.hid h
  clear h
  go_enter Try.func94, Try.ntmps94
  go_wp2_with fail
  refine (pick_any g l p 6 _ Hr0.out (by omega) (by omega)).mono ?_; rintro e w1 ⟨⟨n0, rfl, hn0, hn1⟩, hr1, hg1⟩
  have hn5 : n0 < 6 := by omega
  obtain ⟨n, hn⟩ : ∃ n, n = 1 + n0 := ⟨_, rfl⟩
  have hn2 : 1 ≤ n := by omega
  have hn6 : n ≤ 6 := by omega
  have Hn := Lib.hid hn
  clear hn1
  have HT1 := Lib.hid (Touch.grown (S := fun j => j = g) hg1 rfl)
  have hs1 := hg1.size
  have hb1 : Below w1.heap.size w1 (w1.alloc (.cells #[] 41)) := (Below.refl _ _).alloc (Nat.le_refl _) _
  have HR1 := Lib.hid (hr1.belowB hb1 hr1.lt)
  have HT1' := Lib.hid (HT1.out.belowB (hb1.mono hs1))
  have HO1 := Lib.hid (RowFr.made w1 w.heap.size hs1)
  clear hr1 hg1 hb1
  go_wp2_with fail
  refine (pick_any g l (p + 1) 9 _ HR1.out (by omega) (by omega)).mono ?_; rintro e w2 ⟨⟨k, rfl, hk0, hk1⟩, hr2, hg2⟩
  have hk9 : k < 9 := by omega
  clear hk1
  have HT2 := Lib.hid (HT1'.out.trans (Touch.grown hg2 rfl))
  have HO2 := Lib.hid (HO1.out.grown hg2 hgl)
  have HR2 := Lib.hid hr2
  clear hr2 hg2
  rw [← hn]
  clear hn hn0 hn5
  go_wp2
  go_loopw [5, 7] (fun v iv wr => DbRel g l p k w v iv wr) (fun _ i _ => 20 - (intOf i).toNat)
  case atStart => exact ⟨0, _, _, [], p + 1 + 1, by omega, rfl, rfl, Nat.le_refl _, Nat.le_refl _, HO2.out, HR2.out, by omega, HT2.out⟩
  case round =>
    obtain ⟨i, ad, cap, xs, p', hik, rfl, rfl, hcap, hxi, hown, hrd, hp', htc⟩ := hrel
    have Hown := Lib.hid hown; clear hown
    have Hrd := Lib.hid hrd; clear hrd
    have Htc := Lib.hid htc; clear htc
    by_cases hgo : (i : Int) < k
    case neg =>
      have hik2 : (i : Int) = k := by omega
      clear hik hgo hk0
      by_cases hx0 : xs.length = 0
      · have hnp : ¬ 0 < xs.length := by omega
        have hnlt : ¬ (i : Int) < k := by omega
        have hx0' : xs = [] := List.eq_nil_of_length_eq_zero hx0
        have HX := Lib.hid hx0'
        have hxl : xs.length ≤ 12 := by omega
        have hi9 : i ≤ 12 := by omega
        clear hx0 hx0'
        have Hcap := Lib.hid hcap
        have Hik := Lib.hid hik2
        clear hcap hik2
        obtain ⟨ad', cap', he, _, ho, hblk⟩ := Hown.out.row
        have HOF := Lib.hid (And.intro ho hblk); clear ho hblk
        cases he
        go_wp2
        go_ret2
        exact ⟨n, _, _, xs, p', rfl, hn2, hn6, Hcap.out, by omega, HOF.out.1, HOF.out.2, Hrd.out, by omega, Htc.out, by simp⟩
      · have hpos : ((xs.length : Nat) : Int) > 0 := by omega
        have h0 : 0 < xs.length := by omega
        obtain ⟨b, hab, hB, hbl, _, _⟩ := Hown.out.first h0
        injection hab with hab
        subst hab
        have hgb : g < b := by omega
        have hx12 : xs.length ≤ 12 := by omega
        go_wp2_with fail
        refine (pick_any g l p' 40 _ Hrd.out (by omega) (by omega)).mono ?_; rintro e wz ⟨⟨c, rfl, hc0, hc1⟩, hrz, hgz⟩
        have HTz := Lib.hid (Htc.out.trans (Touch.grown hgz rfl))
        have hOz := Hown.out.grown hgz hgl
        obtain ⟨b', hab, _, hblz, hat, hroom⟩ := hOz.first h0
        cases hab
        have Hrz := Lib.hid hrz
        obtain ⟨d0, d1, d2⟩ := hat 0 h0
        simp only [Nat.zero_mul, Nat.zero_add] at d0 d1 d2
        have f0 := hroom.2 0
        have f1 := hroom.2 1
        have Hat := Lib.hid (And.intro hat hroom)
        have hblk : ∀ w' : World, wz.heap.size ≤ w'.heap.size → ∀ j, inBlk (some ⟨b, 0, none⟩) j → w.heap.size ≤ j ∧ j < w'.heap.size := fun w' hs j hj => by obtain ⟨o, ho⟩ := hj; cases ho; exact ⟨hB, Nat.lt_of_lt_of_le hblz hs⟩
        have Hblk := Lib.hid hblk
        clear hrz hgz hOz hat hroom hc1 hblk
        have Hcap := Lib.hid hcap; clear hcap
        by_cases q0 : c = 0
        · subst q0
          have hO : OwnFr wz (some ⟨b, 0, none⟩) xs := fun _ => ⟨b, rfl, hblz, Hat.out.1, Hat.out.2⟩
          have hnb : ∀ j, inBlk (some ⟨b, 0, none⟩) j → ¬ j = g := fun j hj e => by obtain ⟨o, ho⟩ := hj; cases ho; omega
          have hne : xs ≠ [] := fun h => by rw [h] at h0; simp at h0
          have hBz : Below wz.heap.size wz (wz.alloc (.cells #[.int .i64 0, .int .i64 100] 3)) := (Below.refl _ _).alloc (Nat.le_refl _) _
          have HRl := Lib.hid (Hrz.out.belowB hBz Hrz.out.lt)
          have HOl := Lib.hid (hO.below hBz)
          have HTl := Lib.hid (HTz.out.trans (Touch.of_below (S := fun j => j = g) hBz))
          have hgw := Hrz.out.lt
          have hlit := fun (j : Nat) (hj : j < 2) => litB_at wz 0 100 j hj
          have Hlit := Lib.hid hlit
          have Hnb := Lib.hid hnb
          clear hO hnb hBz hlit f0 f1 d0 d1 d2
          go_wp2_with fail
          refine (pick_any g l (p' + 1) 2 _ HRl.out (by omega) (by omega)).mono ?_; rintro e w9 ⟨⟨k9, rfl, hka, hkz⟩, hr9, hg9⟩
          obtain ⟨k9, rfl⟩ : ∃ j : Nat, k9 = (j : Int) := ⟨k9.toNat, by omega⟩
          have hkb : k9 < 2 := by omega
          have hkc : (k9 : Int) < 2 := by omega
          have ht9 : Touch (fun j => j = g) (wz.alloc (.cells #[.int .i64 0, .int .i64 100] 3)) w9 := Touch.grown hg9 rfl
          have hc9 : w9.cell? ⟨wz.heap.size, k9, none⟩ = some (.int .i64 (litB 0 100 k9)) := (World.cell?_of_block (a := ⟨wz.heap.size, k9, none⟩) (ht9.block wz.heap.size (by simp) (show ¬ wz.heap.size = g by omega))).trans (Hlit.out k9 hkb)
          obtain ⟨b2, hab2, hbl9, hat9, hroom9⟩ := (HOl.out.touch ht9 Hnb.out) hne
          cases hab2
          have y2 := (hat9 0 h0).2.2
          simp only [Nat.zero_mul, Nat.zero_add] at y2
          have f2 := hroom9.2 2
          have HR9 := Lib.hid hr9
          have HT9 := Lib.hid (HTl.out.trans ht9)
          have Hl := Lib.hid (show OwnFr (w9.setCell ⟨b, 2, none⟩ (.int .i64 (litB 0 100 k9))) (some ⟨b, 0, none⟩) (xs.set 0 ⟨(xs.getD 0 fr0).a, (xs.getD 0 fr0).b, litB 0 100 k9⟩) from fun _ => ⟨b, rfl, by simpa using hbl9, hat9.putC h0 _, by rw [List.length_set]; exact hroom9.setCell _ _⟩)
          have hs9 : wz.heap.size ≤ w9.heap.size := by have := ht9.size; simp at this; omega
          clear ht9 hat9 hroom9 hr9 hg9 hkz
          generalize litB 0 100 k9 = y at *
          go_wp2
          go_ret2
          exact ⟨n, some ⟨b, 0, none⟩, cap, xs.set 0 ⟨(xs.getD 0 fr0).a, (xs.getD 0 fr0).b, y⟩, _, by rw [List.length_set]; rfl, hn2, hn6, by rw [List.length_set]; exact Hcap.out, by rw [List.length_set]; omega, Hl.out, Hblk.out _ (by simpa using hs9), HR9.out.setFar hgb _ _, by omega, HT9.out.setNew hB _ _, by simp⟩
        · have q0' : (c == 0) = false := by simpa using q0
          by_cases q1 : c = 1
          · subst q1
            clear f0 d1 d2
            have Hd0 := Lib.hid d0
            clear d0
            have hne : xs ≠ [] := fun h => by rw [h] at h0; simp at h0
            have hO : OwnFr wz (some ⟨b, 0, none⟩) xs := fun _ => ⟨b, rfl, hblz, Hat.out.1, Hat.out.2⟩
            have hnb : ∀ j, inBlk (some ⟨b, 0, none⟩) j → ¬ j = g := fun j hj e => by obtain ⟨o, ho⟩ := hj; cases ho; omega
            have hat : ∀ w', Touch (fun j => j = g) wz w' → b < w'.heap.size ∧ FrAt w' b 0 xs ∧ Room w' b (xs.length * 3) := fun w' h => by
              obtain ⟨b', hb', h1, h2, h3⟩ := (hO.touch h hnb) hne
              cases hb'
              exact ⟨h1, h2, h3⟩
            have Hld := Lib.hid (fun (w' : World) (h : Touch (fun j => j = g) wz w') => (show w'.cell? ⟨b, 0, none⟩ = some (.int .i64 (xs.getD 0 fr0).a) by have := ((hat w' h).2.1 0 h0).1; simpa using this))
            have Hst := Lib.hid (fun (w' : World) (h : Touch (fun j => j = g) wz w') => (show w'.cell? ⟨b, 1, none⟩ = some (.int .i64 (xs.getD 0 fr0).b) ∧ w'.frozen? ⟨b, 1, none⟩ = false by have := ((hat w' h).2.1 0 h0).2.1; exact ⟨by simpa using this, (hat w' h).2.2.2 1⟩))
            have Hfin := Lib.hid (fun (w' : World) (z : Int) (h : Touch (fun j => j = g) wz w') => (show OwnFr (w'.setCell ⟨b, 1, none⟩ (.int .i64 z)) (some ⟨b, 0, none⟩) (xs.set 0 ⟨(xs.getD 0 fr0).a, z, (xs.getD 0 fr0).m⟩) from fun _ => ⟨b, rfl, by simpa using (hat w' h).1, (hat w' h).2.1.putB h0 z, by rw [List.length_set]; exact (hat w' h).2.2.setCell _ _⟩))
            clear hO hnb hat
            obtain ⟨ra, hra⟩ : ∃ ra, (xs.getD 0 fr0).a = ra := ⟨_, rfl⟩
            rw [hra] at Hld
            obtain ⟨n1, hwn⟩ : ∃ n1, IntKind.i64.wrap (n + 1) = n1 := ⟨_, rfl⟩
            have HK0 := Lib.hid (And.intro (Hrz.out.belowB ((Below.refl _ _).drew) Hrz.out.lt) (And.intro (Touch.of_below (S := fun j => j = g) ((Below.refl wz.heap.size wz).drew)) True.intro))
            go_wp2_with fail
            refine wp_region_any (by kernel_rfl) ?_
            change wpAny _ _ _ _ 15 #[false, false, false, false, false, false, false, false, false, false, false, false, false, false, false] _ (World.drew _)
            refine with_Q (fun _ _ _ _ _ h => h) (fun Q hQ hN => ?_)
            generalize World.drew (wz) = w0 at *
            refine take_op (i := 0) (d := 63) (v := .slice (some ⟨b, 0, none⟩) xs.length cap) rfl rfl (by kernel_rfl) (by kernel_rfl) (by kernel_rfl) hQ (Or.inl ⟨by rfl, fun _ => by first | rfl | (go_simp; done) | (go_simp; rfl) | (go_simp; exact hwn) | (go_simp; rw [← hwn]; done)⟩) ?_
            simp only [Act.put, List.setIfInBounds_toArray, List.set_cons_zero, List.set_cons_succ]
            refine take_op (i := 1) (d := 64) (v := .slice (some ⟨b, 0, none⟩) xs.length cap) rfl rfl (by kernel_rfl) (by kernel_rfl) (by kernel_rfl) hQ (Or.inl ⟨by rfl, fun _ => by first | rfl | (go_simp; done) | (go_simp; rfl) | (go_simp; exact hwn) | (go_simp; rw [← hwn]; done)⟩) ?_
            simp only [Act.put, List.setIfInBounds_toArray, List.set_cons_zero, List.set_cons_succ]
            refine take_op (i := 2) (d := 65) (v := .pointer (some ⟨b, 0, none⟩)) rfl rfl (by kernel_rfl) (by kernel_rfl) (by kernel_rfl) hQ (Or.inl ⟨by rfl, fun _ => by first | rfl | (go_simp; done) | (go_simp; rfl) | (go_simp; exact hwn) | (go_simp; rw [← hwn]; done)⟩) ?_
            simp only [Act.put, List.setIfInBounds_toArray, List.set_cons_zero, List.set_cons_succ]
            refine take_op (i := 3) (d := 66) (v := .pointer (some ⟨b, 0, none⟩)) rfl rfl (by kernel_rfl) (by kernel_rfl) (by kernel_rfl) hQ (Or.inl ⟨by rfl, fun _ => by first | rfl | (go_simp; done) | (go_simp; rfl) | (go_simp; exact hwn) | (go_simp; rw [← hwn]; done)⟩) ?_
            simp only [Act.put, List.setIfInBounds_toArray, List.set_cons_zero, List.set_cons_succ]
            refine take_op (i := 5) (d := 68) (v := .int .i64 n) rfl rfl (by kernel_rfl) (by kernel_rfl) (by kernel_rfl) hQ (Or.inl ⟨by rfl, fun _ => by first | rfl | (go_simp; done) | (go_simp; rfl) | (go_simp; exact hwn) | (go_simp; rw [← hwn]; done)⟩) ?_
            simp only [Act.put, List.setIfInBounds_toArray, List.set_cons_zero, List.set_cons_succ]
            refine take_op (i := 6) (d := 69) (v := .int .i64 n1) rfl rfl (by kernel_rfl) (by kernel_rfl) (by kernel_rfl) hQ (Or.inl ⟨by rfl, fun _ => by first | rfl | (go_simp; done) | (go_simp; rfl) | (go_simp; exact hwn) | (go_simp; rw [← hwn]; done)⟩) ?_
            simp only [Act.put, List.setIfInBounds_toArray, List.set_cons_zero, List.set_cons_succ]
            refine take_op (i := 8) (d := 71) (v := .pointer (some ⟨g, 0, none⟩)) rfl rfl (by kernel_rfl) (by kernel_rfl) (by kernel_rfl) hQ (Or.inl ⟨by rfl, fun _ => by first | rfl | (go_simp; done) | (go_simp; rfl) | (go_simp; exact hwn) | (go_simp; rw [← hwn]; done)⟩) ?_
            simp only [Act.put, List.setIfInBounds_toArray, List.set_cons_zero, List.set_cons_succ]
            refine wpAny_ready (rs := [4, 9]) (by kernel_rfl) (by simp) ?_
            refine AllReady.cons rfl (fun K hK => ?_) (AllReady.cons rfl (fun K hK => ?_) AllReady.nil)
            · have hl1 := Hld.out _ HK0.out.2.1
              obtain e1 := hl1
              go_simp
              refine hK _ _ ?_
              try simp only [Act.put, List.setIfInBounds_toArray, List.set_cons_zero, List.set_cons_succ]
              clear hK K 
              refine wpAny_ready (rs := [7, 9]) (by kernel_rfl) (by simp) ?_
              refine AllReady.cons rfl (fun K hK => ?_) (AllReady.cons rfl (fun K hK => ?_) AllReady.nil)
              · go_simp
                refine hK _ _ ?_
                try simp only [Act.put, List.setIfInBounds_toArray, List.set_cons_zero, List.set_cons_succ]
                have hB2 : Below w0.heap.size w0 (w0.alloc (.cells #[.int .i64 ra, .int .i64 n1] 3)) := (Below.refl _ _).alloc (Nat.le_refl _) _
                have hk2 := Lib.hid (And.intro (HK0.out.1.belowB hB2 HK0.out.1.lt) (And.intro (HK0.out.2.1.belowB (hB2.mono HK0.out.2.1.size)) (And.intro (show w0.heap.size < (w0.alloc (.cells #[.int .i64 ra, .int .i64 n1] 3)).heap.size ∧ g ≠ w0.heap.size from ⟨by simp, by have := HK0.out.1.lt; omega⟩) (fun (j : Nat) (hj : j < 2) => litB_at w0 ra n1 j hj))))
                clear hB2
                generalize w0.alloc (.cells #[.int .i64 ra, .int .i64 n1] 3) = wz2 at *
                clear hK K
                refine wpAny_ready (rs := [9]) (by kernel_rfl) (by simp) ?_
                refine AllReady.cons rfl (fun K hK => ?_) AllReady.nil
                go_simp
                go_at_call 96
                refine (pick_any g l (p' + 1) 2 _ hk2.out.1 (by omega) (by omega)).mono ?_; rintro e wz3 ⟨⟨k, rfl, hka, hkz⟩, hr3, hg3⟩
                obtain ⟨k, rfl⟩ : ∃ j : Nat, k = (j : Int) := ⟨k.toNat, by omega⟩
                have hkb : k < 2 := by omega
                have hkc : (k : Int) < 2 := by omega
                have hk3 := Lib.hid (And.intro hr3 (And.intro (hk2.out.2.1.trans (Touch.grown hg3 rfl)) (And.intro (And.intro (Nat.lt_of_lt_of_le hk2.out.2.2.1.1 hg3.size) hk2.out.2.2.1.2) (fun (j : Nat) (hj : j < 2) => (World.cell?_of_block (a := ⟨w0.heap.size, j, none⟩) (hg3.block _ hk2.out.2.2.1.1 (by intro e; injection e with e; exact hk2.out.2.2.1.2 e.symm))).trans (hk2.out.2.2.2 j hj)))))
                clear hr3 hg3 hkz
                refine hK _ _ ?_
                try simp only [Act.put, List.setIfInBounds_toArray, List.set_cons_zero, List.set_cons_succ]
                clear hK K
                refine take_op (i := 10) (d := 73) (v := .pointer (some ⟨w0.heap.size, k, none⟩)) rfl rfl (by kernel_rfl) (by kernel_rfl) (by kernel_rfl) hQ (Or.inl ⟨by rfl, fun _ => by first | rfl | (go_simp; done) | (go_simp; rfl) | (go_simp; exact hwn) | (go_simp; rw [← hwn]; done)⟩) ?_
                simp only [Act.put, List.setIfInBounds_toArray, List.set_cons_zero, List.set_cons_succ]
                refine wpAny_ready (rs := [11]) (by kernel_rfl) (by simp) ?_
                refine AllReady.cons rfl (fun K hK => ?_) AllReady.nil
                have hl4 := hk3.out.2.2.2 k hkb
                obtain e4 := hl4
                go_simp
                refine hK _ _ ?_
                try simp only [Act.put, List.setIfInBounds_toArray, List.set_cons_zero, List.set_cons_succ]
                clear hK K 
                refine take_op (i := 12) (d := 75) (v := .pointer (some ⟨b, 0, none⟩)) rfl rfl (by kernel_rfl) (by kernel_rfl) (by kernel_rfl) hQ (Or.inl ⟨by rfl, fun _ => by first | rfl | (go_simp; done) | (go_simp; rfl) | (go_simp; exact hwn) | (go_simp; rw [← hwn]; done)⟩) ?_
                simp only [Act.put, List.setIfInBounds_toArray, List.set_cons_zero, List.set_cons_succ]
                refine take_op (i := 13) (d := 76) (v := .pointer (some ⟨b, 1, none⟩)) rfl rfl (by kernel_rfl) (by kernel_rfl) (by kernel_rfl) hQ (Or.inl ⟨by rfl, fun _ => by first | rfl | (go_simp; done) | (go_simp; rfl) | (go_simp; exact hwn) | (go_simp; rw [← hwn]; done)⟩) ?_
                simp only [Act.put, List.setIfInBounds_toArray, List.set_cons_zero, List.set_cons_succ]
                refine wpAny_ready (rs := [14]) (by kernel_rfl) (by simp) ?_
                refine AllReady.cons rfl (fun K hK => ?_) AllReady.nil
                have hs5 := Hst.out _ hk3.out.2.1
                obtain ⟨hs5a, hs5b⟩ := hs5
                go_simp
                refine hK _ _ ?_
                try simp only [Act.put, List.setIfInBounds_toArray, List.set_cons_zero, List.set_cons_succ]
                clear hs5a hs5b
                clear hK K
                refine wpAny_done (by kernel_rfl) (hN _ _ ?_) _
                have HF := Lib.hid (And.intro (Hfin.out _ (litB ra n1 k) hk3.out.2.1) (And.intro (hk3.out.1.setFar hgb 1 (.int .i64 (litB ra n1 k))) (And.intro ((HTz.out.trans hk3.out.2.1).setNew hB 1 (.int .i64 (litB ra n1 k))) hk3.out.2.1.size)))
                clear Hld Hst Hfin
                generalize litB ra n1 k = y at *
                go_wp2
                go_ret2
                exact ⟨n, some ⟨b, 0, none⟩, cap, xs.set 0 ⟨(xs.getD 0 fr0).a, y, (xs.getD 0 fr0).m⟩, _, by rw [List.length_set]; rfl, hn2, hn6, by rw [List.length_set]; exact Hcap.out, by rw [List.length_set]; omega, HF.out.1, Hblk.out _ (by simpa using HF.out.2.2.2), HF.out.2.1, by omega, HF.out.2.2.1, by simp⟩
              · go_simp
                go_at_call 96
                refine (pick_any g l (p' + 1) 2 _ HK0.out.1 (by omega) (by omega)).mono ?_; rintro e wz6 ⟨⟨k, rfl, hka, hkz⟩, hr6, hg6⟩
                obtain ⟨k, rfl⟩ : ∃ j : Nat, k = (j : Int) := ⟨k.toNat, by omega⟩
                have hkb : k < 2 := by omega
                have hkc : (k : Int) < 2 := by omega
                have hk6 := Lib.hid (And.intro hr6 (And.intro (HK0.out.2.1.trans (Touch.grown hg6 rfl)) True.intro))
                clear hr6 hg6 hkz
                refine hK _ _ ?_
                try simp only [Act.put, List.setIfInBounds_toArray, List.set_cons_zero, List.set_cons_succ]
                clear hK K
                refine wpAny_ready (rs := [7]) (by kernel_rfl) (by simp) ?_
                refine AllReady.cons rfl (fun K hK => ?_) AllReady.nil
                go_simp
                refine hK _ _ ?_
                try simp only [Act.put, List.setIfInBounds_toArray, List.set_cons_zero, List.set_cons_succ]
                have hB7 : Below wz6.heap.size wz6 (wz6.alloc (.cells #[.int .i64 ra, .int .i64 n1] 3)) := (Below.refl _ _).alloc (Nat.le_refl _) _
                have hk7 := Lib.hid (And.intro (hk6.out.1.belowB hB7 hk6.out.1.lt) (And.intro (hk6.out.2.1.belowB (hB7.mono hk6.out.2.1.size)) (And.intro (show wz6.heap.size < (wz6.alloc (.cells #[.int .i64 ra, .int .i64 n1] 3)).heap.size ∧ g ≠ wz6.heap.size from ⟨by simp, by have := hk6.out.1.lt; omega⟩) (fun (j : Nat) (hj : j < 2) => litB_at wz6 ra n1 j hj))))
                clear hB7
                generalize wz6.alloc (.cells #[.int .i64 ra, .int .i64 n1] 3) = wz7 at *
                clear hK K
                refine take_op (i := 10) (d := 73) (v := .pointer (some ⟨wz6.heap.size, k, none⟩)) rfl rfl (by kernel_rfl) (by kernel_rfl) (by kernel_rfl) hQ (Or.inl ⟨by rfl, fun _ => by first | rfl | (go_simp; done) | (go_simp; rfl) | (go_simp; exact hwn) | (go_simp; rw [← hwn]; done)⟩) ?_
                simp only [Act.put, List.setIfInBounds_toArray, List.set_cons_zero, List.set_cons_succ]
                refine wpAny_ready (rs := [11]) (by kernel_rfl) (by simp) ?_
                refine AllReady.cons rfl (fun K hK => ?_) AllReady.nil
                have hl8 := hk7.out.2.2.2 k hkb
                obtain e8 := hl8
                go_simp
                refine hK _ _ ?_
                try simp only [Act.put, List.setIfInBounds_toArray, List.set_cons_zero, List.set_cons_succ]
                clear hK K 
                refine take_op (i := 12) (d := 75) (v := .pointer (some ⟨b, 0, none⟩)) rfl rfl (by kernel_rfl) (by kernel_rfl) (by kernel_rfl) hQ (Or.inl ⟨by rfl, fun _ => by first | rfl | (go_simp; done) | (go_simp; rfl) | (go_simp; exact hwn) | (go_simp; rw [← hwn]; done)⟩) ?_
                simp only [Act.put, List.setIfInBounds_toArray, List.set_cons_zero, List.set_cons_succ]
                refine take_op (i := 13) (d := 76) (v := .pointer (some ⟨b, 1, none⟩)) rfl rfl (by kernel_rfl) (by kernel_rfl) (by kernel_rfl) hQ (Or.inl ⟨by rfl, fun _ => by first | rfl | (go_simp; done) | (go_simp; rfl) | (go_simp; exact hwn) | (go_simp; rw [← hwn]; done)⟩) ?_
                simp only [Act.put, List.setIfInBounds_toArray, List.set_cons_zero, List.set_cons_succ]
                refine wpAny_ready (rs := [14]) (by kernel_rfl) (by simp) ?_
                refine AllReady.cons rfl (fun K hK => ?_) AllReady.nil
                have hs9 := Hst.out _ hk7.out.2.1
                obtain ⟨hs9a, hs9b⟩ := hs9
                go_simp
                refine hK _ _ ?_
                try simp only [Act.put, List.setIfInBounds_toArray, List.set_cons_zero, List.set_cons_succ]
                clear hs9a hs9b
                clear hK K
                refine wpAny_done (by kernel_rfl) (hN _ _ ?_) _
                have HF := Lib.hid (And.intro (Hfin.out _ (litB ra n1 k) hk7.out.2.1) (And.intro (hk7.out.1.setFar hgb 1 (.int .i64 (litB ra n1 k))) (And.intro ((HTz.out.trans hk7.out.2.1).setNew hB 1 (.int .i64 (litB ra n1 k))) hk7.out.2.1.size)))
                clear Hld Hst Hfin
                generalize litB ra n1 k = y at *
                go_wp2
                go_ret2
                exact ⟨n, some ⟨b, 0, none⟩, cap, xs.set 0 ⟨(xs.getD 0 fr0).a, y, (xs.getD 0 fr0).m⟩, _, by rw [List.length_set]; rfl, hn2, hn6, by rw [List.length_set]; exact Hcap.out, by rw [List.length_set]; omega, HF.out.1, Hblk.out _ (by simpa using HF.out.2.2.2), HF.out.2.1, by omega, HF.out.2.2.1, by simp⟩
            · go_simp
              go_at_call 96
              refine (pick_any g l (p' + 1) 2 _ HK0.out.1 (by omega) (by omega)).mono ?_; rintro e wz10 ⟨⟨k, rfl, hka, hkz⟩, hr10, hg10⟩
              obtain ⟨k, rfl⟩ : ∃ j : Nat, k = (j : Int) := ⟨k.toNat, by omega⟩
              have hkb : k < 2 := by omega
              have hkc : (k : Int) < 2 := by omega
              have hk10 := Lib.hid (And.intro hr10 (And.intro (HK0.out.2.1.trans (Touch.grown hg10 rfl)) True.intro))
              clear hr10 hg10 hkz
              refine hK _ _ ?_
              try simp only [Act.put, List.setIfInBounds_toArray, List.set_cons_zero, List.set_cons_succ]
              clear hK K
              refine wpAny_ready (rs := [4]) (by kernel_rfl) (by simp) ?_
              refine AllReady.cons rfl (fun K hK => ?_) AllReady.nil
              have hl11 := Hld.out _ hk10.out.2.1
              obtain e11 := hl11
              go_simp
              refine hK _ _ ?_
              try simp only [Act.put, List.setIfInBounds_toArray, List.set_cons_zero, List.set_cons_succ]
              clear hK K 
              refine wpAny_ready (rs := [7]) (by kernel_rfl) (by simp) ?_
              refine AllReady.cons rfl (fun K hK => ?_) AllReady.nil
              go_simp
              refine hK _ _ ?_
              try simp only [Act.put, List.setIfInBounds_toArray, List.set_cons_zero, List.set_cons_succ]
              have hB12 : Below wz10.heap.size wz10 (wz10.alloc (.cells #[.int .i64 ra, .int .i64 n1] 3)) := (Below.refl _ _).alloc (Nat.le_refl _) _
              have hk12 := Lib.hid (And.intro (hk10.out.1.belowB hB12 hk10.out.1.lt) (And.intro (hk10.out.2.1.belowB (hB12.mono hk10.out.2.1.size)) (And.intro (show wz10.heap.size < (wz10.alloc (.cells #[.int .i64 ra, .int .i64 n1] 3)).heap.size ∧ g ≠ wz10.heap.size from ⟨by simp, by have := hk10.out.1.lt; omega⟩) (fun (j : Nat) (hj : j < 2) => litB_at wz10 ra n1 j hj))))
              clear hB12
              generalize wz10.alloc (.cells #[.int .i64 ra, .int .i64 n1] 3) = wz12 at *
              clear hK K
              refine take_op (i := 10) (d := 73) (v := .pointer (some ⟨wz10.heap.size, k, none⟩)) rfl rfl (by kernel_rfl) (by kernel_rfl) (by kernel_rfl) hQ (Or.inl ⟨by rfl, fun _ => by first | rfl | (go_simp; done) | (go_simp; rfl) | (go_simp; exact hwn) | (go_simp; rw [← hwn]; done)⟩) ?_
              simp only [Act.put, List.setIfInBounds_toArray, List.set_cons_zero, List.set_cons_succ]
              refine wpAny_ready (rs := [11]) (by kernel_rfl) (by simp) ?_
              refine AllReady.cons rfl (fun K hK => ?_) AllReady.nil
              have hl13 := hk12.out.2.2.2 k hkb
              obtain e13 := hl13
              go_simp
              refine hK _ _ ?_
              try simp only [Act.put, List.setIfInBounds_toArray, List.set_cons_zero, List.set_cons_succ]
              clear hK K 
              refine take_op (i := 12) (d := 75) (v := .pointer (some ⟨b, 0, none⟩)) rfl rfl (by kernel_rfl) (by kernel_rfl) (by kernel_rfl) hQ (Or.inl ⟨by rfl, fun _ => by first | rfl | (go_simp; done) | (go_simp; rfl) | (go_simp; exact hwn) | (go_simp; rw [← hwn]; done)⟩) ?_
              simp only [Act.put, List.setIfInBounds_toArray, List.set_cons_zero, List.set_cons_succ]
              refine take_op (i := 13) (d := 76) (v := .pointer (some ⟨b, 1, none⟩)) rfl rfl (by kernel_rfl) (by kernel_rfl) (by kernel_rfl) hQ (Or.inl ⟨by rfl, fun _ => by first | rfl | (go_simp; done) | (go_simp; rfl) | (go_simp; exact hwn) | (go_simp; rw [← hwn]; done)⟩) ?_
              simp only [Act.put, List.setIfInBounds_toArray, List.set_cons_zero, List.set_cons_succ]
              refine wpAny_ready (rs := [14]) (by kernel_rfl) (by simp) ?_
              refine AllReady.cons rfl (fun K hK => ?_) AllReady.nil
              have hs14 := Hst.out _ hk12.out.2.1
              obtain ⟨hs14a, hs14b⟩ := hs14
              go_simp
              refine hK _ _ ?_
              try simp only [Act.put, List.setIfInBounds_toArray, List.set_cons_zero, List.set_cons_succ]
              clear hs14a hs14b
              clear hK K
              refine wpAny_done (by kernel_rfl) (hN _ _ ?_) _
              have HF := Lib.hid (And.intro (Hfin.out _ (litB ra n1 k) hk12.out.2.1) (And.intro (hk12.out.1.setFar hgb 1 (.int .i64 (litB ra n1 k))) (And.intro ((HTz.out.trans hk12.out.2.1).setNew hB 1 (.int .i64 (litB ra n1 k))) hk12.out.2.1.size)))
              clear Hld Hst Hfin
              generalize litB ra n1 k = y at *
              go_wp2
              go_ret2
              exact ⟨n, some ⟨b, 0, none⟩, cap, xs.set 0 ⟨(xs.getD 0 fr0).a, y, (xs.getD 0 fr0).m⟩, _, by rw [List.length_set]; rfl, hn2, hn6, by rw [List.length_set]; exact Hcap.out, by rw [List.length_set]; omega, HF.out.1, Hblk.out _ (by simpa using HF.out.2.2.2), HF.out.2.1, by omega, HF.out.2.2.1, by simp⟩
          · have q1' : (c == 1) = false := by simpa using q1
            clear q0 q1
            go_wp2
            go_ret2
            exact ⟨n, _, _, xs, _, rfl, hn2, hn6, Hcap.out, by omega, fun _ => ⟨b, rfl, hblz, Hat.out.1, Hat.out.2⟩, Hblk.out _ (Nat.le_refl _), Hrz.out, by omega, HTz.out, by simp⟩
    case pos =>
      go_wp2_with fail
      refine (pick_any g l p' n _ Hrd.out (by omega) (by omega)).mono ?_; rintro e w3 ⟨⟨a, rfl, ha0, ha1⟩, hr_, hg_⟩
      have ha2 : a < n := by omega
      clear ha1
      have HT3 := Lib.hid (Htc.out.trans (Touch.grown hg_ rfl))
      have HO3 := Lib.hid (Hown.out.grown hg_ hgl)
      have HR3 := Lib.hid hr_
      clear hr_ hg_
      go_wp2_with fail
      refine (pick_any g l (p' + 1) (n - a) _ HR3.out (by omega) (by omega)).mono ?_; rintro e w4 ⟨⟨b, rfl, hb0, hb1⟩, hr_, hg_⟩
      have hb2 : b < n - a := by omega
      clear hb1
      have HT4 := Lib.hid (HT3.out.trans (Touch.grown hg_ rfl))
      have HO4 := Lib.hid (HO3.out.grown hg_ hgl)
      have HR4 := Lib.hid hr_
      clear hr_ hg_
      go_wp2_with fail
      refine (pick_any g l (p' + 1 + 1) 60 _ HR4.out (by omega) (by omega)).mono ?_; rintro e w5 ⟨⟨c, rfl, hc0, hc1⟩, hr_, hg_⟩
      have hc2 : c < 60 := by omega
      clear hc1
      have HT5 := Lib.hid (HT4.out.trans (Touch.grown hg_ rfl))
      have HO5 := Lib.hid (HO4.out.grown hg_ hgl)
      have HR5 := Lib.hid hr_
      clear hr_ hg_
      obtain ⟨m, hm⟩ : ∃ m : Int, 1 + c = m := ⟨_, rfl⟩
      have wn : W64 n := by unfold W64; omega
      have Hbook := Lib.hid (fun w' (h : RowFr w' w.heap.size (.slice (some ad) xs.length cap) xs) => book1_any n ad cap xs ⟨a, a + 1 + b, m⟩ w' wn (h.inB hcap) (by omega))
      have Hlen := Lib.hid (bookL_len n xs ⟨a, a + 1 + b, m⟩)
      have Hne := Lib.hid (show validF n (xs ++ [⟨a, a + 1 + b, m⟩]) = true → 0 < (bookL n xs ⟨a, a + 1 + b, m⟩).length from fun h => by rw [bookL_yes h]; simp)
      generalize bookL n xs ⟨a, a + 1 + b, m⟩ = ys at *
      generalize validF n (xs ++ [⟨a, a + 1 + b, m⟩]) = ok at *
      go_wp2_with fail
      refine (Hbook.out _ HO5.out).mono ?_; intro e wq hrow
      obtain ⟨ad2, cap2, rfl, hcap2, hrow2, hb2'⟩ := hrow.any
      have HTq := Lib.hid (HT5.out.belowB (hb2'.mono HT5.out.size))
      have HRq := Lib.hid (HR5.out.belowB hb2' HR5.out.lt)
      have HOq := Lib.hid (RowFr.below HO5.out hb2')
      have hYq := hrow2.mono HT5.out.size
      clear hrow hrow2 hb2'
      cases ok with
      | false =>
        clear hYq
        go_wp2
        exact ⟨⟨i + 1, ad, cap, xs, _, by omega, by go_num, rfl, hcap, by omega, HOq.out, HRq.out, by omega, HTq.out⟩, by simp [intOf]; omega⟩
      | true =>
        obtain ⟨bq, rfl, _⟩ := hYq.first (Hne.out rfl)
        have HYq := Lib.hid hYq
        clear hYq
        go_wp2
        exact ⟨⟨i + 1, ⟨bq, 0, none⟩, cap2, ys, _, by omega, by go_num, rfl, hcap2, by have := Hlen.out; omega, HYq.out, HRq.out, by omega, HTq.out⟩, by simp [intOf]; omega⟩

/-- What a draw of parcels gives. -/
def DrawnB2 (w : World) (e : Ending) (w' : World) : Prop :=
  ∃ (n : Int) (ad : Option Addr) (cap : Nat) (xs : List Fr), e = .returned (.tuple #[.int .i64 n, .slice ad xs.length cap]) ∧ 1 ≤ n ∧ n ≤ 6 ∧ xs.length ≤ cap ∧ xs.length ≤ 12 ∧ OwnFr w' ad xs ∧ Below w.heap.size w w'
set_option maxHeartbeats 400000 in
theorem drawMv_any (v : Value) (l : List Int) (w : World) (hv : BytesIn w v l) (hm : l.length ≤ 1048576) :
    Calls Try.prog 67 #[v] w (DrawnB2 w) := by
  have Hv := Lib.hid hv; clear hv
  go_enter Try.func67, Try.ntmps67
  go_wp2_with fail
  refine (l6Open_any _ l _ Hv.out hm).mono ?_; rintro e w1 ⟨rfl, ⟨l', hr⟩, hb, hs⟩
  have Hs := Lib.hid hs; clear hs
  go_wp2_with fail
  refine (bill93_any _ l' 0 _ hr (by omega)).mono ?_; rintro e w2 ⟨n, ad, cap, xs, p', rfl, hn1, hn6, hcap, h12, hown, hblk, hr2, hp, ht, hnn⟩
  have H := Lib.hid (And.intro hown ht)
  clear hown hblk ht hr hr2
  go_wp2
  go_ret2
  exact ⟨n, ad, cap, xs, rfl, hn1, hn6, hcap, h12, H.out.1, hb.trans (H.out.2.below (fun j hj => by rw [hj]; exact Nat.le_refl _) hb.size)⟩

set_option maxHeartbeats 400000 in
theorem drawLd_any (v : Value) (l : List Int) (w : World) (hv : BytesIn w v l) (hm : l.length ≤ 1048576) :
    Calls Try.prog 62 #[v] w (DrawnB2 w) := by
  have Hv := Lib.hid hv; clear hv
  go_enter Try.func62, Try.ntmps62
  go_wp2_with fail
  refine (l6Open_any _ l _ Hv.out hm).mono ?_; rintro e w1 ⟨rfl, ⟨l', hr⟩, hb, hs⟩
  have Hs := Lib.hid hs; clear hs
  go_wp2_with fail
  refine (bill93_any _ l' 0 _ hr (by omega)).mono ?_; rintro e w2 ⟨n, ad, cap, xs, p', rfl, hn1, hn6, hcap, h12, hown, hblk, hr2, hp, ht, hnn⟩
  have H := Lib.hid (And.intro hown ht)
  clear hown hblk ht hr hr2
  go_wp2
  go_ret2
  exact ⟨n, ad, cap, xs, rfl, hn1, hn6, hcap, h12, H.out.1, hb.trans (H.out.2.below (fun j hj => by rw [hj]; exact Nat.le_refl _) hb.size)⟩

set_option maxHeartbeats 400000 in
theorem drawOr_any (v : Value) (l : List Int) (w : World) (hv : BytesIn w v l) (hm : l.length ≤ 1048576) :
    Calls Try.prog 69 #[v] w (DrawnB2 w) := by
  have Hv := Lib.hid hv; clear hv
  go_enter Try.func69, Try.ntmps69
  go_wp2_with fail
  refine (l6Open_any _ l _ Hv.out hm).mono ?_; rintro e w1 ⟨rfl, ⟨l', hr⟩, hb, hs⟩
  have Hs := Lib.hid hs; clear hs
  go_wp2_with fail
  refine (bill93_any _ l' 0 _ hr (by omega)).mono ?_; rintro e w2 ⟨n, ad, cap, xs, p', rfl, hn1, hn6, hcap, h12, hown, hblk, hr2, hp, ht, hnn⟩
  have H := Lib.hid (And.intro hown ht)
  clear hown hblk ht hr hr2
  go_wp2
  go_ret2
  exact ⟨n, ad, cap, xs, rfl, hn1, hn6, hcap, h12, H.out.1, hb.trans (H.out.2.below (fun j hj => by rw [hj]; exact Nat.le_refl _) hb.size)⟩

end Go.Proofs.Ytmdcpigobfhckaa
