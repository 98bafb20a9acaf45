/- Draws: roads (l91Roads). -/
import Derived.Test.YtfdaaeapfeajjaaDK
import Derived.Test.YtfdaaeapfeajjaaRKS
namespace Go.Proofs.Ytfdaaeapfeajjaa
open Go.RowKit

/-- Small numbers. -/
def RdB (l : List Rd) : Prop := ∀ r ∈ l, -1000 ≤ r.a ∧ r.a ≤ 1000 ∧ -1000 ≤ r.b ∧ r.b ≤ 1000 ∧ -1000 ≤ r.m ∧ r.m ≤ 1000
theorem RdB.wf {l : List Rd} (h : RdB l) : RdWf l := fun r hr => by
  obtain ⟨h1, h2, h3, h4, h5, h6⟩ := h r hr
  unfold W64
  omega
theorem RdB.nil : RdB [] := fun r hr => by cases hr
theorem RdB.snoc {l : List Rd} (h : RdB l) {r : Rd} (hr : -1000 ≤ r.a ∧ r.a ≤ 1000 ∧ -1000 ≤ r.b ∧ r.b ≤ 1000 ∧ -1000 ≤ r.m ∧ r.m ≤ 1000) : RdB (l ++ [r]) := fun s hs => by
  simp only [List.mem_append, List.mem_singleton] at hs
  rcases hs with hs | rfl
  · exact h s hs
  · exact hr
theorem addR_bd {n : Int} {l : List Rd} (h : RdB l) {x y z : Int} (hr : -1000 ≤ x ∧ x ≤ 1000 ∧ -1000 ≤ y ∧ y ≤ 1000 ∧ -1000 ≤ z ∧ z ≤ 1000) : RdB (addR n l ⟨x, y, z⟩) := by
  unfold addR; split
  · exact h.snoc hr
  · exact RdB.nil
theorem addR_len (n : Int) (l : List Rd) (r : Rd) : (addR n l r).length ≤ l.length + 1 := by
  unfold addR; split <;> simp
theorem RowRz.inR {w : World} {B : Nat} {a : Option Addr} {cap : Nat} {l : List Rz} (h : RowRz w B (.slice a l.length cap) l) (hc : l.length ≤ cap) : RzIn w (.slice a l.length cap) l := by
  obtain ⟨ad', cap', he, _, ho, _⟩ := h.row
  cases he
  exact ho.ins hc
theorem RowRz.grown {w w' : World} {B g : Nat} {v : Value} {l : List Rz} (h : RowRz w B v l) (hg : w.grownBy w' (some g)) (hB : g < B) : RowRz w' B v l := by
  obtain ⟨h1, h2⟩ := h
  refine ⟨h1, ?_⟩
  rcases h2 with h0 | ⟨b, cap, cur, rfl, hb, hh, r⟩
  · exact .inl h0
  · exact .inr ⟨b, cap, cur, rfl, hb, (hg.block b (Array.getElem?_eq_some_iff.1 hh).1 (fun e => by injection e with e; omega)).trans hh, r⟩

theorem RowRz.first {w : World} {B : Nat} {a : Option Addr} {cap : Nat} {l : List Rz} (h : RowRz w B (.slice a l.length cap) l) (h0 : 0 < l.length) : ∃ b, a = some ⟨b, 0, none⟩ ∧ B ≤ b ∧ b < w.heap.size ∧ RzAt w b 0 l ∧ Room w b (l.length * 3) := by
  obtain ⟨ad', cap', he, _, ho, hblk⟩ := h.row
  cases he
  obtain ⟨b, rfl, hb, hat, hr⟩ := ho (by rintro rfl; simp at h0)
  exact ⟨b, rfl, (hblk b ⟨0, rfl⟩).1, hb, hat, hr⟩
theorem far_cell {w : World} {b i j : Nat} (v : Value) (h : i ≠ j) : (w.setCell ⟨b, i, none⟩ v).cell? ⟨b, j, none⟩ = w.cell? ⟨b, j, none⟩ :=
  World.cell?_setCell_other _ _ _ _ (by intro e; injection e with _ e; exact h e)
theorem RzAt.put2 {w : World} {b : Nat} {l : List Rz} (h : RzAt w b 0 l) (h0 : 0 < l.length) (z : Int) : RzAt (w.setCell ⟨b, 2, none⟩ (.int .i64 z)) b 0 (l.set 0 ⟨(l.getD 0 rd0).a, (l.getD 0 rd0).b, z⟩) := by
  intro i hi
  simp only [List.length_set] at hi
  obtain ⟨c0, c1, c2⟩ := h i hi
  by_cases e : i = 0
  · subst e
    have e1 : (l.set 0 ⟨(l.getD 0 rd0).a, (l.getD 0 rd0).b, z⟩).getD 0 rz0 = ⟨(l.getD 0 rd0).a, (l.getD 0 rd0).b, z⟩ := by simp [List.getD, hi]
    rw [e1]
    simp only [Nat.zero_mul, Nat.zero_add, Nat.add_zero] at c0 c1 c2 ⊢
    exact ⟨by rw [far_cell _ (by omega)]; exact c0, by rw [far_cell _ (by omega)]; exact c1, World.cell?_setCell_same _ _ _ c2⟩
  · have e1 : (l.set 0 ⟨(l.getD 0 rd0).a, (l.getD 0 rd0).b, z⟩).getD i rz0 = l.getD i rz0 := by simp [List.getD, List.getElem?_set, show ¬ 0 = i by omega]
    rw [e1]
    exact ⟨by rw [far_cell _ (by omega)]; exact c0, by rw [far_cell _ (by omega)]; exact c1, by rw [far_cell _ (by omega)]; exact c2⟩
theorem RzAt.put1 {w : World} {b : Nat} {l : List Rz} (h : RzAt w b 0 l) (h0 : 0 < l.length) (z : Int) : RzAt (w.setCell ⟨b, 1, none⟩ (.int .i64 z)) b 0 (l.set 0 ⟨(l.getD 0 rd0).a, z, (l.getD 0 rd0).m⟩) := by
  intro i hi
  simp only [List.length_set] at hi
  obtain ⟨c0, c1, c2⟩ := h i hi
  by_cases e : i = 0
  · subst e
    have e1 : (l.set 0 ⟨(l.getD 0 rd0).a, z, (l.getD 0 rd0).m⟩).getD 0 rz0 = ⟨(l.getD 0 rd0).a, z, (l.getD 0 rd0).m⟩ := by simp [List.getD, hi]
    rw [e1]
    simp only [Nat.zero_mul, Nat.zero_add, Nat.add_zero] at c0 c1 c2 ⊢
    exact ⟨by rw [far_cell _ (by omega)]; exact c0, World.cell?_setCell_same _ _ _ c1, by rw [far_cell _ (by omega)]; exact c2⟩
  · have e1 : (l.set 0 ⟨(l.getD 0 rd0).a, z, (l.getD 0 rd0).m⟩).getD i rz0 = l.getD i rz0 := by simp [List.getD, List.getElem?_set, show ¬ 0 = i by omega]
    rw [e1]
    exact ⟨by rw [far_cell _ (by omega)]; exact c0, by rw [far_cell _ (by omega)]; exact c1, by rw [far_cell _ (by omega)]; exact c2⟩
theorem RdB.at0 {l : List Rd} (h : RdB l) (h0 : 0 < l.length) : -1000 ≤ (l.getD 0 rd0).a ∧ (l.getD 0 rd0).a ≤ 1000 ∧ -1000 ≤ (l.getD 0 rd0).b ∧ (l.getD 0 rd0).b ≤ 1000 ∧ -1000 ≤ (l.getD 0 rd0).m ∧ (l.getD 0 rd0).m ≤ 1000 := by
  rw [getD_eq l h0]; exact h _ (List.getElem_mem h0)
theorem RdB.set0 {l : List Rd} (h : RdB l) {r : Rd} (hr : -1000 ≤ r.a ∧ r.a ≤ 1000 ∧ -1000 ≤ r.b ∧ r.b ≤ 1000 ∧ -1000 ≤ r.m ∧ r.m ≤ 1000) : RdB (l.set 0 r) := fun s hs => by
  rcases List.mem_or_eq_of_mem_set hs with hs | rfl
  · exact h s hs
  · exact hr

/-- What drawn roads are. -/
def DrawnRo (g : Nat) (l : List Int) (p : Nat) (w : World) (e : Ending) (w' : World) : Prop :=
  ∃ (n : Int) (ad : Option Addr) (cap : Nat) (xs : List Rd) (p' : Nat), e = .returned (.tuple #[.int .i64 n, .slice ad xs.length cap]) ∧ 2 ≤ n ∧ n ≤ 6 ∧ xs.length ≤ cap ∧ xs.length ≤ 11 ∧ RdB xs ∧ OwnRz w' ad xs ∧
    (∀ j, inBlk ad j → w.heap.size ≤ j ∧ j < w'.heap.size) ∧ Reader w' g l p' ∧ p' ≤ p + 100 ∧ Touch (fun j => j = g) w w' ∧ ad ≠ none

def DrRel (g : Nat) (l : List Int) (p : Nat) (k : Int) (w : World) (v iv : Value) (wr : World) : Prop :=
  ∃ (i : Nat) (ad : Addr) (cap : Nat) (xs : List Rd) (p' : Nat), (i : Int) ≤ k ∧ iv = .int .i64 i ∧ v = .slice (some ad) xs.length cap ∧ xs.length ≤ cap ∧ xs.length ≤ i ∧ RdB xs ∧
    RowRz wr w.heap.size (.slice (some ad) xs.length cap) xs ∧ Reader wr g l p' ∧ p' ≤ p + 2 + 6 * i ∧ Touch (fun j => j = g) w wr

set_option maxRecDepth 100000 in
set_option maxHeartbeats 4000000 in
theorem roads91_any (g : Nat) (l : List Int) (p : Nat) (w : World) (h : Reader w g l p) (hp : p ≤ 1000) :
    Calls Try.prog 74 #[.pointer (some ⟨g, 0, none⟩)] w (DrawnRo g l p w) := by
  obtain ⟨i0, hi0, hz0, hz1, hz2⟩ := info_parts infoRz
  have hgl := h.lt
  have Hr0 := Lib.hid h
  clear h
  go_enter Try.func74, Try.ntmps74
  go_wp2_with fail
  refine (pick_any g l p 5 _ Hr0.out (by omega) (by omega)).mono ?_; rintro e w1 ⟨⟨n0, rfl, hn0, hn1⟩, hr1, hg1⟩
  have hn5 : n0 < 5 := by omega
  obtain ⟨n, hn⟩ : ∃ n, n = 2 + n0 := ⟨_, rfl⟩
  have hn2 : 2 ≤ n := by omega
  have hn6 : n ≤ 6 := by omega
  have Hn := Lib.hid hn
  clear hn1
  have HT1 := Lib.hid (Touch.grown (S := fun j => j = g) hg1 rfl)
  have hs1 := hg1.size
  have hb1 : Below w1.heap.size w1 (w1.alloc (.cells #[] 50)) := (Below.refl _ _).alloc (Nat.le_refl _) _
  have HR1 := Lib.hid (hr1.belowB hb1 hr1.lt)
  have HT1' := Lib.hid (HT1.out.belowB (hb1.mono hs1))
  have HO1 := Lib.hid (RowRz.made w1 w.heap.size hs1)
  clear hr1 hg1 hb1
  go_wp2_with fail
  refine (pick_any g l (p + 1) 10 _ HR1.out (by omega) (by omega)).mono ?_; rintro e w2 ⟨⟨k, rfl, hk0, hk1⟩, hr2, hg2⟩
  have hk9 : k < 10 := by omega
  clear hk1
  have HT2 := Lib.hid (HT1'.out.trans (Touch.grown hg2 rfl))
  have HO2 := Lib.hid (HO1.out.grown hg2 hgl)
  have HR2 := Lib.hid hr2
  clear hr2 hg2
  rw [← hn]
  clear hn hn0 hn5
  go_wp2
  go_loopw [5, 7] (fun v iv wr => DrRel g l p k w v iv wr) (fun _ i _ => 20 - (intOf i).toNat)
  case atStart => exact ⟨0, _, _, [], p + 1 + 1, by omega, rfl, rfl, Nat.le_refl _, Nat.le_refl _, RdB.nil, HO2.out, HR2.out, by omega, HT2.out⟩
  case round =>
    obtain ⟨i, ad, cap, xs, p', hik, rfl, rfl, hcap, hxi, hbd, hown, hrd, hp', htc⟩ := hrel
    have Hown := Lib.hid hown; clear hown
    have Hrd := Lib.hid hrd; clear hrd
    have Htc := Lib.hid htc; clear htc
    by_cases hgo : (i : Int) < k
    case neg =>
      have hik2 : (i : Int) = k := by omega
      clear hik hgo hk0
      by_cases hx0 : xs.length = 0
      · have hnp : ¬ 0 < xs.length := by omega
        have hnlt : ¬ (i : Int) < k := by omega
        have hx0' : xs = [] := List.eq_nil_of_length_eq_zero hx0
        have HX := Lib.hid hx0'
        have hxl : xs.length ≤ 11 := by omega
        have hi9 : i ≤ 9 := by omega
        clear hx0 hx0'
        have Hcap := Lib.hid hcap
        have Hik := Lib.hid hik2
        clear hcap hik2
        obtain ⟨ad', cap', he, _, ho, hblk⟩ := Hown.out.row
        have HOF := Lib.hid (And.intro ho hblk); clear ho hblk
        cases he
        go_wp2
        go_ret2
        exact ⟨n, _, _, xs, p', rfl, hn2, hn6, Hcap.out, by omega, hbd, HOF.out.1, HOF.out.2, Hrd.out, by omega, Htc.out, by simp⟩
      · have hpos : ((xs.length : Nat) : Int) > 0 := by omega
        have h0 : 0 < xs.length := by omega
        obtain ⟨b, hab, hB, hbl, hat, hroom⟩ := Hown.out.first h0
        injection hab with hab
        subst hab
        have hgb : g < b := by omega
        have hb0 := hbd.at0 h0
        have Hbd := Lib.hid hbd
        have Hat := Lib.hid (And.intro hat hroom)
        have hx11 : xs.length ≤ 10 := by omega
        clear hat hroom hbd
        go_wp2_with fail
        refine (pick_any g l p' 40 _ Hrd.out (by omega) (by omega)).mono ?_; rintro e wz ⟨⟨c, rfl, hc0, hc1⟩, hrz, hgz⟩
        have HTz := Lib.hid (Htc.out.trans (Touch.grown hgz rfl))
        have hOz := Hown.out.grown hgz hgl
        obtain ⟨b', hab, _, hblz, hat, hroom⟩ := hOz.first h0
        cases hab
        have Hrz := Lib.hid hrz
        obtain ⟨d0, d1, d2⟩ := hat 0 h0
        simp only [Nat.zero_mul, Nat.zero_add] at d0 d1 d2
        have f1 := hroom.2 1
        have f2 := hroom.2 2
        have HOz := Lib.hid hOz
        have Hatz := Lib.hid (And.intro hat hroom)
        have Hl1 := Lib.hid (fun (z : Int) => (show OwnRz (wz.setCell ⟨b, 1, none⟩ (.int .i64 z)) (some ⟨b, 0, none⟩) (xs.set 0 ⟨(xs.getD 0 rd0).a, z, (xs.getD 0 rd0).m⟩) from fun _ => ⟨b, rfl, by simpa using hblz, hat.put1 h0 z, by rw [List.length_set]; exact hroom.setCell _ _⟩))
        have Hset := Lib.hid (fun (z1 z2 : Int) (h1 : -1000 ≤ z1 ∧ z1 ≤ 1000) (h2 : -1000 ≤ z2 ∧ z2 ≤ 1000) => Hbd.out.set0 (r := ⟨(xs.getD 0 rd0).a, z1, z2⟩) (by dsimp only; omega))
        have hblk : ∀ w' : World, wz.heap.size ≤ w'.heap.size → ∀ j, inBlk (some ⟨b, 0, none⟩) j → w.heap.size ≤ j ∧ j < w'.heap.size := fun w' hs j hj => by obtain ⟨o, ho⟩ := hj; cases ho; exact ⟨hB, Nat.lt_of_lt_of_le hblz hs⟩
        have Hblk := Lib.hid hblk
        clear hrz hgz hOz hat hroom hc1 hblk
        have Hcap := Lib.hid hcap; clear hcap
        by_cases q0 : c = 0
        · subst q0
          have hBa : Below wz.heap.size wz (wz.alloc (.cells #[.int .i64 0, .int .i64 100, .int .i64 99] 3)) := (Below.refl _ _).alloc (Nat.le_refl _) _
          have Hra := Lib.hid (Hrz.out.belowB hBa Hrz.out.lt)
          have HTa := Lib.hid (HTz.out.belowB (hBa.mono HTz.out.size))
          have HOa := Lib.hid (RowRz.below HOz.out hBa)
          have hgz2 : g ≠ wz.heap.size := by have := Hrz.out.lt; omega
          clear hBa
          go_wp2_with fail
          refine (pick_any g l (p' + 1) 3 _ Hra.out (by omega) (by omega)).mono ?_; rintro e wy ⟨⟨d, rfl, hd0, hd1⟩, hry, hgy⟩
          have hd2 : d < 3 := by omega
          clear hd1
          have y0 : wy.cell? ⟨wz.heap.size, 0, none⟩ = some (.int .i64 0) := (World.cell?_of_block (a := ⟨wz.heap.size, 0, none⟩) (hgy.block _ (by simp) (by intro e; injection e with e; exact hgz2 e.symm))).trans (by go_simp)
          have y1 : wy.cell? ⟨wz.heap.size, 1, none⟩ = some (.int .i64 100) := (World.cell?_of_block (a := ⟨wz.heap.size, 1, none⟩) (hgy.block _ (by simp) (by intro e; injection e with e; exact hgz2 e.symm))).trans (by go_simp)
          have y2 : wy.cell? ⟨wz.heap.size, 2, none⟩ = some (.int .i64 99) := (World.cell?_of_block (a := ⟨wz.heap.size, 2, none⟩) (hgy.block _ (by simp) (by intro e; injection e with e; exact hgz2 e.symm))).trans (by go_simp)
          have hOy := HOa.out.grown hgy hgl
          obtain ⟨b', hab, _, hbly, hat, hroom⟩ := hOy.first h0
          cases hab
          obtain ⟨g0, g1, g2⟩ := hat 0 h0
          simp only [Nat.zero_mul, Nat.zero_add] at g0 g1 g2
          have k2 := hroom.2 2
          have hzy : wz.heap.size ≤ wy.heap.size := Nat.le_trans (by simp) hgy.size
          have HTy := Lib.hid (HTa.out.trans (Touch.grown hgy rfl))
          have Hry := Lib.hid hry
          have Hl2 := Lib.hid (fun (z : Int) => (show OwnRz (wy.setCell ⟨b, 2, none⟩ (.int .i64 z)) (some ⟨b, 0, none⟩) (xs.set 0 ⟨(xs.getD 0 rd0).a, (xs.getD 0 rd0).b, z⟩) from fun _ => ⟨b, rfl, by simpa using hbly, hat.put2 h0 z, by rw [List.length_set]; exact hroom.setCell _ _⟩))
          clear hry hgy hOy hat hroom d0 d1 d2 f1 f2
          rcases (by omega : d = 0 ∨ d = 1 ∨ d = 2) with rfl | rfl | rfl
          · go_wp2
            go_ret2
            exact ⟨n, some ⟨b, 0, none⟩, cap, xs.set 0 ⟨(xs.getD 0 rd0).a, (xs.getD 0 rd0).b, 0⟩, _, by rw [List.length_set]; rfl, hn2, hn6, by rw [List.length_set]; exact Hcap.out, by rw [List.length_set]; omega, Hset.out _ _ (by omega) (by omega), Hl2.out _, Hblk.out _ (by simpa using hzy), Hry.out.setFar hgb _ _, by omega, HTy.out.setNew hB _ _, by simp⟩
          · go_wp2
            go_ret2
            exact ⟨n, some ⟨b, 0, none⟩, cap, xs.set 0 ⟨(xs.getD 0 rd0).a, (xs.getD 0 rd0).b, 100⟩, _, by rw [List.length_set]; rfl, hn2, hn6, by rw [List.length_set]; exact Hcap.out, by rw [List.length_set]; omega, Hset.out _ _ (by omega) (by omega), Hl2.out _, Hblk.out _ (by simpa using hzy), Hry.out.setFar hgb _ _, by omega, HTy.out.setNew hB _ _, by simp⟩
          · go_wp2
            go_ret2
            exact ⟨n, some ⟨b, 0, none⟩, cap, xs.set 0 ⟨(xs.getD 0 rd0).a, (xs.getD 0 rd0).b, 99⟩, _, by rw [List.length_set]; rfl, hn2, hn6, by rw [List.length_set]; exact Hcap.out, by rw [List.length_set]; omega, Hset.out _ _ (by omega) (by omega), Hl2.out _, Hblk.out _ (by simpa using hzy), Hry.out.setFar hgb _ _, by omega, HTy.out.setNew hB _ _, by simp⟩
        · have q0' : (c == 0) = false := by simpa using q0
          by_cases q1 : c = 1
          · subst q1
            have hOz := HOz.out
            unfold RowRz at hOz
            have hTs := HTz.out.size
            clear f1 f2
            generalize (xs.getD 0 rd0).a = ra at *
            generalize (xs.getD 0 rd0).b = rb at *
            generalize (xs.getD 0 rd0).m = rm at *
            go_wp2_with (at_builtin; (refine wpList_append_own _ rfl _ _ 43 rfl w.heap.size 50 i0 _ 3 24 Try.underlying43 hi0 hz0 hz1 hz2 rfl (by omega) _ _ (encRz xs) rfl (World.ownsRow.alloc hOz _) ⟨wz.heap.size, 0, none⟩ 1 1 [.int .i64 ra, .int .i64 rb, .int .i64 rm] rfl rfl (World.news_of_block (cs := #[.int .i64 ra, .int .i64 rb, .int .i64 rm]) (t := 50) (fr := (0, 0)) (heap_alloc_new wz _)) (by simp [Value.oneCell']) (by simp only [maxLen]; omega) (by omega) (by simp; omega) ?_; intro v' w5 hown5 hgrow _))
            have hB5 : Below w.heap.size wz w5 := (((Below.refl _ _).alloc hTs _).grown hgrow (by simp; omega) (fun j hj => (hOz.lt j hj).1))
            have Hr5 := Lib.hid (Hrz.out.belowB hB5 hgl)
            have HT5 := Lib.hid (HTz.out.belowB hB5)
            have hown6 : RowRz w5 w.heap.size v' (xs ++ [⟨ra, rb, rm⟩]) := RowRz.snoc hown5
            obtain ⟨ad', cap', rfl, hcp, ho, hblk⟩ := hown6.row
            have HF := Lib.hid (And.intro hcp (And.intro ho hblk))
            have Hb1 := Lib.hid (Hbd.out.snoc (r := ⟨ra, rb, rm⟩) (by dsimp only; omega))
            have Hne := Lib.hid (show ad' ≠ none by obtain ⟨b', hb', _⟩ := ho (by simp); rw [hb']; simp)
            have Hxl := Lib.hid (show (xs ++ [(⟨ra, rb, rm⟩ : Rd)]).length ≤ 11 by simp; omega)
            clear hown6 hown5 hgrow hB5 hOz hcp ho hblk
            generalize xs ++ [(⟨ra, rb, rm⟩ : Rd)] = ys at *
            go_wp2
            go_ret2
            exact ⟨n, _, _, ys, _, rfl, hn2, hn6, HF.out.1, Hxl.out, Hb1.out, HF.out.2.1, HF.out.2.2, Hr5.out, by omega, HT5.out, Hne.out⟩
          · have q1' : (c == 1) = false := by simpa using q1
            by_cases q2 : c = 2
            · subst q2
              clear q0 q1
              go_wp2
              go_ret2
              exact ⟨n, some ⟨b, 0, none⟩, cap, xs.set 0 ⟨(xs.getD 0 rd0).a, n, (xs.getD 0 rd0).m⟩, _, by rw [List.length_set]; rfl, hn2, hn6, by rw [List.length_set]; exact Hcap.out, by rw [List.length_set]; omega, Hset.out _ _ (by omega) (by omega), Hl1.out _, Hblk.out _ (by simp), Hrz.out.setFar hgb _ _, by omega, HTz.out.setNew hB _ _, by simp⟩
            · have q2' : (c == 2) = false := by simpa using q2
              clear q0 q1 q2
              go_wp2
              go_ret2
              exact ⟨n, _, _, xs, _, rfl, hn2, hn6, Hcap.out, by omega, Hbd.out, fun _ => ⟨b, rfl, hblz, Hatz.out.1, Hatz.out.2⟩, Hblk.out _ (Nat.le_refl _), Hrz.out, by omega, HTz.out, by simp⟩
    go_wp2_with fail
    refine (pick_any g l p' n _ Hrd.out (by omega) (by omega)).mono ?_; rintro e w3 ⟨⟨a, rfl, ha0, ha1⟩, hr_, hg_⟩
    have ha2 : a < n := by omega
    clear ha1
    have HT3 := Lib.hid (Htc.out.trans (Touch.grown hg_ rfl))
    have HO3 := Lib.hid (Hown.out.grown hg_ hgl)
    have HR3 := Lib.hid hr_
    clear hr_ hg_
    go_wp2_with fail
    refine (pick_any g l (p' + 1) n _ HR3.out (by omega) (by omega)).mono ?_; rintro e w4 ⟨⟨b, rfl, hb0, hb1⟩, hr_, hg_⟩
    have hb2 : b < n := by omega
    clear hb1
    have HT4 := Lib.hid (HT3.out.trans (Touch.grown hg_ rfl))
    have HO4 := Lib.hid (HO3.out.grown hg_ hgl)
    have HR4 := Lib.hid hr_
    clear hr_ hg_
    by_cases hin1 : (i : Int) + 1 < n
    · go_wp2_with fail
      refine (pick_any g l (p' + 1 + 1) 3 _ HR4.out (by omega) (by omega)).mono ?_; rintro e w5 ⟨⟨c, rfl, hc0, hc1⟩, hr_, hg_⟩
      have hc2 : c < 3 := by omega
      clear hc1
      have HT5 := Lib.hid (HT4.out.trans (Touch.grown hg_ rfl))
      have HO5 := Lib.hid (HO4.out.grown hg_ hgl)
      have HR5 := Lib.hid hr_
      clear hr_ hg_
      rcases (by omega : c = 0 ∨ 0 < c) with hc | hc
      · subst hc
        rcases (by omega : (a < b ∧ ¬ b < a ∧ a ≤ b ∧ ¬ b ≤ a) ∨ (b < a ∧ ¬ a < b ∧ b ≤ a ∧ ¬ a ≤ b) ∨ a = b) with ⟨c1, c2, c3, c4⟩ | ⟨c1, c2, c3, c4⟩ | c1
        · go_wp2_with fail
          refine (pick_any g l (p' + 1 + 1 + 1) 6 _ HR5.out (by omega) (by omega)).mono ?_; rintro e wm ⟨⟨m1, rfl, hm10, hm11⟩, hr_, hg_⟩
          have hm12 : m1 < 6 := by omega
          clear hm11
          have HTm := Lib.hid (HT5.out.trans (Touch.grown hg_ rfl))
          have HOm := Lib.hid (HO5.out.grown hg_ hgl)
          have HRm := Lib.hid hr_
          clear hr_ hg_
          go_wp2_with fail
          refine (pick_any g l (p' + 1 + 1 + 1 + 1) 3 _ HRm.out (by omega) (by omega)).mono ?_; rintro e wn ⟨⟨m2, rfl, hm20, hm21⟩, hr_, hg_⟩
          have hm22 : m2 < 3 := by omega
          clear hm21
          have HTn := Lib.hid (HTm.out.trans (Touch.grown hg_ rfl))
          have HOn := Lib.hid (HOm.out.grown hg_ hgl)
          have HRn := Lib.hid hr_
          clear hr_ hg_
          have hp0 : 0 ≤ m1 * (1 + m2) := Int.mul_nonneg hm10 (by omega)
          have hp1 : m1 * (1 + m2) ≤ 15 := by
            have h1 : m1 * (1 + m2) ≤ 5 * (1 + m2) := Int.mul_le_mul_of_nonneg_right (by omega) (by omega)
            omega
          have hwp : wrap64 (m1 * (1 + m2)) = m1 * (1 + m2) := wrap64_ok (by omega) (by omega)
          have Hadd := Lib.hid (fun w' (h : RowRz w' w.heap.size (.slice (some ad) xs.length cap) xs) => radd1_any n ad cap xs ⟨a, b, 1 + m1 * (1 + m2)⟩ w' (h.inR hcap) (by omega))
          have HBd := Lib.hid (addR_bd (n := n) hbd (show -1000 ≤ a ∧ a ≤ 1000 ∧ -1000 ≤ b ∧ b ≤ 1000 ∧ -1000 ≤ 1 + m1 * (1 + m2) ∧ 1 + m1 * (1 + m2) ≤ 1000 by omega))
          have Hlen := Lib.hid (addR_len n xs ⟨a, b, 1 + m1 * (1 + m2)⟩)
          generalize addR n xs ⟨a, b, 1 + m1 * (1 + m2)⟩ = ys at *
          generalize addROk n xs ⟨a, b, 1 + m1 * (1 + m2)⟩ = ok at *
          go_wp2_with fail
          refine (Hadd.out _ HOn.out).mono ?_; rintro e wq ⟨ad2, cap2, rfl, hcap2, hrow2, hb2⟩
          have hBq := hb2.mono HTn.out.size
          have HTq := Lib.hid (HTn.out.belowB hBq)
          have HRq := Lib.hid (HRn.out.belowB hb2 HRn.out.lt)
          have HOq := Lib.hid (RowRz.below HOn.out hb2)
          have HYq := Lib.hid (hrow2.mono HTn.out.size)
          clear hrow2 hb2 hBq
          cases ok with
          | false =>
            go_wp2
            exact ⟨⟨i + 1, ad, cap, xs, _, by omega, by go_num, rfl, hcap, by omega, hbd, HOq.out, HRq.out, by omega, HTq.out⟩, by simp [intOf]; omega⟩
          | true =>
            go_wp2
            exact ⟨⟨i + 1, ad2, cap2, ys, _, by omega, by go_num, rfl, hcap2, by have := Hlen.out; omega, HBd.out, HYq.out, HRq.out, by omega, HTq.out⟩, by simp [intOf]; omega⟩
        · go_wp2_with fail
          refine (pick_any g l (p' + 1 + 1 + 1) 6 _ HR5.out (by omega) (by omega)).mono ?_; rintro e wm ⟨⟨m1, rfl, hm10, hm11⟩, hr_, hg_⟩
          have hm12 : m1 < 6 := by omega
          clear hm11
          have HTm := Lib.hid (HT5.out.trans (Touch.grown hg_ rfl))
          have HOm := Lib.hid (HO5.out.grown hg_ hgl)
          have HRm := Lib.hid hr_
          clear hr_ hg_
          go_wp2_with fail
          refine (pick_any g l (p' + 1 + 1 + 1 + 1) 3 _ HRm.out (by omega) (by omega)).mono ?_; rintro e wn ⟨⟨m2, rfl, hm20, hm21⟩, hr_, hg_⟩
          have hm22 : m2 < 3 := by omega
          clear hm21
          have HTn := Lib.hid (HTm.out.trans (Touch.grown hg_ rfl))
          have HOn := Lib.hid (HOm.out.grown hg_ hgl)
          have HRn := Lib.hid hr_
          clear hr_ hg_
          have hp0 : 0 ≤ m1 * (1 + m2) := Int.mul_nonneg hm10 (by omega)
          have hp1 : m1 * (1 + m2) ≤ 15 := by
            have h1 : m1 * (1 + m2) ≤ 5 * (1 + m2) := Int.mul_le_mul_of_nonneg_right (by omega) (by omega)
            omega
          have hwp : wrap64 (m1 * (1 + m2)) = m1 * (1 + m2) := wrap64_ok (by omega) (by omega)
          have Hadd := Lib.hid (fun w' (h : RowRz w' w.heap.size (.slice (some ad) xs.length cap) xs) => radd1_any n ad cap xs ⟨b, a, 1 + m1 * (1 + m2)⟩ w' (h.inR hcap) (by omega))
          have HBd := Lib.hid (addR_bd (n := n) hbd (show -1000 ≤ b ∧ b ≤ 1000 ∧ -1000 ≤ a ∧ a ≤ 1000 ∧ -1000 ≤ 1 + m1 * (1 + m2) ∧ 1 + m1 * (1 + m2) ≤ 1000 by omega))
          have Hlen := Lib.hid (addR_len n xs ⟨b, a, 1 + m1 * (1 + m2)⟩)
          generalize addR n xs ⟨b, a, 1 + m1 * (1 + m2)⟩ = ys at *
          generalize addROk n xs ⟨b, a, 1 + m1 * (1 + m2)⟩ = ok at *
          go_wp2_with fail
          refine (Hadd.out _ HOn.out).mono ?_; rintro e wq ⟨ad2, cap2, rfl, hcap2, hrow2, hb2⟩
          have hBq := hb2.mono HTn.out.size
          have HTq := Lib.hid (HTn.out.belowB hBq)
          have HRq := Lib.hid (HRn.out.belowB hb2 HRn.out.lt)
          have HOq := Lib.hid (RowRz.below HOn.out hb2)
          have HYq := Lib.hid (hrow2.mono HTn.out.size)
          clear hrow2 hb2 hBq
          cases ok with
          | false =>
            go_wp2
            exact ⟨⟨i + 1, ad, cap, xs, _, by omega, by go_num, rfl, hcap, by omega, hbd, HOq.out, HRq.out, by omega, HTq.out⟩, by simp [intOf]; omega⟩
          | true =>
            go_wp2
            exact ⟨⟨i + 1, ad2, cap2, ys, _, by omega, by go_num, rfl, hcap2, by have := Hlen.out; omega, HBd.out, HYq.out, HRq.out, by omega, HTq.out⟩, by simp [intOf]; omega⟩
        · subst c1
          go_wp2_with fail
          refine (pick_any g l (p' + 1 + 1 + 1) 6 _ HR5.out (by omega) (by omega)).mono ?_; rintro e wm ⟨⟨m1, rfl, hm10, hm11⟩, hr_, hg_⟩
          have hm12 : m1 < 6 := by omega
          clear hm11
          have HTm := Lib.hid (HT5.out.trans (Touch.grown hg_ rfl))
          have HOm := Lib.hid (HO5.out.grown hg_ hgl)
          have HRm := Lib.hid hr_
          clear hr_ hg_
          go_wp2_with fail
          refine (pick_any g l (p' + 1 + 1 + 1 + 1) 3 _ HRm.out (by omega) (by omega)).mono ?_; rintro e wn ⟨⟨m2, rfl, hm20, hm21⟩, hr_, hg_⟩
          have hm22 : m2 < 3 := by omega
          clear hm21
          have HTn := Lib.hid (HTm.out.trans (Touch.grown hg_ rfl))
          have HOn := Lib.hid (HOm.out.grown hg_ hgl)
          have HRn := Lib.hid hr_
          clear hr_ hg_
          have hp0 : 0 ≤ m1 * (1 + m2) := Int.mul_nonneg hm10 (by omega)
          have hp1 : m1 * (1 + m2) ≤ 15 := by
            have h1 : m1 * (1 + m2) ≤ 5 * (1 + m2) := Int.mul_le_mul_of_nonneg_right (by omega) (by omega)
            omega
          have hwp : wrap64 (m1 * (1 + m2)) = m1 * (1 + m2) := wrap64_ok (by omega) (by omega)
          have Hadd := Lib.hid (fun w' (h : RowRz w' w.heap.size (.slice (some ad) xs.length cap) xs) => radd1_any n ad cap xs ⟨a, a, 1 + m1 * (1 + m2)⟩ w' (h.inR hcap) (by omega))
          have HBd := Lib.hid (addR_bd (n := n) hbd (show -1000 ≤ a ∧ a ≤ 1000 ∧ -1000 ≤ a ∧ a ≤ 1000 ∧ -1000 ≤ 1 + m1 * (1 + m2) ∧ 1 + m1 * (1 + m2) ≤ 1000 by omega))
          have Hlen := Lib.hid (addR_len n xs ⟨a, a, 1 + m1 * (1 + m2)⟩)
          generalize addR n xs ⟨a, a, 1 + m1 * (1 + m2)⟩ = ys at *
          generalize addROk n xs ⟨a, a, 1 + m1 * (1 + m2)⟩ = ok at *
          go_wp2_with fail
          refine (Hadd.out _ HOn.out).mono ?_; rintro e wq ⟨ad2, cap2, rfl, hcap2, hrow2, hb2⟩
          have hBq := hb2.mono HTn.out.size
          have HTq := Lib.hid (HTn.out.belowB hBq)
          have HRq := Lib.hid (HRn.out.belowB hb2 HRn.out.lt)
          have HOq := Lib.hid (RowRz.below HOn.out hb2)
          have HYq := Lib.hid (hrow2.mono HTn.out.size)
          clear hrow2 hb2 hBq
          cases ok with
          | false =>
            go_wp2
            exact ⟨⟨i + 1, ad, cap, xs, _, by omega, by go_num, rfl, hcap, by omega, hbd, HOq.out, HRq.out, by omega, HTq.out⟩, by simp [intOf]; omega⟩
          | true =>
            go_wp2
            exact ⟨⟨i + 1, ad2, cap2, ys, _, by omega, by go_num, rfl, hcap2, by have := Hlen.out; omega, HBd.out, HYq.out, HRq.out, by omega, HTq.out⟩, by simp [intOf]; omega⟩
      · have hc' : c > 0 := hc
        go_wp2_with fail
        refine (pick_any g l (p' + 1 + 1 + 1) ((i : Int) + 1) _ HR5.out (by omega) (by omega)).mono ?_; rintro e w6 ⟨⟨d, rfl, hd0, hd1⟩, hr_, hg_⟩
        have hd2 : d < (i : Int) + 1 := by omega
        clear hd1
        have HT6 := Lib.hid (HT5.out.trans (Touch.grown hg_ rfl))
        have HO6 := Lib.hid (HO5.out.grown hg_ hgl)
        have HR6 := Lib.hid hr_
        clear hr_ hg_
        have c1 : d < (i : Int) + 1 := hd2
        have c2 : ¬ (i : Int) + 1 < d := by omega
        have c3 : d ≤ (i : Int) + 1 := by omega
        have c4 : ¬ (i : Int) + 1 ≤ d := by omega
        go_wp2_with fail
        refine (pick_any g l (p' + 1 + 1 + 1 + 1) 6 _ HR6.out (by omega) (by omega)).mono ?_; rintro e wm ⟨⟨m1, rfl, hm10, hm11⟩, hr_, hg_⟩
        have hm12 : m1 < 6 := by omega
        clear hm11
        have HTm := Lib.hid (HT6.out.trans (Touch.grown hg_ rfl))
        have HOm := Lib.hid (HO6.out.grown hg_ hgl)
        have HRm := Lib.hid hr_
        clear hr_ hg_
        go_wp2_with fail
        refine (pick_any g l (p' + 1 + 1 + 1 + 1 + 1) 3 _ HRm.out (by omega) (by omega)).mono ?_; rintro e wn ⟨⟨m2, rfl, hm20, hm21⟩, hr_, hg_⟩
        have hm22 : m2 < 3 := by omega
        clear hm21
        have HTn := Lib.hid (HTm.out.trans (Touch.grown hg_ rfl))
        have HOn := Lib.hid (HOm.out.grown hg_ hgl)
        have HRn := Lib.hid hr_
        clear hr_ hg_
        have hp0 : 0 ≤ m1 * (1 + m2) := Int.mul_nonneg hm10 (by omega)
        have hp1 : m1 * (1 + m2) ≤ 15 := by
          have h1 : m1 * (1 + m2) ≤ 5 * (1 + m2) := Int.mul_le_mul_of_nonneg_right (by omega) (by omega)
          omega
        have hwp : wrap64 (m1 * (1 + m2)) = m1 * (1 + m2) := wrap64_ok (by omega) (by omega)
        have Hadd := Lib.hid (fun w' (h : RowRz w' w.heap.size (.slice (some ad) xs.length cap) xs) => radd1_any n ad cap xs ⟨d, ((i : Int) + 1), 1 + m1 * (1 + m2)⟩ w' (h.inR hcap) (by omega))
        have HBd := Lib.hid (addR_bd (n := n) hbd (show -1000 ≤ d ∧ d ≤ 1000 ∧ -1000 ≤ ((i : Int) + 1) ∧ ((i : Int) + 1) ≤ 1000 ∧ -1000 ≤ 1 + m1 * (1 + m2) ∧ 1 + m1 * (1 + m2) ≤ 1000 by omega))
        have Hlen := Lib.hid (addR_len n xs ⟨d, ((i : Int) + 1), 1 + m1 * (1 + m2)⟩)
        generalize addR n xs ⟨d, ((i : Int) + 1), 1 + m1 * (1 + m2)⟩ = ys at *
        generalize addROk n xs ⟨d, ((i : Int) + 1), 1 + m1 * (1 + m2)⟩ = ok at *
        go_wp2_with fail
        refine (Hadd.out _ HOn.out).mono ?_; rintro e wq ⟨ad2, cap2, rfl, hcap2, hrow2, hb2⟩
        have hBq := hb2.mono HTn.out.size
        have HTq := Lib.hid (HTn.out.belowB hBq)
        have HRq := Lib.hid (HRn.out.belowB hb2 HRn.out.lt)
        have HOq := Lib.hid (RowRz.below HOn.out hb2)
        have HYq := Lib.hid (hrow2.mono HTn.out.size)
        clear hrow2 hb2 hBq
        cases ok with
        | false =>
          go_wp2
          exact ⟨⟨i + 1, ad, cap, xs, _, by omega, by go_num, rfl, hcap, by omega, hbd, HOq.out, HRq.out, by omega, HTq.out⟩, by simp [intOf]; omega⟩
        | true =>
          go_wp2
          exact ⟨⟨i + 1, ad2, cap2, ys, _, by omega, by go_num, rfl, hcap2, by have := Hlen.out; omega, HBd.out, HYq.out, HRq.out, by omega, HTq.out⟩, by simp [intOf]; omega⟩
    · rcases (by omega : (a < b ∧ ¬ b < a ∧ a ≤ b ∧ ¬ b ≤ a) ∨ (b < a ∧ ¬ a < b ∧ b ≤ a ∧ ¬ a ≤ b) ∨ a = b) with ⟨c1, c2, c3, c4⟩ | ⟨c1, c2, c3, c4⟩ | c1
      · go_wp2_with fail
        refine (pick_any g l (p' + 1 + 1) 6 _ HR4.out (by omega) (by omega)).mono ?_; rintro e wm ⟨⟨m1, rfl, hm10, hm11⟩, hr_, hg_⟩
        have hm12 : m1 < 6 := by omega
        clear hm11
        have HTm := Lib.hid (HT4.out.trans (Touch.grown hg_ rfl))
        have HOm := Lib.hid (HO4.out.grown hg_ hgl)
        have HRm := Lib.hid hr_
        clear hr_ hg_
        go_wp2_with fail
        refine (pick_any g l (p' + 1 + 1 + 1) 3 _ HRm.out (by omega) (by omega)).mono ?_; rintro e wn ⟨⟨m2, rfl, hm20, hm21⟩, hr_, hg_⟩
        have hm22 : m2 < 3 := by omega
        clear hm21
        have HTn := Lib.hid (HTm.out.trans (Touch.grown hg_ rfl))
        have HOn := Lib.hid (HOm.out.grown hg_ hgl)
        have HRn := Lib.hid hr_
        clear hr_ hg_
        have hp0 : 0 ≤ m1 * (1 + m2) := Int.mul_nonneg hm10 (by omega)
        have hp1 : m1 * (1 + m2) ≤ 15 := by
          have h1 : m1 * (1 + m2) ≤ 5 * (1 + m2) := Int.mul_le_mul_of_nonneg_right (by omega) (by omega)
          omega
        have hwp : wrap64 (m1 * (1 + m2)) = m1 * (1 + m2) := wrap64_ok (by omega) (by omega)
        have Hadd := Lib.hid (fun w' (h : RowRz w' w.heap.size (.slice (some ad) xs.length cap) xs) => radd1_any n ad cap xs ⟨a, b, 1 + m1 * (1 + m2)⟩ w' (h.inR hcap) (by omega))
        have HBd := Lib.hid (addR_bd (n := n) hbd (show -1000 ≤ a ∧ a ≤ 1000 ∧ -1000 ≤ b ∧ b ≤ 1000 ∧ -1000 ≤ 1 + m1 * (1 + m2) ∧ 1 + m1 * (1 + m2) ≤ 1000 by omega))
        have Hlen := Lib.hid (addR_len n xs ⟨a, b, 1 + m1 * (1 + m2)⟩)
        generalize addR n xs ⟨a, b, 1 + m1 * (1 + m2)⟩ = ys at *
        generalize addROk n xs ⟨a, b, 1 + m1 * (1 + m2)⟩ = ok at *
        go_wp2_with fail
        refine (Hadd.out _ HOn.out).mono ?_; rintro e wq ⟨ad2, cap2, rfl, hcap2, hrow2, hb2⟩
        have hBq := hb2.mono HTn.out.size
        have HTq := Lib.hid (HTn.out.belowB hBq)
        have HRq := Lib.hid (HRn.out.belowB hb2 HRn.out.lt)
        have HOq := Lib.hid (RowRz.below HOn.out hb2)
        have HYq := Lib.hid (hrow2.mono HTn.out.size)
        clear hrow2 hb2 hBq
        cases ok with
        | false =>
          go_wp2
          exact ⟨⟨i + 1, ad, cap, xs, _, by omega, by go_num, rfl, hcap, by omega, hbd, HOq.out, HRq.out, by omega, HTq.out⟩, by simp [intOf]; omega⟩
        | true =>
          go_wp2
          exact ⟨⟨i + 1, ad2, cap2, ys, _, by omega, by go_num, rfl, hcap2, by have := Hlen.out; omega, HBd.out, HYq.out, HRq.out, by omega, HTq.out⟩, by simp [intOf]; omega⟩
      · go_wp2_with fail
        refine (pick_any g l (p' + 1 + 1) 6 _ HR4.out (by omega) (by omega)).mono ?_; rintro e wm ⟨⟨m1, rfl, hm10, hm11⟩, hr_, hg_⟩
        have hm12 : m1 < 6 := by omega
        clear hm11
        have HTm := Lib.hid (HT4.out.trans (Touch.grown hg_ rfl))
        have HOm := Lib.hid (HO4.out.grown hg_ hgl)
        have HRm := Lib.hid hr_
        clear hr_ hg_
        go_wp2_with fail
        refine (pick_any g l (p' + 1 + 1 + 1) 3 _ HRm.out (by omega) (by omega)).mono ?_; rintro e wn ⟨⟨m2, rfl, hm20, hm21⟩, hr_, hg_⟩
        have hm22 : m2 < 3 := by omega
        clear hm21
        have HTn := Lib.hid (HTm.out.trans (Touch.grown hg_ rfl))
        have HOn := Lib.hid (HOm.out.grown hg_ hgl)
        have HRn := Lib.hid hr_
        clear hr_ hg_
        have hp0 : 0 ≤ m1 * (1 + m2) := Int.mul_nonneg hm10 (by omega)
        have hp1 : m1 * (1 + m2) ≤ 15 := by
          have h1 : m1 * (1 + m2) ≤ 5 * (1 + m2) := Int.mul_le_mul_of_nonneg_right (by omega) (by omega)
          omega
        have hwp : wrap64 (m1 * (1 + m2)) = m1 * (1 + m2) := wrap64_ok (by omega) (by omega)
        have Hadd := Lib.hid (fun w' (h : RowRz w' w.heap.size (.slice (some ad) xs.length cap) xs) => radd1_any n ad cap xs ⟨b, a, 1 + m1 * (1 + m2)⟩ w' (h.inR hcap) (by omega))
        have HBd := Lib.hid (addR_bd (n := n) hbd (show -1000 ≤ b ∧ b ≤ 1000 ∧ -1000 ≤ a ∧ a ≤ 1000 ∧ -1000 ≤ 1 + m1 * (1 + m2) ∧ 1 + m1 * (1 + m2) ≤ 1000 by omega))
        have Hlen := Lib.hid (addR_len n xs ⟨b, a, 1 + m1 * (1 + m2)⟩)
        generalize addR n xs ⟨b, a, 1 + m1 * (1 + m2)⟩ = ys at *
        generalize addROk n xs ⟨b, a, 1 + m1 * (1 + m2)⟩ = ok at *
        go_wp2_with fail
        refine (Hadd.out _ HOn.out).mono ?_; rintro e wq ⟨ad2, cap2, rfl, hcap2, hrow2, hb2⟩
        have hBq := hb2.mono HTn.out.size
        have HTq := Lib.hid (HTn.out.belowB hBq)
        have HRq := Lib.hid (HRn.out.belowB hb2 HRn.out.lt)
        have HOq := Lib.hid (RowRz.below HOn.out hb2)
        have HYq := Lib.hid (hrow2.mono HTn.out.size)
        clear hrow2 hb2 hBq
        cases ok with
        | false =>
          go_wp2
          exact ⟨⟨i + 1, ad, cap, xs, _, by omega, by go_num, rfl, hcap, by omega, hbd, HOq.out, HRq.out, by omega, HTq.out⟩, by simp [intOf]; omega⟩
        | true =>
          go_wp2
          exact ⟨⟨i + 1, ad2, cap2, ys, _, by omega, by go_num, rfl, hcap2, by have := Hlen.out; omega, HBd.out, HYq.out, HRq.out, by omega, HTq.out⟩, by simp [intOf]; omega⟩
      · subst c1
        go_wp2_with fail
        refine (pick_any g l (p' + 1 + 1) 6 _ HR4.out (by omega) (by omega)).mono ?_; rintro e wm ⟨⟨m1, rfl, hm10, hm11⟩, hr_, hg_⟩
        have hm12 : m1 < 6 := by omega
        clear hm11
        have HTm := Lib.hid (HT4.out.trans (Touch.grown hg_ rfl))
        have HOm := Lib.hid (HO4.out.grown hg_ hgl)
        have HRm := Lib.hid hr_
        clear hr_ hg_
        go_wp2_with fail
        refine (pick_any g l (p' + 1 + 1 + 1) 3 _ HRm.out (by omega) (by omega)).mono ?_; rintro e wn ⟨⟨m2, rfl, hm20, hm21⟩, hr_, hg_⟩
        have hm22 : m2 < 3 := by omega
        clear hm21
        have HTn := Lib.hid (HTm.out.trans (Touch.grown hg_ rfl))
        have HOn := Lib.hid (HOm.out.grown hg_ hgl)
        have HRn := Lib.hid hr_
        clear hr_ hg_
        have hp0 : 0 ≤ m1 * (1 + m2) := Int.mul_nonneg hm10 (by omega)
        have hp1 : m1 * (1 + m2) ≤ 15 := by
          have h1 : m1 * (1 + m2) ≤ 5 * (1 + m2) := Int.mul_le_mul_of_nonneg_right (by omega) (by omega)
          omega
        have hwp : wrap64 (m1 * (1 + m2)) = m1 * (1 + m2) := wrap64_ok (by omega) (by omega)
        have Hadd := Lib.hid (fun w' (h : RowRz w' w.heap.size (.slice (some ad) xs.length cap) xs) => radd1_any n ad cap xs ⟨a, a, 1 + m1 * (1 + m2)⟩ w' (h.inR hcap) (by omega))
        have HBd := Lib.hid (addR_bd (n := n) hbd (show -1000 ≤ a ∧ a ≤ 1000 ∧ -1000 ≤ a ∧ a ≤ 1000 ∧ -1000 ≤ 1 + m1 * (1 + m2) ∧ 1 + m1 * (1 + m2) ≤ 1000 by omega))
        have Hlen := Lib.hid (addR_len n xs ⟨a, a, 1 + m1 * (1 + m2)⟩)
        generalize addR n xs ⟨a, a, 1 + m1 * (1 + m2)⟩ = ys at *
        generalize addROk n xs ⟨a, a, 1 + m1 * (1 + m2)⟩ = ok at *
        go_wp2_with fail
        refine (Hadd.out _ HOn.out).mono ?_; rintro e wq ⟨ad2, cap2, rfl, hcap2, hrow2, hb2⟩
        have hBq := hb2.mono HTn.out.size
        have HTq := Lib.hid (HTn.out.belowB hBq)
        have HRq := Lib.hid (HRn.out.belowB hb2 HRn.out.lt)
        have HOq := Lib.hid (RowRz.below HOn.out hb2)
        have HYq := Lib.hid (hrow2.mono HTn.out.size)
        clear hrow2 hb2 hBq
        cases ok with
        | false =>
          go_wp2
          exact ⟨⟨i + 1, ad, cap, xs, _, by omega, by go_num, rfl, hcap, by omega, hbd, HOq.out, HRq.out, by omega, HTq.out⟩, by simp [intOf]; omega⟩
        | true =>
          go_wp2
          exact ⟨⟨i + 1, ad2, cap2, ys, _, by omega, by go_num, rfl, hcap2, by have := Hlen.out; omega, HBd.out, HYq.out, HRq.out, by omega, HTq.out⟩, by simp [intOf]; omega⟩

end Go.Proofs.Ytfdaaeapfeajjaa
