/- Draws: a road in parts and two miles (l92Mile), DrawPartsSell, DrawShareRide. -/
import Derived.Test.YthdkjjfnockldaaDPA
import Derived.Test.YthdkjjfnockldaaDPO
import Derived.Test.YthdkjjfnockldaaHD
namespace Go.Proofs.Ythdkjjfnockldaa
open Go.RowKit

def litM (x y : Int) (k : Nat) : Int := if k = 0 then x else y
theorem litM_at (w : World) (x y : Int) (k : Nat) (h : k < 2) : (w.alloc (.cells #[.int .i64 x, .int .i64 y] 3)).cell? ⟨w.heap.size, k, none⟩ = some (.int .i64 (litM x y k)) := by
  rcases (show k = 0 ∨ k = 1 by omega) with rfl | rfl <;> simp [litM]
theorem litM_bd {x y : Int} (hx : 0 ≤ x ∧ x ≤ 3000) (hy : 0 ≤ y ∧ y ≤ 3000) (k : Nat) : 0 ≤ litM x y k ∧ litM x y k ≤ 3000 := by
  unfold litM; split <;> omega
def DrawnMi (g : Nat) (l : List Int) (p : Nat) (w : World) (e : Ending) (w' : World) : Prop :=
  ∃ (ad : Option Addr) (cap : Nat) (xs : List Pt) (f t : Int) (p' : Nat), e = .returned (.tuple #[.slice ad xs.length cap, .int .i64 f, .int .i64 t]) ∧ xs.length ≤ cap ∧ xs.length ≤ 8 ∧ OwnPt w' ad xs ∧
    (∀ j, inBlk ad j → w.heap.size ≤ j ∧ j < w'.heap.size) ∧ 0 ≤ f ∧ f ≤ 2000 ∧ 0 ≤ t ∧ t ≤ 3000 ∧ Reader w' g l p' ∧ p' ≤ p + 44 ∧ Touch (fun j => j = g) w w'

set_option maxRecDepth 100000 in
set_option maxHeartbeats 2000000 in
theorem mile92_any (g : Nat) (l : List Int) (p : Nat) (w : World) (h : Reader w g l p) (hp : p ≤ 1000) :
    Calls Try.prog 67 #[.pointer (some ⟨g, 0, none⟩)] w (DrawnMi g l p w) := by
  have hgl := h.lt
  have H := Lib.hid h; clear h
  go_enter Try.func67, Try.ntmps67
  go_wp2_with fail
  refine (parts92_any g l p _ H.out (by omega)).mono ?_; rintro e w1 ⟨ad, cap, xs, p', rfl, hcp, hx8, hown, hblk, hr1, hp', htt⟩
  have hpp : p' ≤ p + 40 := by omega
  have hp9 : p' ≤ 2000 := by omega
  have hx : xs.length ≤ 1048576 := by omega
  have HO1 := Lib.hid (And.intro hown hblk)
  have HR1 := Lib.hid hr1
  have HT1 := Lib.hid htt
  have HP1 := Lib.hid (hown.ins hcp)
  have HE := Lib.hid (show ∀ (f t : Int) (q : Nat) (w' : World), (0 ≤ f ∧ f ≤ 2000) → (0 ≤ t ∧ t ≤ 3000) → Reader w' g l q → q ≤ p + 44 → Touch (fun j => j = g) w1 w' → DrawnMi g l p w (.returned (.tuple #[.slice ad xs.length cap, .int .i64 f, .int .i64 t])) w' from
    fun f t q w' hf ht hr hq htt' => ⟨ad, cap, xs, f, t, q, rfl, hcp, hx8, hown.touch htt' (fun j hj e => by have := (hblk j hj).1; omega), fun j hj => ⟨(hblk j hj).1, Nat.lt_of_lt_of_le (hblk j hj).2 htt'.size⟩, hf.1, hf.2, ht.1, ht.2, hr, hq, htt.trans htt'⟩)
  clear hown hblk hr1 htt hp' hcp hx8
  go_wp2_with fail
  refine (len1_any _ xs _ HP1.out hx).mono ?_; rintro e w2 ⟨rfl, hb2⟩
  have HR2 := Lib.hid (HR1.out.belowB hb2 HR1.out.lt)
  have HT2 := Lib.hid (Touch.of_below (S := fun j => j = g) hb2)
  clear hb2 HP1 HR1 HO1 HT1
  have hlx := lenX_bd xs
  obtain ⟨n, hn0, hn1, hn⟩ : ∃ n : Int, 1 ≤ n ∧ n ≤ 1188 ∧ n = max 1 (lenX xs) := ⟨_, by omega, by omega, rfl⟩
  go_wp2_with fail
  rw [← hn]
  have Hn := Lib.hid hn
  clear hn hlx
  refine (pick_any g l p' n _ HR2.out (by omega) (by omega)).mono ?_; rintro e w3 ⟨⟨f, rfl, hf0, hf1⟩, hr3, hg3⟩
  have hfn : f < n := by omega
  have HR3 := Lib.hid hr3
  have HT3 := Lib.hid (HT2.out.trans (Touch.grown hg3 rfl))
  clear hr3 hg3 hf1 HR2 HT2
  go_wp2_with fail
  refine (pick_any g l (p' + 1) 20 _ HR3.out (by omega) (by omega)).mono ?_; rintro e w4 ⟨⟨z, rfl, hz0, hz1⟩, hr4, hg4⟩
  have HR4 := Lib.hid hr4
  have HT := Lib.hid (HT3.out.trans (Touch.grown hg4 rfl))
  clear hr4 hg4 hz1 HR3 HT3
  by_cases q : z = 0
  · subst q
    obtain ⟨n1, hwn⟩ : ∃ n1, IntKind.i64.wrap (n + 1) = n1 := ⟨_, rfl⟩
    have hn1b : 0 ≤ n1 ∧ n1 ≤ 3000 := by have h := IntWalk.i64_in (n + 1) (by omega); rw [hwn] at h; omega
    have HK0 := Lib.hid (And.intro (HR4.out.belowB ((Below.refl _ _).drew) HR4.out.lt) (And.intro (Touch.of_below (S := fun j => j = g) ((Below.refl w4.heap.size w4).drew)) True.intro))
    go_wp2_with fail
    refine wp_region_any (by kernel_rfl) ?_
    change wpAny _ _ _ _ 13 #[false, false, false, false, false, false, false, false, false, false, false, false, false] _ (World.drew _)
    refine with_Q (fun _ _ _ _ _ h => h) (fun Q hQ hN => ?_)
    generalize World.drew (w4) = w0 at *
    refine take_op (i := 0) (d := 19) (v := .slice ad xs.length cap) rfl rfl (by kernel_rfl) (by kernel_rfl) (by kernel_rfl) hQ (Or.inl ⟨by rfl, fun _ => by first | rfl | (go_simp; done) | (go_simp; rfl) | (go_simp; exact hwn) | (go_simp; rw [← hwn]; done)⟩) ?_
    simp only [Act.put, List.setIfInBounds_toArray, List.set_cons_zero, List.set_cons_succ]
    refine take_op (i := 1) (d := 20) (v := .int .i64 f) rfl rfl (by kernel_rfl) (by kernel_rfl) (by kernel_rfl) hQ (Or.inl ⟨by rfl, fun _ => by first | rfl | (go_simp; done) | (go_simp; rfl) | (go_simp; exact hwn) | (go_simp; rw [← hwn]; done)⟩) ?_
    simp only [Act.put, List.setIfInBounds_toArray, List.set_cons_zero, List.set_cons_succ]
    refine take_op (i := 2) (d := 21) (v := .int .i64 f) rfl rfl (by kernel_rfl) (by kernel_rfl) (by kernel_rfl) hQ (Or.inl ⟨by rfl, fun _ => by first | rfl | (go_simp; done) | (go_simp; rfl) | (go_simp; exact hwn) | (go_simp; rw [← hwn]; done)⟩) ?_
    simp only [Act.put, List.setIfInBounds_toArray, List.set_cons_zero, List.set_cons_succ]
    refine take_op (i := 3) (d := 22) (v := .int .i64 n) rfl rfl (by kernel_rfl) (by kernel_rfl) (by kernel_rfl) hQ (Or.inl ⟨by rfl, fun _ => by first | rfl | (go_simp; done) | (go_simp; rfl) | (go_simp; exact hwn) | (go_simp; rw [← hwn]; done)⟩) ?_
    simp only [Act.put, List.setIfInBounds_toArray, List.set_cons_zero, List.set_cons_succ]
    refine take_op (i := 4) (d := 23) (v := .int .i64 n1) rfl rfl (by kernel_rfl) (by kernel_rfl) (by kernel_rfl) hQ (Or.inl ⟨by rfl, fun _ => by first | rfl | (go_simp; done) | (go_simp; rfl) | (go_simp; exact hwn) | (go_simp; rw [← hwn]; done)⟩) ?_
    simp only [Act.put, List.setIfInBounds_toArray, List.set_cons_zero, List.set_cons_succ]
    refine take_op (i := 6) (d := 25) (v := .pointer (some ⟨g, 0, none⟩)) rfl rfl (by kernel_rfl) (by kernel_rfl) (by kernel_rfl) hQ (Or.inl ⟨by rfl, fun _ => by first | rfl | (go_simp; done) | (go_simp; rfl) | (go_simp; exact hwn) | (go_simp; rw [← hwn]; done)⟩) ?_
    simp only [Act.put, List.setIfInBounds_toArray, List.set_cons_zero, List.set_cons_succ]
    refine wpAny_ready (rs := [5, 7]) (by kernel_rfl) (by simp) ?_
    refine AllReady.cons rfl (fun K hK => ?_) (AllReady.cons rfl (fun K hK => ?_) AllReady.nil)
    · go_simp
      refine hK _ _ ?_
      try simp only [Act.put, List.setIfInBounds_toArray, List.set_cons_zero, List.set_cons_succ]
      have hB1 : Below w0.heap.size w0 (w0.alloc (.cells #[.int .i64 f, .int .i64 n1] 3)) := (Below.refl _ _).alloc (Nat.le_refl _) _
      have hk1 := Lib.hid (And.intro (HK0.out.1.belowB hB1 HK0.out.1.lt) (And.intro (HK0.out.2.1.belowB (hB1.mono HK0.out.2.1.size)) (And.intro (show w0.heap.size < (w0.alloc (.cells #[.int .i64 f, .int .i64 n1] 3)).heap.size ∧ g ≠ w0.heap.size from ⟨by simp, by have := HK0.out.1.lt; omega⟩) (fun (j : Nat) (hj : j < 2) => litM_at w0 f n1 j hj))))
      clear hB1
      generalize w0.alloc (.cells #[.int .i64 f, .int .i64 n1] 3) = wz1 at *
      clear hK K
      refine wpAny_ready (rs := [7]) (by kernel_rfl) (by simp) ?_
      refine AllReady.cons rfl (fun K hK => ?_) AllReady.nil
      go_simp
      go_at_call 65
      refine (pick_any g l (p' + 1 + 1) 2 _ hk1.out.1 (by omega) (by omega)).mono ?_; rintro e wz2 ⟨⟨k, rfl, hka, hkz⟩, hr2, hg2⟩
      obtain ⟨k, rfl⟩ : ∃ j : Nat, k = (j : Int) := ⟨k.toNat, by omega⟩
      have hkb : k < 2 := by omega
      have hkc : (k : Int) < 2 := by omega
      have hk2 := Lib.hid (And.intro hr2 (And.intro (hk1.out.2.1.trans (Touch.grown hg2 rfl)) (And.intro (And.intro (Nat.lt_of_lt_of_le hk1.out.2.2.1.1 hg2.size) hk1.out.2.2.1.2) (fun (j : Nat) (hj : j < 2) => (World.cell?_of_block (a := ⟨w0.heap.size, j, none⟩) (hg2.block _ hk1.out.2.2.1.1 (by intro e; injection e with e; exact hk1.out.2.2.1.2 e.symm))).trans (hk1.out.2.2.2 j hj)))))
      clear hr2 hg2 hkz
      refine hK _ _ ?_
      try simp only [Act.put, List.setIfInBounds_toArray, List.set_cons_zero, List.set_cons_succ]
      clear hK K
      refine take_op (i := 8) (d := 27) (v := .pointer (some ⟨w0.heap.size, k, none⟩)) rfl rfl (by kernel_rfl) (by kernel_rfl) (by kernel_rfl) hQ (Or.inl ⟨by rfl, fun _ => by first | rfl | (go_simp; done) | (go_simp; rfl) | (go_simp; exact hwn) | (go_simp; rw [← hwn]; done)⟩) ?_
      simp only [Act.put, List.setIfInBounds_toArray, List.set_cons_zero, List.set_cons_succ]
      refine take_op (i := 10) (d := 2) (v := .slice ad xs.length cap) rfl rfl (by kernel_rfl) (by kernel_rfl) (by kernel_rfl) hQ (Or.inl ⟨by rfl, fun _ => by first | rfl | (go_simp; done) | (go_simp; rfl) | (go_simp; exact hwn) | (go_simp; rw [← hwn]; done)⟩) ?_
      simp only [Act.put, List.setIfInBounds_toArray, List.set_cons_zero, List.set_cons_succ]
      refine take_op (i := 11) (d := 3) (v := .int .i64 f) rfl rfl (by kernel_rfl) (by kernel_rfl) (by kernel_rfl) hQ (Or.inl ⟨by rfl, fun _ => by first | rfl | (go_simp; done) | (go_simp; rfl) | (go_simp; exact hwn) | (go_simp; rw [← hwn]; done)⟩) ?_
      simp only [Act.put, List.setIfInBounds_toArray, List.set_cons_zero, List.set_cons_succ]
      refine wpAny_ready (rs := [9]) (by kernel_rfl) (by simp) ?_
      refine AllReady.cons rfl (fun K hK => ?_) AllReady.nil
      have hl3 := hk2.out.2.2.2 k hkb
      obtain e3 := hl3
      go_simp
      refine hK _ _ ?_
      try simp only [Act.put, List.setIfInBounds_toArray, List.set_cons_zero, List.set_cons_succ]
      clear hK K 
      refine take_op (i := 12) (d := 4) (v := .int .i64 (litM f n1 k)) rfl rfl (by kernel_rfl) (by kernel_rfl) (by kernel_rfl) hQ (Or.inl ⟨by rfl, fun _ => by first | rfl | (go_simp; done) | (go_simp; rfl) | (go_simp; exact hwn) | (go_simp; rw [← hwn]; done)⟩) ?_
      simp only [Act.put, List.setIfInBounds_toArray, List.set_cons_zero, List.set_cons_succ]
      refine wpAny_done (by kernel_rfl) (hN _ _ ?_) _
      have HF := Lib.hid (And.intro hk2.out.1 (HT.out.trans hk2.out.2.1))
      have Hy := Lib.hid (litM_bd (x := f) (y := n1) (by omega) (by omega) k)
      generalize litM f n1 k = y at *
      go_wp2
      go_ret3
      exact HE.out f y _ _ (by omega) Hy.out HF.out.1 (by omega) HF.out.2
    · go_simp
      go_at_call 65
      refine (pick_any g l (p' + 1 + 1) 2 _ HK0.out.1 (by omega) (by omega)).mono ?_; rintro e wz4 ⟨⟨k, rfl, hka, hkz⟩, hr4, hg4⟩
      obtain ⟨k, rfl⟩ : ∃ j : Nat, k = (j : Int) := ⟨k.toNat, by omega⟩
      have hkb : k < 2 := by omega
      have hkc : (k : Int) < 2 := by omega
      have hk4 := Lib.hid (And.intro hr4 (And.intro (HK0.out.2.1.trans (Touch.grown hg4 rfl)) True.intro))
      clear hr4 hg4 hkz
      refine hK _ _ ?_
      try simp only [Act.put, List.setIfInBounds_toArray, List.set_cons_zero, List.set_cons_succ]
      clear hK K
      refine take_op (i := 10) (d := 2) (v := .slice ad xs.length cap) rfl rfl (by kernel_rfl) (by kernel_rfl) (by kernel_rfl) hQ (Or.inl ⟨by rfl, fun _ => by first | rfl | (go_simp; done) | (go_simp; rfl) | (go_simp; exact hwn) | (go_simp; rw [← hwn]; done)⟩) ?_
      simp only [Act.put, List.setIfInBounds_toArray, List.set_cons_zero, List.set_cons_succ]
      refine take_op (i := 11) (d := 3) (v := .int .i64 f) rfl rfl (by kernel_rfl) (by kernel_rfl) (by kernel_rfl) hQ (Or.inl ⟨by rfl, fun _ => by first | rfl | (go_simp; done) | (go_simp; rfl) | (go_simp; exact hwn) | (go_simp; rw [← hwn]; done)⟩) ?_
      simp only [Act.put, List.setIfInBounds_toArray, List.set_cons_zero, List.set_cons_succ]
      refine wpAny_ready (rs := [5]) (by kernel_rfl) (by simp) ?_
      refine AllReady.cons rfl (fun K hK => ?_) AllReady.nil
      go_simp
      refine hK _ _ ?_
      try simp only [Act.put, List.setIfInBounds_toArray, List.set_cons_zero, List.set_cons_succ]
      have hB5 : Below wz4.heap.size wz4 (wz4.alloc (.cells #[.int .i64 f, .int .i64 n1] 3)) := (Below.refl _ _).alloc (Nat.le_refl _) _
      have hk5 := Lib.hid (And.intro (hk4.out.1.belowB hB5 hk4.out.1.lt) (And.intro (hk4.out.2.1.belowB (hB5.mono hk4.out.2.1.size)) (And.intro (show wz4.heap.size < (wz4.alloc (.cells #[.int .i64 f, .int .i64 n1] 3)).heap.size ∧ g ≠ wz4.heap.size from ⟨by simp, by have := hk4.out.1.lt; omega⟩) (fun (j : Nat) (hj : j < 2) => litM_at wz4 f n1 j hj))))
      clear hB5
      generalize wz4.alloc (.cells #[.int .i64 f, .int .i64 n1] 3) = wz5 at *
      clear hK K
      refine take_op (i := 8) (d := 27) (v := .pointer (some ⟨wz4.heap.size, k, none⟩)) rfl rfl (by kernel_rfl) (by kernel_rfl) (by kernel_rfl) hQ (Or.inl ⟨by rfl, fun _ => by first | rfl | (go_simp; done) | (go_simp; rfl) | (go_simp; exact hwn) | (go_simp; rw [← hwn]; done)⟩) ?_
      simp only [Act.put, List.setIfInBounds_toArray, List.set_cons_zero, List.set_cons_succ]
      refine wpAny_ready (rs := [9]) (by kernel_rfl) (by simp) ?_
      refine AllReady.cons rfl (fun K hK => ?_) AllReady.nil
      have hl6 := hk5.out.2.2.2 k hkb
      obtain e6 := hl6
      go_simp
      refine hK _ _ ?_
      try simp only [Act.put, List.setIfInBounds_toArray, List.set_cons_zero, List.set_cons_succ]
      clear hK K 
      refine take_op (i := 12) (d := 4) (v := .int .i64 (litM f n1 k)) rfl rfl (by kernel_rfl) (by kernel_rfl) (by kernel_rfl) hQ (Or.inl ⟨by rfl, fun _ => by first | rfl | (go_simp; done) | (go_simp; rfl) | (go_simp; exact hwn) | (go_simp; rw [← hwn]; done)⟩) ?_
      simp only [Act.put, List.setIfInBounds_toArray, List.set_cons_zero, List.set_cons_succ]
      refine wpAny_done (by kernel_rfl) (hN _ _ ?_) _
      have HF := Lib.hid (And.intro hk5.out.1 (HT.out.trans hk5.out.2.1))
      have Hy := Lib.hid (litM_bd (x := f) (y := n1) (by omega) (by omega) k)
      generalize litM f n1 k = y at *
      go_wp2
      go_ret3
      exact HE.out f y _ _ (by omega) Hy.out HF.out.1 (by omega) HF.out.2
  · have q' : (z == 0) = false := by simpa using q
    obtain ⟨d, hd⟩ : ∃ d, n - f = d := ⟨_, rfl⟩
    obtain ⟨f1, hf1⟩ : ∃ f1, f + 1 = f1 := ⟨_, rfl⟩
    have hw1 : wrap64 (n - f) = d := by rw [hd]; exact wrap64_ok (by omega) (by omega)
    have hw2 : wrap64 (f + 1) = f1 := by rw [hf1]; exact wrap64_ok (by omega) (by omega)
    go_wp2_with fail
    refine (pick_any g l (p' + 1 + 1) d _ HR4.out (by omega) (by omega)).mono ?_; rintro e w5 ⟨⟨c, rfl, hc0, hc1⟩, hr5, hg5⟩
    have hcd : c < d := by omega
    have HR5 := Lib.hid hr5
    have HT5 := Lib.hid (HT.out.trans (Touch.grown hg5 rfl))
    clear hr5 hg5 hc1
    obtain ⟨t, ht⟩ : ∃ t, f1 + c = t := ⟨_, rfl⟩
    have hw3 : wrap64 (f1 + c) = t := by rw [ht]; exact wrap64_ok (by omega) (by omega)
    have hb : 0 ≤ t ∧ t ≤ 3000 := by omega
    clear ht hd hf1
    go_wp2
    go_ret3
    exact HE.out f (wrap64 (f1 + c)) _ _ (by omega) (by rw [hw3]; exact hb) HR5.out (by omega) HT5.out

def DrawnSell (w : World) (e : Ending) (w' : World) : Prop := ∃ (v : Value) (xs : List Pt) (f t o : Int), e = .returned (.tuple #[v, .int .i64 f, .int .i64 t, .int .i64 o]) ∧ PtIn w' v xs ∧ xs.length ≤ 8 ∧ 0 ≤ f ∧ f ≤ 2000 ∧ 0 ≤ t ∧ t ≤ 3000 ∧ -10 ≤ o ∧ o ≤ 1000001 ∧ Below w.heap.size w w'

set_option maxRecDepth 100000 in
set_option maxHeartbeats 1000000 in
theorem drawShareRide_any (v : Value) (l : List Int) (w0 : World) (hv : BytesIn w0 v l) (hm : l.length ≤ 1048576) :
    Calls Try.prog 44 #[v] w0 (DrawnSell w0) := by
  have Hv := Lib.hid hv; clear hv
  go_enter Try.func44, Try.ntmps44
  go_wp2_with fail
  refine (l6Open_any _ l _ Hv.out hm).mono ?_; rintro e w1 ⟨rfl, ⟨l', hr⟩, hb, hs⟩
  have HB1 := Lib.hid hb; have HR1 := Lib.hid hr
  clear hb hr
  obtain ⟨g, hg⟩ : ∃ g, w0.heap.size = g := ⟨_, rfl⟩
  rw [hg] at HR1
  have Hg := Lib.hid (Nat.le_of_eq hg)
  rw [hg]
  clear hg
  go_wp2_with fail
  refine (mile92_any g l' 0 _ HR1.out (by omega)).mono ?_; rintro e w2 ⟨ad, cap, xs, f, t, p, rfl, hcp, hx8, hown, hblk, hf0, hf1, ht0, ht1, hr2, hp, htt⟩
  have hp44 : p ≤ 44 := by omega
  have HO2 := Lib.hid (And.intro hown (fun j hj => Nat.lt_of_lt_of_le HR1.out.lt (hblk j hj).1))
  have HR2 := Lib.hid hr2
  have HB2 := Lib.hid (HB1.out.trans (htt.below (fun j hj => by rw [hj]; exact Hg.out) HB1.out.size))
  have Hcx := Lib.hid (And.intro hcp (And.intro hx8 (And.intro hf0 (And.intro hf1 (And.intro ht0 ht1)))))
  clear hown hblk hr2 hp htt hcp hx8 hf0 hf1 ht0 ht1
  go_wp2_with fail
  refine (amount92_any g l' p _ HR2.out (by omega)).mono ?_; rintro e w3 ⟨a, p', rfl, ha0, ha1, _, _, htt⟩
  have HF := Lib.hid (And.intro ((HO2.out.1.touch htt (fun j hj e => by have := HO2.out.2 j hj; omega)).ins Hcx.out.1) (HB2.out.trans (htt.below (fun j hj => by rw [hj]; exact Hg.out) HB2.out.size)))
  have HA := Lib.hid (And.intro ha0 ha1)
  clear htt ha0 ha1
  go_wp2
  refine bodyPost_ret (v := .tuple #[.slice ad xs.length cap, .int .i64 f, .int .i64 t, .int .i64 a]) (by simp [results, Try.results44, go_sem]) rfl ?_
  exact ⟨_, xs, f, t, a, rfl, HF.out.1, Hcx.out.2.1, Hcx.out.2.2.1, Hcx.out.2.2.2.1, Hcx.out.2.2.2.2.1, Hcx.out.2.2.2.2.2, by have := HA.out.1; omega, HA.out.2, HF.out.2⟩

set_option maxRecDepth 100000 in
set_option maxHeartbeats 1000000 in
theorem drawPartsSell_any (v : Value) (l : List Int) (w0 : World) (hv : BytesIn w0 v l) (hm : l.length ≤ 1048576) :
    Calls Try.prog 31 #[v] w0 (DrawnSell w0) := by
  have Hv := Lib.hid hv; clear hv
  go_enter Try.func31, Try.ntmps31
  go_wp2_with fail
  refine (l6Open_any _ l _ Hv.out hm).mono ?_; rintro e w1 ⟨rfl, ⟨l', hr⟩, hb, hs⟩
  have HB1 := Lib.hid hb; have HR1 := Lib.hid hr
  clear hb hr
  obtain ⟨g, hg⟩ : ∃ g, w0.heap.size = g := ⟨_, rfl⟩
  rw [hg] at HR1
  have Hg := Lib.hid (Nat.le_of_eq hg)
  rw [hg]
  clear hg
  go_wp2_with fail
  refine (mile92_any g l' 0 _ HR1.out (by omega)).mono ?_; rintro e w2 ⟨ad, cap, xs, f, t, p, rfl, hcp, hx8, hown, hblk, hf0, hf1, ht0, ht1, hr2, hp, htt⟩
  have hp44 : p ≤ 44 := by omega
  have HO2 := Lib.hid (And.intro hown (fun j hj => Nat.lt_of_lt_of_le HR1.out.lt (hblk j hj).1))
  have HR2 := Lib.hid hr2
  have HB2 := Lib.hid (HB1.out.trans (htt.below (fun j hj => by rw [hj]; exact Hg.out) HB1.out.size))
  have Hcx := Lib.hid (And.intro hcp (And.intro hx8 (And.intro hf0 (And.intro hf1 (And.intro ht0 ht1)))))
  clear hown hblk hr2 hp htt hcp hx8 hf0 hf1 ht0 ht1
  go_wp2_with fail
  refine (pick_any g l' p 6 _ HR2.out (by omega) (by omega)).mono ?_; rintro e w3 ⟨⟨a, rfl, ha0, ha1⟩, hr3, hg3⟩
  have ha6 : a < 6 := by omega
  have HR3 := Lib.hid hr3
  have HT3 := Lib.hid (Touch.grown (S := fun j => j = g) hg3 rfl)
  clear hr3 hg3 ha1
  go_wp2_with fail
  refine (pick_any g l' (p + 1) 20 _ HR3.out (by omega) (by omega)).mono ?_; rintro e w4 ⟨⟨c, rfl, hc0, hc1⟩, hr4, hg4⟩
  have hc20 : c < 20 := by omega
  have HT4 := Lib.hid (HT3.out.trans (Touch.grown (S := fun j => j = g) hg4 rfl))
  clear hr4 hg4 hc1
  have HF := Lib.hid (And.intro ((HO2.out.1.touch HT4.out (fun j hj e => by have := HO2.out.2 j hj; omega)).ins Hcx.out.1) (HB2.out.trans (HT4.out.below (fun j hj => by rw [hj]; exact Hg.out) HB2.out.size)))
  rcases (by omega : c < 19 ∨ c = 19) with hc | rfl
  · have hq : c / 19 = 0 := by omega
    have hq2 : Int.tdiv c 19 = 0 := by rw [Int.tdiv_eq_ediv_of_nonneg hc0]; exact hq
    have hw : wrap64 a = a := wrap64_ok (by omega) (by omega)
    go_wp2
    refine bodyPost_ret (v := .tuple #[.slice ad xs.length cap, .int .i64 f, .int .i64 t, .int .i64 a]) (by simp [results, Try.results31, go_sem]) rfl ?_
    exact ⟨_, xs, f, t, a, rfl, HF.out.1, Hcx.out.2.1, Hcx.out.2.2.1, Hcx.out.2.2.2.1, Hcx.out.2.2.2.2.1, Hcx.out.2.2.2.2.2, by omega, by omega, HF.out.2⟩
  · have hw : wrap64 (a - 6) = a - 6 := wrap64_ok (by omega) (by omega)
    go_wp2
    refine bodyPost_ret (v := .tuple #[.slice ad xs.length cap, .int .i64 f, .int .i64 t, .int .i64 (a - 6)]) (by simp [results, Try.results31, go_sem]) rfl ?_
    exact ⟨_, xs, f, t, a - 6, rfl, HF.out.1, Hcx.out.2.1, Hcx.out.2.2.1, Hcx.out.2.2.2.1, Hcx.out.2.2.2.2.1, Hcx.out.2.2.2.2.2, by omega, by omega, HF.out.2⟩

end Go.Proofs.Ythdkjjfnockldaa
