/- Draws: two timetables and a town where both often stop (l92Connect); connections. -/
import Derived.Test.YtmphpbjmpokjjabDLB
import Derived.Test.YtmphpbjmpokjjabDTW
import Derived.Test.YtmphpbjmpokjjabHD
namespace Go.Proofs.Ytmphpbjmpokjjab
open Go.RowKit

def DrawnCn (g : Nat) (l : List Int) (p : Nat) (w : World) (e : Ending) (w' : World) : Prop :=
  ∃ (n : Int) (ad : Option Addr) (cap : Nat) (xs : List Rd) (ad2 : Option Addr) (cap2 : Nat) (ys : List Rd) (town : Int) (p' : Nat), e = .returned (.tuple #[.int .i64 n, .slice ad xs.length cap, .slice ad2 ys.length cap2, .int .i64 town]) ∧ 2 ≤ n ∧ n ≤ 6 ∧
    xs.length ≤ cap ∧ xs.length ≤ 8 ∧ ys.length ≤ cap2 ∧ ys.length ≤ 8 ∧ OwnRd w' ad xs ∧ OwnRd w' ad2 ys ∧ (∀ j, inBlk ad j → j ≠ g) ∧ (∀ j, inBlk ad2 j → j ≠ g) ∧ Reader w' g l p' ∧ p' ≤ p + 100 ∧ Touch (fun j => j = g) w w'

set_option maxRecDepth 100000 in
set_option maxHeartbeats 2000000 in
theorem connect92_any (g : Nat) (l : List Int) (p : Nat) (w0 : World) (h : Reader w0 g l p) (hp : p ≤ 100) :
    Calls Try.prog 74 #[.pointer (some ⟨g, 0, none⟩)] w0 (DrawnCn g l p w0) := by
  have Hr := Lib.hid h; clear h
  go_enter Try.func74, Try.ntmps74
  go_wp2_with fail
  refine (pick_any g l p 4 _ Hr.out (by omega) (by omega)).mono ?_; rintro e w1 ⟨⟨x, rfl, hx0, hx1⟩, hr1, hg1⟩
  have hx4 : x < 4 := by omega
  have HT1 := Lib.hid (Touch.grown (S := fun j => j = g) hg1 rfl)
  have HR1 := Lib.hid hr1
  clear hr1 hg1 hx1
  go_wp2_with fail
  refine (pick_any g l (p + 1) 200 _ HR1.out (by omega) (by omega)).mono ?_; rintro e w2 ⟨⟨y, rfl, hy0, hy1⟩, hr2, hg2⟩
  have hy2 : y < 200 := by omega
  have HT2 := Lib.hid (HT1.out.trans (Touch.grown (S := fun j => j = g) hg2 rfl))
  have HR2 := Lib.hid hr2
  clear hr2 hg2 hy1
  go_wp2_with fail
  refine (stops91_any g l (p + 1 + 1) (2 + x) y _ HR2.out (by omega) (by omega) (by omega) (by omega) (by omega)).mono ?_
  rintro e w3 ⟨ad, cap, xs, p3, rfl, hcap, h8, hown, hblk, hr3, hp3, ht3⟩
  have HO3 := Lib.hid (And.intro hown (And.intro (fun j hj => Nat.ne_of_gt (Nat.lt_of_lt_of_le HR2.out.lt (hblk j hj).1)) (HT2.out.trans ht3)))
  have HR3 := Lib.hid hr3
  clear hown hblk hr3 ht3
  go_wp2_with fail
  refine (pick_any g l p3 40 _ HR3.out (by omega) (by omega)).mono ?_; rintro e w4 ⟨⟨z, rfl, hz0, hz1⟩, hr4, hg4⟩
  have hz4 : z < 40 := by omega
  have HT4 := Lib.hid (Touch.grown (S := fun j => j = g) hg4 rfl)
  have HR4 := Lib.hid hr4
  clear hr4 hg4 hz1
  go_wp2_with fail
  refine (stops91_any g l (p3 + 1) (2 + x) (y + z) _ HR4.out (by omega) (by omega) (by omega) (by omega) (by omega)).mono ?_
  rintro e w5 ⟨ad2, cap2, ys, p5, rfl, hcap2, h82, hown, hblk, hr5, hp5, ht5⟩
  have HO := Lib.hid (And.intro (HO3.out.1.touch (HT4.out.trans ht5) (fun j hj e => HO3.out.2.1 j hj e)) (And.intro HO3.out.2.1 (And.intro hown (And.intro (fun j hj => Nat.ne_of_gt (Nat.lt_of_lt_of_le HR4.out.lt (hblk j hj).1)) (HO3.out.2.2.trans (HT4.out.trans ht5))))))
  have HR5 := Lib.hid hr5
  have hp59 : p5 ≤ p + 90 := by omega
  clear hown hblk hr5 ht5 HO3 HT4 hp5 hp3
  by_cases h0 : xs.length = 0
  · have h0i : (xs.length : Int) = 0 := by omega
    obtain rfl : xs = [] := List.eq_nil_of_length_eq_zero h0
    clear h0 h0i
    rw [show ([] : List Rd).length = 0 from rfl] at hcap ⊢
    go_wp2_with fail
    refine (town91_any g l p5 (2 + x) _ HR5.out (by omega) (by omega) (by omega)).mono ?_; rintro e w6 ⟨t, p6, rfl, ht0, ht6, hr6, hp6, htt⟩
    have HF := Lib.hid (And.intro hr6 htt)
    clear hr6 htt
    go_wp2
    refine bodyPost_ret (v := .tuple #[.int .i64 (2 + x), .slice ad 0 cap, .slice ad2 ys.length cap2, .int .i64 t]) (by simp [results, Try.results74, go_sem]) rfl ?_
    exact ⟨2 + x, ad, cap, [], ad2, cap2, ys, t, p6, rfl, by omega, by omega, hcap, by simp, hcap2, h82, HO.out.1.touch HF.out.2 (fun j hj e => HO.out.2.1 j hj e), HO.out.2.2.1.touch HF.out.2 (fun j hj e => HO.out.2.2.2.1 j hj e), HO.out.2.1, HO.out.2.2.2.1, HF.out.1, by omega, HO.out.2.2.2.2.trans HF.out.2⟩
  · have h0i : (0 : Int) < (xs.length : Int) := by omega
    have h0n : 0 < xs.length := by omega
    clear h0
    go_wp2_with fail
    refine (pick_any g l p5 6 _ HR5.out (by omega) (by omega)).mono ?_; rintro e w6 ⟨⟨c, rfl, hc0, hc1⟩, hr6, hg6⟩
    have HO6 := Lib.hid (Touch.grown (S := fun j => j = g) hg6 rfl)
    have HO' := Lib.hid (And.intro (HO.out.1.touch HO6.out (fun j hj e => HO.out.2.1 j hj e)) (And.intro HO.out.2.1 (And.intro (HO.out.2.2.1.touch HO6.out (fun j hj e => HO.out.2.2.2.1 j hj e)) (And.intro HO.out.2.2.2.1 (HO.out.2.2.2.2.trans HO6.out)))))
    have HR6 := Lib.hid hr6
    clear hr6 hg6 HO6 HO HR5 hc1
    by_cases hc : 0 < c
    · obtain ⟨b, rfl, hbl, hat, _⟩ := HO'.out.1 (by rintro rfl; simp at h0n)
      have HC := Lib.hid (fun (w' : World) (ht : Touch (fun j => j = g) w6 w') (k : Nat) (hk : k < xs.length) => (show w'.cell? ⟨b, k * 3, none⟩ = some (.int .i64 (xs.getD k rd0).a) from by
        have h1 := (hat k hk).1
        rw [Nat.zero_add] at h1
        rw [World.cell?_of_block (a := ⟨b, k * 3, none⟩) (ht.block b hbl (fun e => HO'.out.2.1 b ⟨0, rfl⟩ e))]; exact h1))
      obtain ⟨q5, hq5⟩ : ∃ q, p5 + 1 = q := ⟨_, rfl⟩
      rw [hq5] at HR6
      have hq9 : q5 ≤ p + 91 := by omega
      have HK0 := Lib.hid (show Reader (World.drew w6) g l q5 ∧ Touch (fun j => j = g) w6 (World.drew w6) from ⟨HR6.out, Touch.of_below (S := fun j => j = g) ((Below.refl w6.heap.size w6).drew)⟩)
      have hxl8 : (xs.length : Int) ≤ 8 := by omega
      clear hat hq5
      go_wp2
      refine wp_region_any (by kernel_rfl) ?_
      change wpAny _ _ _ _ 15 #[false, false, false, false, false, false, false, false, false, false, false, false, false, false, false] _ (World.drew _)
      refine with_Q (fun _ _ _ _ _ h => h) (fun Q hQ hN => ?_)
      generalize World.drew (w6) = w0 at *
      refine take_op (i := 0) (d := 34) (v := .int .i64 (2 + x)) rfl rfl (by kernel_rfl) (by kernel_rfl) (by kernel_rfl) hQ (Or.inl ⟨by rfl, fun _ => by first | rfl | (go_simp; done) | (go_simp; rfl)⟩) ?_
      simp only [Act.put, List.setIfInBounds_toArray, List.set_cons_zero, List.set_cons_succ]
      refine take_op (i := 1) (d := 35) (v := .slice (some ⟨b, 0, none⟩) xs.length cap) rfl rfl (by kernel_rfl) (by kernel_rfl) (by kernel_rfl) hQ (Or.inl ⟨by rfl, fun _ => by first | rfl | (go_simp; done) | (go_simp; rfl)⟩) ?_
      simp only [Act.put, List.setIfInBounds_toArray, List.set_cons_zero, List.set_cons_succ]
      refine take_op (i := 2) (d := 36) (v := .slice ad2 ys.length cap2) rfl rfl (by kernel_rfl) (by kernel_rfl) (by kernel_rfl) hQ (Or.inl ⟨by rfl, fun _ => by first | rfl | (go_simp; done) | (go_simp; rfl)⟩) ?_
      simp only [Act.put, List.setIfInBounds_toArray, List.set_cons_zero, List.set_cons_succ]
      refine take_op (i := 3) (d := 37) (v := .slice (some ⟨b, 0, none⟩) xs.length cap) rfl rfl (by kernel_rfl) (by kernel_rfl) (by kernel_rfl) hQ (Or.inl ⟨by rfl, fun _ => by first | rfl | (go_simp; done) | (go_simp; rfl)⟩) ?_
      simp only [Act.put, List.setIfInBounds_toArray, List.set_cons_zero, List.set_cons_succ]
      refine take_op (i := 4) (d := 38) (v := .pointer (some ⟨g, 0, none⟩)) rfl rfl (by kernel_rfl) (by kernel_rfl) (by kernel_rfl) hQ (Or.inl ⟨by rfl, fun _ => by first | rfl | (go_simp; done) | (go_simp; rfl)⟩) ?_
      simp only [Act.put, List.setIfInBounds_toArray, List.set_cons_zero, List.set_cons_succ]
      refine take_op (i := 5) (d := 39) (v := .slice (some ⟨b, 0, none⟩) xs.length cap) rfl rfl (by kernel_rfl) (by kernel_rfl) (by kernel_rfl) hQ (Or.inl ⟨by rfl, fun _ => by first | rfl | (go_simp; done) | (go_simp; rfl)⟩) ?_
      simp only [Act.put, List.setIfInBounds_toArray, List.set_cons_zero, List.set_cons_succ]
      refine take_op (i := 6) (d := 40) (v := .int .i64 xs.length) rfl rfl (by kernel_rfl) (by kernel_rfl) (by kernel_rfl) hQ (Or.inl ⟨by rfl, fun _ => by first | rfl | (go_simp; done) | (go_simp; rfl)⟩) ?_
      simp only [Act.put, List.setIfInBounds_toArray, List.set_cons_zero, List.set_cons_succ]
      refine wpAny_ready (rs := [7]) (by kernel_rfl) (by simp) ?_
      refine AllReady.cons rfl (fun K hK => ?_) AllReady.nil
      go_simp
      go_at_call 67
      refine (pick_any g l q5 (xs.length : Int) _ HK0.out.1 (by omega) (by omega)).mono ?_; rintro e wz1 ⟨⟨x1, rfl, hx0, hx1⟩, hr1, hg1⟩
      obtain ⟨k1, rfl⟩ : ∃ j : Nat, x1 = (j : Int) := ⟨x1.toNat, by omega⟩
      have hk1 := Lib.hid (And.intro hr1 (HK0.out.2.trans (Touch.grown (S := fun j => j = g) hg1 rfl)))
      have hkl : k1 < xs.length := by omega
      have hkl1 : (k1 : Int) < (xs.length : Int) := by omega
      have hkn : (0 : Int) ≤ (k1 : Int) := Int.natCast_nonneg _
      clear hr1 hg1 hx0 hx1
      refine hK _ _ ?_
      try simp only [Act.put, List.setIfInBounds_toArray, List.set_cons_zero, List.set_cons_succ]
      clear hK K
      refine take_op (i := 8) (d := 42) (v := .pointer (some ⟨b, k1 * 3, none⟩)) rfl rfl (by kernel_rfl) (by kernel_rfl) (by kernel_rfl) hQ (Or.inl ⟨by rfl, fun _ => by first | rfl | (go_simp; done) | (go_simp; rfl)⟩) ?_
      simp only [Act.put, List.setIfInBounds_toArray, List.set_cons_zero, List.set_cons_succ]
      refine take_op (i := 9) (d := 43) (v := .pointer (some ⟨b, k1 * 3, none⟩)) rfl rfl (by kernel_rfl) (by kernel_rfl) (by kernel_rfl) hQ (Or.inl ⟨by rfl, fun _ => by first | rfl | (go_simp; done) | (go_simp; rfl)⟩) ?_
      simp only [Act.put, List.setIfInBounds_toArray, List.set_cons_zero, List.set_cons_succ]
      refine take_op (i := 11) (d := 2) (v := .int .i64 (2 + x)) rfl rfl (by kernel_rfl) (by kernel_rfl) (by kernel_rfl) hQ (Or.inl ⟨by rfl, fun _ => by first | rfl | (go_simp; done) | (go_simp; rfl)⟩) ?_
      simp only [Act.put, List.setIfInBounds_toArray, List.set_cons_zero, List.set_cons_succ]
      refine take_op (i := 12) (d := 3) (v := .slice (some ⟨b, 0, none⟩) xs.length cap) rfl rfl (by kernel_rfl) (by kernel_rfl) (by kernel_rfl) hQ (Or.inl ⟨by rfl, fun _ => by first | rfl | (go_simp; done) | (go_simp; rfl)⟩) ?_
      simp only [Act.put, List.setIfInBounds_toArray, List.set_cons_zero, List.set_cons_succ]
      refine take_op (i := 13) (d := 4) (v := .slice ad2 ys.length cap2) rfl rfl (by kernel_rfl) (by kernel_rfl) (by kernel_rfl) hQ (Or.inl ⟨by rfl, fun _ => by first | rfl | (go_simp; done) | (go_simp; rfl)⟩) ?_
      simp only [Act.put, List.setIfInBounds_toArray, List.set_cons_zero, List.set_cons_succ]
      refine wpAny_ready (rs := [10]) (by kernel_rfl) (by simp) ?_
      refine AllReady.cons rfl (fun K hK => ?_) AllReady.nil
      have hl2 := HC.out _ hk1.out.2 k1 hkl
      obtain hl2 := hl2
      go_simp
      refine hK _ _ ?_
      try simp only [Act.put, List.setIfInBounds_toArray, List.set_cons_zero, List.set_cons_succ]
      clear hK K 
      refine take_op (i := 14) (d := 5) (v := .int .i64 (xs.getD k1 rd0).a) rfl rfl (by kernel_rfl) (by kernel_rfl) (by kernel_rfl) hQ (Or.inl ⟨by rfl, fun _ => by first | rfl | (go_simp; done) | (go_simp; rfl)⟩) ?_
      simp only [Act.put, List.setIfInBounds_toArray, List.set_cons_zero, List.set_cons_succ]
      refine wpAny_done (by kernel_rfl) (hN _ _ ?_) _
      have HK := Lib.hid hk1.out
      go_wp2
      refine bodyPost_ret (v := .tuple #[.int .i64 (2 + x), .slice (some ⟨b, 0, none⟩) xs.length cap, .slice ad2 ys.length cap2, .int .i64 (xs.getD k1 rd0).a]) (by simp [results, Try.results74, go_sem]) rfl ?_
      exact ⟨2 + x, some ⟨b, 0, none⟩, cap, xs, ad2, cap2, ys, _, q5 + 1, rfl, by omega, by omega, hcap, h8, hcap2, h82, HO'.out.1.touch HK.out.2 (fun j hj e => HO'.out.2.1 j hj e), HO'.out.2.2.1.touch HK.out.2 (fun j hj e => HO'.out.2.2.2.1 j hj e), fun j hj => HO'.out.2.1 j hj, fun j hj => HO'.out.2.2.2.1 j hj, HK.out.1, by omega, HO'.out.2.2.2.2.trans HK.out.2⟩
    · have hc' : c ≤ 0 := by omega
      go_wp2_with fail
      refine (town91_any g l (p5 + 1) (2 + x) _ HR6.out (by omega) (by omega) (by omega)).mono ?_; rintro e w7 ⟨t, p6, rfl, ht0, ht6, hr7, hp6, htt⟩
      have HF := Lib.hid (And.intro hr7 htt)
      clear hr7 htt
      go_wp2
      refine bodyPost_ret (v := .tuple #[.int .i64 (2 + x), .slice ad xs.length cap, .slice ad2 ys.length cap2, .int .i64 t]) (by simp [results, Try.results74, go_sem]) rfl ?_
      exact ⟨2 + x, ad, cap, xs, ad2, cap2, ys, t, p6, rfl, by omega, by omega, hcap, h8, hcap2, h82, HO'.out.1.touch HF.out.2 (fun j hj e => HO'.out.2.1 j hj e), HO'.out.2.2.1.touch HF.out.2 (fun j hj e => HO'.out.2.2.2.1 j hj e), HO'.out.2.1, HO'.out.2.2.2.1, HF.out.1, by omega, HO'.out.2.2.2.2.trans HF.out.2⟩

def DrawnCon (w : World) (e : Ending) (w' : World) : Prop :=
  ∃ (n : Int) (va : Value) (xs : List Rd) (vb : Value) (ys : List Rd) (town late change most : Int), e = .returned (.tuple #[.int .i64 n, va, vb, .int .i64 town, .int .i64 late, .int .i64 change, .int .i64 most]) ∧ RoadsIn w' va xs ∧ xs.length ≤ 8 ∧ RoadsIn w' vb ys ∧ ys.length ≤ 8 ∧ (-1000 ≤ late ∧ late ≤ 1000) ∧ (-1000 ≤ change ∧ change ≤ 1000) ∧ (-1000 ≤ most ∧ most ≤ 1000) ∧ Below w.heap.size w w'
def DrawnCom (w : World) (e : Ending) (w' : World) : Prop :=
  ∃ (n : Int) (va : Value) (xs : List Rd) (vb : Value) (ys : List Rd) (town change most : Int), e = .returned (.tuple #[.int .i64 n, va, vb, .int .i64 town, .int .i64 change, .int .i64 most]) ∧ RoadsIn w' va xs ∧ xs.length ≤ 8 ∧ RoadsIn w' vb ys ∧ ys.length ≤ 8 ∧ (-1000 ≤ change ∧ change ≤ 1000) ∧ (-1000 ≤ most ∧ most ≤ 1000) ∧ Below w.heap.size w w'

set_option maxRecDepth 100000 in
set_option maxHeartbeats 1000000 in
theorem drawConnectMade_any (v : Value) (l : List Int) (w0 : World) (hv : BytesIn w0 v l) (hm : l.length ≤ 1048576) :
    Calls Try.prog 63 #[v] w0 (DrawnCon w0) := by
  have Hv := Lib.hid hv; clear hv
  go_enter Try.func63, Try.ntmps63
  go_wp2_with fail
  refine (l6Open_any _ l _ Hv.out hm).mono ?_; rintro e w1 ⟨rfl, ⟨l', hr⟩, hb, hs⟩
  have HB1 := Lib.hid hb; have HR1 := Lib.hid hr
  clear hb hr
  obtain ⟨g, hg⟩ : ∃ g, w0.heap.size = g := ⟨_, rfl⟩
  rw [hg] at HR1
  have Hg := Lib.hid (Nat.le_of_eq hg)
  rw [hg]
  clear hg
  go_wp2_with fail
  refine (connect92_any g l' 0 _ HR1.out (by omega)).mono ?_; rintro e w2 ⟨n, ad, cap, xs, ad2, cap2, ys, town, p2, rfl, n2, n6, hcap, h8, hcap2, h82, hown, hown2, hn1, hn2, hr2, hp2, htt⟩
  have HO := Lib.hid (And.intro hown (And.intro hown2 (And.intro hn1 (And.intro hn2 htt))))
  have HR2 := Lib.hid hr2
  clear hown hown2 hn1 hn2 htt hr2
  go_wp2_with fail
  refine (delay92_any g l' p2 _ HR2.out (by omega)).mono ?_; rintro e w3 ⟨a, p3, rfl, a0, a1, hr3, hp3, ht3⟩
  have HT3 := Lib.hid ht3
  have HR3 := Lib.hid hr3
  clear hr3 ht3
  go_wp2_with fail
  refine (delay92_any g l' p3 _ HR3.out (by omega)).mono ?_; rintro e w4 ⟨c, p4, rfl, c0, c1, hr4, hp4, ht4⟩
  have HT4 := Lib.hid (HT3.out.trans ht4)
  have HR4 := Lib.hid hr4
  clear hr4 ht4
  go_wp2_with fail
  refine (delay92_any g l' p4 _ HR4.out (by omega)).mono ?_; rintro e w5 ⟨m, p5, rfl, m0, m1, hr5, hp5, ht5⟩
  have HT5 := Lib.hid (HT4.out.trans ht5)
  have HR5 := Lib.hid hr5
  clear hr5 ht5
  have HF := Lib.hid (And.intro ((HO.out.1.touch HT5.out (fun j hj e => HO.out.2.2.1 j hj e)).ins (cap := cap)) (And.intro ((HO.out.2.1.touch HT5.out (fun j hj e => HO.out.2.2.2.1 j hj e)).ins (cap := cap2)) (HB1.out.trans ((HO.out.2.2.2.2.trans HT5.out).below (fun j hj => by rw [hj]; exact Hg.out) HB1.out.size))))
  go_wp2
  refine bodyPost_ret (v := .tuple #[.int .i64 n, .slice ad xs.length cap, .slice ad2 ys.length cap2, .int .i64 town, .int .i64 a, .int .i64 (Int.tdiv c 3), .int .i64 m]) (by simp [results, Try.results63, go_sem]) rfl ?_
  exact ⟨n, _, xs, _, ys, town, a, Int.tdiv c 3, m, rfl, HF.out.1, h8, HF.out.2.1, h82, by omega, tdiv3_bd c0 c1, by omega, HF.out.2.2⟩

set_option maxRecDepth 100000 in
set_option maxHeartbeats 1000000 in
theorem drawConnectLate_any (v : Value) (l : List Int) (w0 : World) (hv : BytesIn w0 v l) (hm : l.length ≤ 1048576) :
    Calls Try.prog 40 #[v] w0 (DrawnCon w0) := by
  have HD := Lib.hid (drawConnectMade_any v l w0 hv hm); clear hv
  go_enter Try.func40, Try.ntmps40
  go_wp2_with fail
  refine HD.out.mono ?_; rintro e w1 ⟨n, va, xs, vb, ys, town, a, c, m, rfl, h⟩
  have HF := Lib.hid h
  clear h HD
  go_wp2
  refine bodyPost_ret (v := .tuple #[.int .i64 n, va, vb, .int .i64 town, .int .i64 a, .int .i64 c, .int .i64 m]) (by simp [results, Try.results40, go_sem]) rfl ?_
  exact ⟨n, va, xs, vb, ys, town, a, c, m, rfl, HF.out⟩

end Go.Proofs.Ytmphpbjmpokjjab
