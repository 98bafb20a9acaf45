/- Draws: an index (l92At, as text DPO has it), DrawLateBlame. -/
import Derived.Test.YtmphpbjmpokjjabDLB
namespace Go.Proofs.Ytmphpbjmpokjjab
open Go.RowKit

theorem lit_aft2 {w w' : World} {g b : Nat} {k : Nat} {v : Value} (hg : w.grownBy w' (some g)) (hn : b ≠ g) (hc : w.cell? ⟨b, k, none⟩ = some v) (hb : b < w.heap.size) : w'.cell? ⟨b, k, none⟩ = some v := by
  rw [World.cell?_of_block (a := ⟨b, k, none⟩) (hg.block b hb (fun e => by injection e with e; exact hn e))]; exact hc
def litAt (n : Int) : Nat → Int
  | 0 => -1
  | _ => n
theorem litAt_at (w : World) (n : Int) (k : Nat) (h : (k : Int) < 2) : (w.alloc (.cells #[.int .i64 (-1), .int .i64 n] 3)).cell? ⟨w.heap.size, k, none⟩ = some (.int .i64 (litAt n k)) := by
  rcases (show k = 0 ∨ k = 1 by omega) with rfl | rfl <;> simp [litAt]
theorem litAt_bd {n : Int} (h0 : 0 ≤ n) (h1 : n ≤ 2000) (k : Nat) : (-1 : Int) ≤ litAt n k ∧ litAt n k ≤ 2000 := by
  unfold litAt; split <;> omega
def AtOut (g : Nat) (l : List Int) (p : Nat) (w : World) (e : Ending) (w' : World) : Prop :=
  ∃ (t : Int) (p' : Nat), e = .returned (.int .i64 t) ∧ -1 ≤ t ∧ t ≤ 2000 ∧ Reader w' g l p' ∧ p' ≤ p + 2 ∧ Touch (fun j => j = g) w w'

set_option maxRecDepth 100000 in
set_option maxHeartbeats 1000000 in
theorem at92_any (g : Nat) (l : List Int) (p : Nat) (n : Int) (w : World) (h : Reader w g l p) (hp : p ≤ 900000) (hn0 : 0 ≤ n) (hn1 : n ≤ 2000) :
    Calls Try.prog 60 #[.pointer (some ⟨g, 0, none⟩), .int .i64 n] w (AtOut g l p w) := by
  have H := Lib.hid h; clear h
  have HT0 := Lib.hid (Touch.refl (fun j => j = g) w)
  go_enter Try.func60, Try.ntmps60
  by_cases hz : n = 0
  · subst hz
    have hgl := H.out.lt
    have HA := Lib.hid (show Below w.heap.size w (w.alloc (.cells #[.int .i64 (-1), .int .i64 0] 3)) from (Below.refl _ _).alloc (Nat.le_refl _) _)
    go_wp2_with fail
    refine (pick_any g l p 2 _ (H.out.belowB HA.out hgl) (by omega) (by omega)).mono ?_; rintro e w2 ⟨⟨k, rfl, hk0, hk1⟩, hr2, hg2⟩
    obtain ⟨k, rfl⟩ : ∃ j : Nat, k = (j : Int) := ⟨k.toNat, by omega⟩
    have hk5 : (k : Int) < 2 := by omega
    have d := lit_aft2 (b := w.heap.size) (k := k) hg2 (Nat.ne_of_gt hgl) (litAt_at w 0 k hk5) (by simp)
    have HT2 := Lib.hid ((HT0.out.belowB (HA.out.mono HT0.out.size)).trans (Touch.grown (S := fun j => j = g) hg2 rfl))
    have HR2 := Lib.hid hr2
    have Hb := Lib.hid (litAt_bd (n := 0) (by omega) (by omega) k)
    generalize litAt 0 k = y at *
    clear hr2 hg2 hk1
    go_wp2
    go_ret
    exact ⟨y, p + 1, rfl, Hb.out.1, Hb.out.2, HR2.out, by omega, HT2.out⟩
  · have hz' : (n == 0) = false := by simpa using hz
    have hpos : 0 < n := by omega
    go_wp2_with fail
    refine (pick_any g l p 20 _ H.out (by omega) (by omega)).mono ?_; rintro e w1 ⟨⟨z, rfl, hz0, hz1⟩, hr1, hg1⟩
    have HT1 := Lib.hid (Touch.grown (S := fun j => j = g) hg1 rfl)
    have HR1 := Lib.hid hr1
    clear hr1 hg1 hz1
    by_cases q : z = 0
    · subst q
      have hgl := HR1.out.lt
      have HA := Lib.hid (show Below w1.heap.size w1 (w1.alloc (.cells #[.int .i64 (-1), .int .i64 n] 3)) from (Below.refl _ _).alloc (Nat.le_refl _) _)
      go_wp2_with fail
      refine (pick_any g l (p + 1) 2 _ (HR1.out.belowB HA.out hgl) (by omega) (by omega)).mono ?_; rintro e w2 ⟨⟨k, rfl, hk0, hk1⟩, hr2, hg2⟩
      obtain ⟨k, rfl⟩ : ∃ j : Nat, k = (j : Int) := ⟨k.toNat, by omega⟩
      have hk5 : (k : Int) < 2 := by omega
      have d := lit_aft2 (b := w1.heap.size) (k := k) hg2 (Nat.ne_of_gt hgl) (litAt_at w1 n k hk5) (by simp)
      have HT2 := Lib.hid ((HT1.out.belowB (HA.out.mono HT1.out.size)).trans (Touch.grown (S := fun j => j = g) hg2 rfl))
      have HR2 := Lib.hid hr2
      have Hb := Lib.hid (litAt_bd (n := n) (by omega) (by omega) k)
      generalize litAt n k = y at *
      clear hr2 hg2 hk1
      go_wp2
      go_ret
      exact ⟨y, (p + 1) + 1, rfl, Hb.out.1, Hb.out.2, HR2.out, by omega, HT2.out⟩
    · have q' : (z == 0) = false := by simpa using q
      go_wp2_with fail
      refine (pick_any g l (p + 1) n _ HR1.out (by omega) (by omega)).mono ?_; rintro e w2 ⟨⟨a, rfl, ha0, ha1⟩, hr2, hg2⟩
      have HT2 := Lib.hid (HT1.out.trans (Touch.grown (S := fun j => j = g) hg2 rfl))
      have HR2 := Lib.hid hr2
      have ha2 : a ≤ 2000 := by omega
      clear hr2 hg2 ha1
      go_wp2
      go_ret
      exact ⟨a, p + 1 + 1, rfl, by omega, by omega, HR2.out, by omega, HT2.out⟩

def DrawnBl (w : World) (e : Ending) (w' : World) : Prop :=
  ∃ (n : Int) (v : Value) (xs : List Rd) (ls st : Int) (u : Value) (ds : List Int) (k : Int), e = .returned (.tuple #[.int .i64 n, v, .int .i64 ls, .int .i64 st, u, .int .i64 k]) ∧ 2 ≤ n ∧ n ≤ 6 ∧ RoadsIn w' v xs ∧ xs.length ≤ 8 ∧ IntsIn w' u ds ∧ ds.length ≤ 8 ∧ (-1000 ≤ ls ∧ ls ≤ 1000) ∧ (-1000 ≤ st ∧ st ≤ 1000) ∧ (-1 ≤ k ∧ k ≤ 2000) ∧ Below w.heap.size w w'

set_option maxRecDepth 100000 in
set_option maxHeartbeats 1000000 in
theorem drawLateBlame_any (v : Value) (l : List Int) (w0 : World) (hv : BytesIn w0 v l) (hm : l.length ≤ 1048576) :
    Calls Try.prog 31 #[v] w0 (DrawnBl w0) := by
  have Hv := Lib.hid hv; clear hv
  go_enter Try.func31, Try.ntmps31
  go_wp2_with fail
  refine (l6Open_any _ l _ Hv.out hm).mono ?_; rintro e w1 ⟨rfl, ⟨l', hr⟩, hb, hs⟩
  have HB1 := Lib.hid hb; have HR1 := Lib.hid hr
  clear hb hr
  obtain ⟨g, hg⟩ : ∃ g, w0.heap.size = g := ⟨_, rfl⟩
  rw [hg] at HR1
  have Hg := Lib.hid (Nat.le_of_eq hg)
  rw [hg]
  clear hg
  go_wp2_with fail
  refine (late92_any g l' 0 _ HR1.out (by omega)).mono ?_; rintro e w2 ⟨n, ad, cap, xs, ls, st, u, ds, p, rfl, n2, n6, hcap, h8, hown, hblk, hin, hd8, hub, hr2, hp, htt, hls, hst⟩
  have HO := Lib.hid (And.intro hown (And.intro (fun j hj => Nat.ne_of_gt (Nat.lt_of_lt_of_le HR1.out.lt (hblk j hj))) (HB1.out.trans (htt.below (fun j hj => by rw [hj]; exact Hg.out) HB1.out.size))))
  have HI := Lib.hid (And.intro hin hub)
  have HR2 := Lib.hid hr2
  clear hown hblk hr2 htt hub
  obtain ⟨ua, uc, eu, huc, hua⟩ := hin
  subst eu
  clear hua
  go_wp2_with fail
  refine (at92_any g l' p (ds.length : Int) _ HR2.out (by omega) (by omega) (by omega)).mono ?_; rintro e w3 ⟨k, p', rfl, hk0, hk1, _, _, htt⟩
  have HF := Lib.hid (And.intro ((HO.out.1.touch htt (fun j hj e => HO.out.2.1 j hj e)).ins (cap := cap)) (And.intro (ints_touch HI.out.1 htt HI.out.2) (HO.out.2.2.trans (htt.below (fun j hj => by rw [hj]; exact Hg.out) HO.out.2.2.size))))
  clear htt
  go_wp2
  refine bodyPost_ret (v := .tuple #[.int .i64 n, .slice ad xs.length cap, .int .i64 ls, .int .i64 st, .slice ua ds.length uc, .int .i64 k]) (by simp [results, Try.results31, go_sem]) rfl ?_
  exact ⟨n, _, xs, ls, st, _, ds, k, rfl, n2, n6, HF.out.1, h8, HF.out.2.1, hd8, hls, hst, ⟨hk0, hk1⟩, HF.out.2.2⟩

end Go.Proofs.Ytmphpbjmpokjjab
