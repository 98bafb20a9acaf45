/- Draws: DrawLateArrive .. DrawLateBlame. -/
import Derived.Test.YtmphpbjmpokjjabDLB
namespace Go.Proofs.Ytmphpbjmpokjjab
open Go.RowKit

def DrawnLate (w : World) (e : Ending) (w' : World) : Prop :=
  ∃ (n : Int) (v : Value) (xs : List Rd) (ls st : Int) (u : Value) (ds : List Int), e = .returned (.tuple #[.int .i64 n, v, .int .i64 ls, .int .i64 st, u]) ∧ 2 ≤ n ∧ n ≤ 6 ∧ RoadsIn w' v xs ∧ xs.length ≤ 8 ∧ IntsIn w' u ds ∧ ds.length ≤ 8 ∧ (-1000 ≤ ls ∧ ls ≤ 1000) ∧ (-1000 ≤ st ∧ st ≤ 1000) ∧ Below w.heap.size w w'
def DrawnSlk (w : World) (e : Ending) (w' : World) : Prop :=
  ∃ (n : Int) (v : Value) (xs : List Rd) (ls : Int), e = .returned (.tuple #[.int .i64 n, v, .int .i64 ls]) ∧ 2 ≤ n ∧ n ≤ 6 ∧ RoadsIn w' v xs ∧ xs.length ≤ 8 ∧ (-1000 ≤ ls ∧ ls ≤ 1000) ∧ Below w.heap.size w w'

set_option maxRecDepth 100000 in
set_option maxHeartbeats 1000000 in
theorem drawLateArrive_any (v : Value) (l : List Int) (w0 : World) (hv : BytesIn w0 v l) (hm : l.length ≤ 1048576) :
    Calls Try.prog 12 #[v] w0 (DrawnLate w0) := by
  have Hv := Lib.hid hv; clear hv
  go_enter Try.func12, Try.ntmps12
  go_wp2_with fail
  refine (l6Open_any _ l _ Hv.out hm).mono ?_; rintro e w1 ⟨rfl, ⟨l', hr⟩, hb, hs⟩
  have HB1 := Lib.hid hb; have HR1 := Lib.hid hr
  clear hb hr
  go_wp2_with fail
  refine (late92_any _ l' 0 _ HR1.out (by omega)).mono ?_; rintro e w2 ⟨n, ad, cap, xs, ls, st, u, ds, p, rfl, n2, n6, hcap, h8, hown, _, hin, hd8, _, _, _, htt, hls, hst⟩
  have HF := Lib.hid (And.intro (hown.ins (cap := cap)) (And.intro hin (HB1.out.trans (htt.below (fun j hj => by rw [hj]; exact Nat.le_refl _) HB1.out.size))))
  clear hown hin htt
  go_wp2
  refine bodyPost_ret (v := .tuple #[.int .i64 n, .slice ad xs.length cap, .int .i64 ls, .int .i64 st, u]) (by simp [results, Try.results12, go_sem]) rfl ?_
  exact ⟨n, _, xs, ls, st, u, ds, rfl, n2, n6, HF.out.1, h8, HF.out.2.1, hd8, hls, hst, HF.out.2.2⟩

set_option maxRecDepth 100000 in
set_option maxHeartbeats 1000000 in
theorem drawLateLeave_any (v : Value) (l : List Int) (w0 : World) (hv : BytesIn w0 v l) (hm : l.length ≤ 1048576) :
    Calls Try.prog 18 #[v] w0 (DrawnLate w0) := by
  have Hv := Lib.hid hv; clear hv
  go_enter Try.func18, Try.ntmps18
  go_wp2_with fail
  refine (l6Open_any _ l _ Hv.out hm).mono ?_; rintro e w1 ⟨rfl, ⟨l', hr⟩, hb, hs⟩
  have HB1 := Lib.hid hb; have HR1 := Lib.hid hr
  clear hb hr
  go_wp2_with fail
  refine (late92_any _ l' 0 _ HR1.out (by omega)).mono ?_; rintro e w2 ⟨n, ad, cap, xs, ls, st, u, ds, p, rfl, n2, n6, hcap, h8, hown, _, hin, hd8, _, _, _, htt, hls, hst⟩
  have HF := Lib.hid (And.intro (hown.ins (cap := cap)) (And.intro hin (HB1.out.trans (htt.below (fun j hj => by rw [hj]; exact Nat.le_refl _) HB1.out.size))))
  clear hown hin htt
  go_wp2
  refine bodyPost_ret (v := .tuple #[.int .i64 n, .slice ad xs.length cap, .int .i64 ls, .int .i64 st, u]) (by simp [results, Try.results18, go_sem]) rfl ?_
  exact ⟨n, _, xs, ls, st, u, ds, rfl, n2, n6, HF.out.1, h8, HF.out.2.1, hd8, hls, hst, HF.out.2.2⟩

set_option maxRecDepth 100000 in
set_option maxHeartbeats 1000000 in
theorem drawLateEnd_any (v : Value) (l : List Int) (w0 : World) (hv : BytesIn w0 v l) (hm : l.length ≤ 1048576) :
    Calls Try.prog 20 #[v] w0 (DrawnLate w0) := by
  have Hv := Lib.hid hv; clear hv
  go_enter Try.func20, Try.ntmps20
  go_wp2_with fail
  refine (l6Open_any _ l _ Hv.out hm).mono ?_; rintro e w1 ⟨rfl, ⟨l', hr⟩, hb, hs⟩
  have HB1 := Lib.hid hb; have HR1 := Lib.hid hr
  clear hb hr
  go_wp2_with fail
  refine (late92_any _ l' 0 _ HR1.out (by omega)).mono ?_; rintro e w2 ⟨n, ad, cap, xs, ls, st, u, ds, p, rfl, n2, n6, hcap, h8, hown, _, hin, hd8, _, _, _, htt, hls, hst⟩
  have HF := Lib.hid (And.intro (hown.ins (cap := cap)) (And.intro hin (HB1.out.trans (htt.below (fun j hj => by rw [hj]; exact Nat.le_refl _) HB1.out.size))))
  clear hown hin htt
  go_wp2
  refine bodyPost_ret (v := .tuple #[.int .i64 n, .slice ad xs.length cap, .int .i64 ls, .int .i64 st, u]) (by simp [results, Try.results20, go_sem]) rfl ?_
  exact ⟨n, _, xs, ls, st, u, ds, rfl, n2, n6, HF.out.1, h8, HF.out.2.1, hd8, hls, hst, HF.out.2.2⟩

set_option maxRecDepth 100000 in
set_option maxHeartbeats 1000000 in
theorem drawLateStops_any (v : Value) (l : List Int) (w0 : World) (hv : BytesIn w0 v l) (hm : l.length ≤ 1048576) :
    Calls Try.prog 34 #[v] w0 (DrawnLate w0) := by
  have Hv := Lib.hid hv; clear hv
  go_enter Try.func34, Try.ntmps34
  go_wp2_with fail
  refine (l6Open_any _ l _ Hv.out hm).mono ?_; rintro e w1 ⟨rfl, ⟨l', hr⟩, hb, hs⟩
  have HB1 := Lib.hid hb; have HR1 := Lib.hid hr
  clear hb hr
  go_wp2_with fail
  refine (late92_any _ l' 0 _ HR1.out (by omega)).mono ?_; rintro e w2 ⟨n, ad, cap, xs, ls, st, u, ds, p, rfl, n2, n6, hcap, h8, hown, _, hin, hd8, _, _, _, htt, hls, hst⟩
  have HF := Lib.hid (And.intro (hown.ins (cap := cap)) (And.intro hin (HB1.out.trans (htt.below (fun j hj => by rw [hj]; exact Nat.le_refl _) HB1.out.size))))
  clear hown hin htt
  go_wp2
  refine bodyPost_ret (v := .tuple #[.int .i64 n, .slice ad xs.length cap, .int .i64 ls, .int .i64 st, u]) (by simp [results, Try.results34, go_sem]) rfl ?_
  exact ⟨n, _, xs, ls, st, u, ds, rfl, n2, n6, HF.out.1, h8, HF.out.2.1, hd8, hls, hst, HF.out.2.2⟩

set_option maxRecDepth 100000 in
set_option maxHeartbeats 1000000 in
theorem drawLateSlack_any (v : Value) (l : List Int) (w0 : World) (hv : BytesIn w0 v l) (hm : l.length ≤ 1048576) :
    Calls Try.prog 24 #[v] w0 (DrawnSlk w0) := by
  have Hv := Lib.hid hv; clear hv
  go_enter Try.func24, Try.ntmps24
  go_wp2_with fail
  refine (l6Open_any _ l _ Hv.out hm).mono ?_; rintro e w1 ⟨rfl, ⟨l', hr⟩, hb, hs⟩
  have HB1 := Lib.hid hb; have HR1 := Lib.hid hr
  clear hb hr
  obtain ⟨g, hg⟩ : ∃ g, w0.heap.size = g := ⟨_, rfl⟩
  rw [hg] at HR1
  have Hg := Lib.hid (Nat.le_of_eq hg)
  rw [hg]
  clear hg
  go_wp2_with fail
  refine (one91_any g l' 0 _ HR1.out (by omega)).mono ?_; rintro e w2 ⟨n, ad, cap, xs, p, rfl, n2, n6, hcap, h8, hown, hblk, hr2, hp, htt⟩
  have HO := Lib.hid (And.intro hown (And.intro (fun j hj => Nat.ne_of_gt (Nat.lt_of_lt_of_le HR1.out.lt (hblk j hj).1)) (HB1.out.trans (htt.below (fun j hj => by rw [hj]; exact Hg.out) HB1.out.size))))
  have HR2 := Lib.hid hr2
  clear hown hblk hr2 htt
  go_wp2_with fail
  refine (delay92_any g l' p _ HR2.out (by omega)).mono ?_; rintro e w3 ⟨a, p', rfl, ha0, ha1, _, _, htt⟩
  have HF := Lib.hid (And.intro ((HO.out.1.touch htt (fun j hj e => HO.out.2.1 j hj e)).ins (cap := cap)) (HO.out.2.2.trans (htt.below (fun j hj => by rw [hj]; exact Hg.out) HO.out.2.2.size)))
  clear htt
  go_wp2
  go_ret3
  exact ⟨n, _, xs, a, rfl, n2, n6, HF.out.1, h8, by omega, HF.out.2⟩

set_option maxRecDepth 100000 in
set_option maxHeartbeats 1000000 in
theorem drawLateFree_any (v : Value) (l : List Int) (w0 : World) (hv : BytesIn w0 v l) (hm : l.length ≤ 1048576) :
    Calls Try.prog 27 #[v] w0 (DrawnSlk w0) := by
  have HD := Lib.hid (drawLateSlack_any v l w0 hv hm); clear hv
  go_enter Try.func27, Try.ntmps27
  go_wp2_with fail
  refine HD.out.mono ?_; rintro e w1 ⟨n, v1, xs, a, rfl, h⟩
  have HF := Lib.hid h
  clear h HD
  go_wp2
  go_ret3
  exact ⟨n, v1, xs, a, rfl, HF.out⟩

end Go.Proofs.Ytmphpbjmpokjjab
