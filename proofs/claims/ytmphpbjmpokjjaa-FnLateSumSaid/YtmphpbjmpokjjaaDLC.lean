/- Draws: DrawLateArrive .. DrawLateBlame. -/
import Derived.Test.YtmphpbjmpokjjaaDLB
namespace Go.Proofs.Ytmphpbjmpokjjaa
open Go.RowKit

def DrawnLate (w : World) (e : Ending) (w' : World) : Prop :=
  ∃ (n : Int) (v : Value) (xs : List Rd) (ls st : Int) (u : Value) (ds : List Int), e = .returned (.tuple #[.int .i64 n, v, .int .i64 ls, .int .i64 st, u]) ∧ 2 ≤ n ∧ n ≤ 6 ∧ RoadsIn w' v xs ∧ xs.length ≤ 8 ∧ IntsIn w' u ds ∧ ds.length ≤ 8 ∧ (-1000 ≤ ls ∧ ls ≤ 1000) ∧ (-1000 ≤ st ∧ st ≤ 1000) ∧ Below w.heap.size w w'
def DrawnSlk (w : World) (e : Ending) (w' : World) : Prop :=
  ∃ (n : Int) (v : Value) (xs : List Rd) (ls : Int), e = .returned (.tuple #[.int .i64 n, v, .int .i64 ls]) ∧ 2 ≤ n ∧ n ≤ 6 ∧ RoadsIn w' v xs ∧ xs.length ≤ 8 ∧ (-1000 ≤ ls ∧ ls ≤ 1000) ∧ Below w.heap.size w w'

set_option maxRecDepth 100000 in
set_option maxHeartbeats 1000000 in
theorem drawLateSum_any (v : Value) (l : List Int) (w0 : World) (hv : BytesIn w0 v l) (hm : l.length ≤ 1048576) :
    Calls Try.prog 48 #[v] w0 (DrawnLate w0) := by
  have Hv := Lib.hid hv; clear hv
  go_enter Try.func48, Try.ntmps48
  go_wp2_with fail
  refine (l6Open_any _ l _ Hv.out hm).mono ?_; rintro e w1 ⟨rfl, ⟨l', hr⟩, hb, hs⟩
  have HB1 := Lib.hid hb; have HR1 := Lib.hid hr
  clear hb hr
  go_wp2_with fail
  refine (late92_any _ l' 0 _ HR1.out (by omega)).mono ?_; rintro e w2 ⟨n, ad, cap, xs, ls, st, u, ds, p, rfl, n2, n6, hcap, h8, hown, _, hin, hd8, _, _, _, htt, hls, hst⟩
  have HF := Lib.hid (And.intro (hown.ins (cap := cap)) (And.intro hin (HB1.out.trans (htt.below (fun j hj => by rw [hj]; exact Nat.le_refl _) HB1.out.size))))
  clear hown hin htt
  go_wp2
  refine bodyPost_ret (v := .tuple #[.int .i64 n, .slice ad xs.length cap, .int .i64 ls, .int .i64 st, u]) (by simp [results, Try.results48, go_sem]) rfl ?_
  exact ⟨n, _, xs, ls, st, u, ds, rfl, n2, n6, HF.out.1, h8, HF.out.2.1, hd8, hls, hst, HF.out.2.2⟩

end Go.Proofs.Ytmphpbjmpokjjaa
