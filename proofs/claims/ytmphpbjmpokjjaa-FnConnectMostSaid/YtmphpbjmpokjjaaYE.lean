/- The model's ConnectMost. -/
import Derived.Test.YtmphpbjmpokjjaaYD
namespace Go.Proofs.Ytmphpbjmpokjjaa
open Go.RowKit

def cmX (n : Int) (a b : List Rd) (town change most : Int) : Int := if madeX n a b town 0 change most then min 300 (most - waitX n a b town 0 change) else -1
theorem madeX_eq (n : Int) (a b : List Rd) (town late change most : Int) : madeX n a b town late change most = (clOk n a b town late change most && decide (waitX n a b town late change ≤ most)) := by
  unfold madeX clOk; rw [Bool.and_assoc]

set_option maxRecDepth 100000 in
set_option maxHeartbeats 1000000 in
theorem cmost1_any (n : Int) (va : Value) (a : List Rd) (vb : Value) (b : List Rd) (town change most : Int) (w : World) (ha : RoadsIn w va a) (hb : RoadsIn w vb b) (hla : a.length ≤ 1048576) (hlb : b.length ≤ 1048576) :
    Calls Try.prog 46 #[.int .i64 n, va, vb, .int .i64 town, .int .i64 change, .int .i64 most] w (Gives (.int .i64 (cmX n a b town change most)) w) := by
  have HW := Lib.hid (wait1_any n va a vb b town 0 change w ha hb hla hlb)
  have Hb := Lib.hid (show waitOk n a b town 0 change = true → -10000 ≤ waitX n a b town 0 change ∧ waitX n a b town 0 change ≤ 10600 from fun h => by unfold waitX; rw [if_pos h]; exact waitW_bd h)
  have Hm := Lib.hid (show cmX n a b town change most = if madeX n a b town 0 change most then min 300 (most - waitX n a b town 0 change) else -1 from rfl)
  have Ho := Lib.hid (show madeX n a b town 0 change most = (waitOk n a b town 0 change && (okDl most && decide (waitX n a b town 0 change ≤ most))) from rfl)
  clear ha hb
  go_enter Try.func46, Try.ntmps46
  go_wp2_with fail
  refine HW.out.mono ?_; rintro e w1 ⟨rfl, hb1⟩
  have HB := Lib.hid hb1
  clear hb1 HW
  generalize waitX n a b town 0 change = x at *
  generalize waitOk n a b town 0 change = ok at *
  cases ok with
  | false =>
    have H2 := Lib.hid (show cmX n a b town change most = -1 by rw [Hm.out, Ho.out]; rfl)
    clear Hm Ho Hb
    go_wp2
    go_ret
    rw [H2.out]
    exact ⟨rfl, HB.out⟩
  | true =>
    obtain ⟨x0, x1⟩ := Hb.out rfl
    clear Hb
    go_wp2_with fail
    refine (l6In_any _ _ _ _).mono ?_; rintro e w' ⟨rfl, rfl⟩
    rw [okDl_in]
    cases hq : okDl most with
    | false =>
      have H2 := Lib.hid (show cmX n a b town change most = -1 by rw [Hm.out, Ho.out, hq]; rfl)
      clear Hm Ho hq
      go_wp2
      go_ret
      rw [H2.out]
      exact ⟨rfl, HB.out⟩
    | true =>
      obtain ⟨m0, m1⟩ := okDl_iff.1 hq
      by_cases hx : most < x
      · have H2 := Lib.hid (show cmX n a b town change most = -1 by rw [Hm.out, Ho.out, hq, decide_eq_false (by omega)]; rfl)
        clear Hm Ho hq
        go_wp2
        go_ret
        rw [H2.out]
        exact ⟨rfl, HB.out⟩
      · have h1 := Lib.hid (show cmX n a b town change most = min 300 (most - x) by rw [Hm.out, Ho.out, hq, decide_eq_true (show x ≤ most by omega)]; rfl)
        clear Hm Ho hq
        by_cases h0 : 300 < most - x
        · have H2 := Lib.hid (show cmX n a b town change most = 300 by rw [h1.out]; omega)
          clear h1
          have h0' : 300 ≤ most - x := by omega
          go_wp2
          all_goals
            go_ret
            rw [H2.out]
            exact ⟨by first | rfl | (exact ret_int (by omega)), HB.out⟩
        · have H2 := Lib.hid (show cmX n a b town change most = most - x by rw [h1.out]; omega)
          clear h1
          have h0' : most - x ≤ 300 := by omega
          go_wp2
          all_goals
            go_ret
            rw [H2.out]
            exact ⟨by first | rfl | (exact ret_int (by omega)), HB.out⟩

end Go.Proofs.Ytmphpbjmpokjjaa
