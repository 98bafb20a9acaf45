/- The model's ConnectMade, ConnectLate. -/
import Derived.Test.YtmphpbjmpokjjabYC
namespace Go.Proofs.Ytmphpbjmpokjjab
open Go.RowKit

def madeX (n : Int) (a b : List Rd) (town late change most : Int) : Bool := waitOk n a b town late change && (okDl most && decide (waitX n a b town late change ≤ most))
def clOk (n : Int) (a b : List Rd) (town late change most : Int) : Bool := waitOk n a b town late change && okDl most
def clX (n : Int) (a b : List Rd) (town late change most : Int) : Int := if clOk n a b town late change most then (if most < waitX n a b town late change then 0 else max 0 (waitX n a b town late change)) else 0

set_option maxRecDepth 100000 in
set_option maxHeartbeats 1000000 in
theorem clate1_any (n : Int) (va : Value) (a : List Rd) (vb : Value) (b : List Rd) (town late change most : Int) (w : World) (ha : RoadsIn w va a) (hb : RoadsIn w vb b) (hla : a.length ≤ 1048576) (hlb : b.length ≤ 1048576) :
    Calls Try.prog 42 #[.int .i64 n, va, vb, .int .i64 town, .int .i64 late, .int .i64 change, .int .i64 most] w (Gives (.tuple #[.int .i64 (clX n a b town late change most), .bool (clOk n a b town late change most)]) w) := by
  have HW := Lib.hid (wait1_any n va a vb b town late change w ha hb hla hlb)
  have Hm := Lib.hid (show clX n a b town late change most = if clOk n a b town late change most then (if most < waitX n a b town late change then 0 else max 0 (waitX n a b town late change)) else 0 from rfl)
  have Ho := Lib.hid (show clOk n a b town late change most = (waitOk n a b town late change && okDl most) from rfl)
  clear ha hb
  go_enter Try.func42, Try.ntmps42
  go_wp2_with fail
  refine HW.out.mono ?_; rintro e w1 ⟨rfl, hb1⟩
  have HB := Lib.hid hb1
  clear hb1 HW
  generalize waitX n a b town late change = x at *
  generalize waitOk n a b town late change = ok at *
  cases ok with
  | false =>
    have H2 := Lib.hid (show clX n a b town late change most = 0 ∧ clOk n a b town late change most = false by rw [Hm.out, Ho.out]; exact ⟨rfl, rfl⟩)
    clear Hm Ho
    go_wp2
    go_ret2
    rw [H2.out.1, H2.out.2]
    exact ⟨rfl, HB.out⟩
  | true =>
    go_wp2_with fail
    refine (l6In_any _ _ _ _).mono ?_; rintro e w' ⟨rfl, rfl⟩
    rw [okDl_in]
    generalize okDl most = q at *
    cases q with
    | false =>
      have H2 := Lib.hid (show clX n a b town late change most = 0 ∧ clOk n a b town late change most = false by rw [Hm.out, Ho.out]; exact ⟨rfl, rfl⟩)
      clear Hm Ho
      go_wp2
      go_ret2
      rw [H2.out.1, H2.out.2]
      exact ⟨rfl, HB.out⟩
    | true =>
      have Ho2 := Lib.hid (show clOk n a b town late change most = true by rw [Ho.out]; rfl)
      by_cases hx : most < x
      · have H2 := Lib.hid (show clX n a b town late change most = 0 by rw [Hm.out, Ho.out, if_pos (by rfl), if_pos hx])
        clear Hm Ho
        go_wp2
        go_ret2
        rw [H2.out, Ho2.out]
        exact ⟨rfl, HB.out⟩
      · by_cases h0 : 0 < x
        · have H2 := Lib.hid (show clX n a b town late change most = x by rw [Hm.out, Ho.out, if_pos (by rfl), if_neg hx]; omega)
          clear Hm Ho
          go_wp2
          go_ret2
          rw [H2.out, Ho2.out]
          exact ⟨rfl, HB.out⟩
        · have H2 := Lib.hid (show clX n a b town late change most = 0 by rw [Hm.out, Ho.out, if_pos (by rfl), if_neg hx]; omega)
          have h0' : x ≤ 0 := by omega
          clear Hm Ho
          go_wp2
          go_ret2
          rw [H2.out, Ho2.out]
          exact ⟨rfl, HB.out⟩

end Go.Proofs.Ytmphpbjmpokjjab
