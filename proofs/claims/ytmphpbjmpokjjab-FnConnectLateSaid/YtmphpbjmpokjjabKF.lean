/- The program's connectTimes, connectWait, ConnectMade, ConnectLate, ConnectMost. -/
import Derived.Test.YtmphpbjmpokjjabKA
import Derived.Test.YtmphpbjmpokjjabYE
namespace Go.Proofs.Ytmphpbjmpokjjab
open Go.RowKit

def ctOk (n : Int) (a b : List Rd) (town : Int) : Bool := decide (0 ≤ stopsAtV n a town) && decide (0 ≤ stopsAtV n b town)
def ctA (n : Int) (a b : List Rd) (town : Int) : Int := if ctOk n a b town then (a.getD (stopsAtV n a town).toNat rd0).b else 0
def ctL (n : Int) (a b : List Rd) (town : Int) : Int := if ctOk n a b town then (b.getD (stopsAtV n b town).toNat rd0).m else 0
theorem at_no {n : Int} {l : List Rd} {t : Int} (h : validS n l = false) : stopsAtV n l t = -1 := by unfold stopsAtV; rw [h]; rfl
theorem at_hit {n : Int} {l : List Rd} {t : Int} {k : Nat} (h : validS n l = true) (hk : k < l.length) (hn : newS l k t = true) (ht : (l.getD k rd0).a = t) : stopsAtV n l t = k := by
  unfold stopsAtV; rw [if_pos h]; exact atV_some hk hn ht
theorem at_miss {n : Int} {l : List Rd} {t : Int} (h : validS n l = true) (hn : newS l l.length t = true) : stopsAtV n l t = -1 := by
  unfold stopsAtV; rw [if_pos h]; exact atV_none hn
def CtV (n : Int) (a b : List Rd) (town : Int) : Value := .tuple #[.int .i64 (ctA n a b town), .int .i64 (ctL n a b town), .bool (ctOk n a b town)]
theorem ctV_no {n : Int} {a b : List Rd} {town : Int} (h : stopsAtV n a town = -1 ∨ stopsAtV n b town = -1) : CtV n a b town = .tuple #[.int .i64 0, .int .i64 0, .bool false] := by
  have e : ctOk n a b town = false := by
    unfold ctOk
    rcases h with h | h
    · rw [h]; rfl
    · rw [h, Bool.and_comm]; rfl
  unfold CtV ctA ctL
  rw [e]; rfl
theorem ctV_yes {n : Int} {a b : List Rd} {town : Int} {i k : Nat} (hi : stopsAtV n a town = i) (hk : stopsAtV n b town = k) : CtV n a b town = .tuple #[.int .i64 (a.getD i rd0).b, .int .i64 (b.getD k rd0).m, .bool true] := by
  have e : ctOk n a b town = true := by
    unfold ctOk; rw [hi, hk]; simp
  unfold CtV ctA ctL
  rw [e, hi, hk]; rfl

set_option maxRecDepth 100000 in
set_option maxHeartbeats 1000000 in
theorem ctimes_any (n : Int) (va : Value) (a : List Rd) (vb : Value) (b : List Rd) (town : Int) (w : World) (ha : RoadsIn w va a) (hb : RoadsIn w vb b) (hla : a.length ≤ 1048576) (hlb : b.length ≤ 1048576) :
    Calls Try.prog 75 #[.int .i64 n, va, vb, .int .i64 town] w (Gives (CtV n a b town) w) := by
  have HA := Lib.hid (ttOf_any n va a w ha hla)
  have HBv := Lib.hid (fun (w' : World) (h : Below w.heap.size w w') => ttOf_any n vb b w' (hb.below h) hlb)
  clear ha hb
  cases hza : validS n a with
  | false =>
    have Hr := Lib.hid (ctV_no (n := n) (a := a) (b := b) (town := town) (.inl (at_no hza)))
    have Hza := Lib.hid hza; clear hza
    go_enter Try.func75, Try.ntmps75
    go_wp2_with fail
    refine HA.out.mono ?_; rintro e w1 ⟨_, h1⟩
    obtain ⟨rfl, hb1⟩ := h1 Hza.out
    have HB1 := Lib.hid hb1
    clear h1 hb1
    go_wp2_with fail
    refine (HBv.out w1 HB1.out).mono ?_; rintro e w2 ⟨h1, h2⟩
    cases hzb : validS n b with
    | true =>
      obtain ⟨tb, hs, rfl, _, _, hb2⟩ := h1 hzb
      have HB2 := Lib.hid (HB1.out.trans (hb2.mono HB1.out.size))
      clear h1 h2 hzb hb2
      go_wp2
      go_ret3
      rw [Hr.out]
      exact ⟨rfl, HB2.out⟩
    | false =>
      obtain ⟨rfl, hb2⟩ := h2 hzb
      have HB2 := Lib.hid (HB1.out.trans (hb2.mono HB1.out.size))
      clear h1 h2 hzb hb2
      go_wp2
      go_ret3
      rw [Hr.out]
      exact ⟨rfl, HB2.out⟩
  | true =>
    have ha8 := (validS_iff.1 hza).1.2.2.2
    have Hza := Lib.hid hza; clear hza
    go_enter Try.func75, Try.ntmps75
    go_wp2_with fail
    refine HA.out.mono ?_; rintro e w1 ⟨h1, _⟩
    obtain ⟨ta, hsa, rfl, htt, _, hb1⟩ := h1 Hza.out
    have HB1 := Lib.hid hb1
    have HT1 := Lib.hid htt
    clear h1 hb1 htt
    go_wp2_with fail
    refine (HBv.out w1 HB1.out).mono ?_; rintro e w2 ⟨h1, h2⟩
    cases hzb : validS n b with
    | false =>
      have Hr := Lib.hid (ctV_no (n := n) (a := a) (b := b) (town := town) (.inr (at_no hzb)))
      obtain ⟨rfl, hb2⟩ := h2 hzb
      have HB2 := Lib.hid (HB1.out.trans (hb2.mono HB1.out.size))
      clear h1 h2 hzb hb2
      go_wp2
      go_ret3
      rw [Hr.out]
      exact ⟨rfl, HB2.out⟩
    | true =>
      have hb8 := (validS_iff.1 hzb).1.2.2.2
      obtain ⟨tb, hsb, rfl, htt, _, hb2⟩ := h1 hzb
      have HB2 := Lib.hid (HB1.out.trans (hb2.mono HB1.out.size))
      have HTa := Lib.hid (HT1.out.below hb2)
      have HTb := Lib.hid htt
      have Hzb := Lib.hid hzb
      clear h1 h2 hzb hb2 htt HT1
      go_wp2_with fail
      refine (in_any ta hsa a town _ HTa.out ha8).mono ?_
      rintro e w' ⟨rfl, h3⟩
      have H3 := Lib.hid h3
      clear h3
      rcases H3.out with ⟨i, hi, rfl, hn, ht⟩ | ⟨rfl, hn⟩
      · have Hi := Lib.hid (at_hit Hza.out hi hn ht)
        have da := HTa.out.arrive hi
        clear hn ht hi H3
        generalize hsa.getD i 0 = ga at *
        generalize hx : (a.getD i rd0).b = x at *
        have Hx := Lib.hid hx
        clear hx
        go_wp2_with fail
        refine (in_any tb hsb b town _ HTb.out hb8).mono ?_
        rintro e w'' ⟨rfl, h4⟩
        have H4 := Lib.hid h4
        clear h4
        rcases H4.out with ⟨k, hk, rfl, hn, ht⟩ | ⟨rfl, hn⟩
        · have hr := ctV_yes (n := n) (a := a) (b := b) (town := town) Hi.out (at_hit Hzb.out hk hn ht)
          rw [Hx.out] at hr
          have db := HTb.out.leave hk
          clear hn ht hk H4
          generalize hsb.getD k 0 = gb at *
          generalize (b.getD k rd0).m = y at *
          have Hr := Lib.hid hr
          clear hr
          go_wp2
          go_region
          all_goals
            go_wp2
            go_ret3
            rw [Hr.out]
            exact ⟨rfl, HB2.out.drew⟩
        · have Hr := Lib.hid (ctV_no (n := n) (a := a) (b := b) (town := town) (.inr (at_miss Hzb.out hn)))
          clear hn H4
          go_wp2
          go_ret3
          rw [Hr.out]
          exact ⟨rfl, HB2.out⟩
      · have Hr := Lib.hid (ctV_no (n := n) (a := a) (b := b) (town := town) (.inl (at_miss Hza.out hn)))
        clear hn H3
        go_wp2_with fail
        refine (in_any tb hsb b town _ HTb.out hb8).mono ?_
        rintro e w'' ⟨rfl, h4⟩
        have H4 := Lib.hid h4
        clear h4
        rcases H4.out with ⟨k, hk, rfl, hn, ht⟩ | ⟨rfl, hn⟩
        · clear hn ht hk H4
          generalize hsb.getD k 0 = gb at *
          go_wp2
          go_ret3
          rw [Hr.out]
          exact ⟨rfl, HB2.out⟩
        · clear hn H4
          go_wp2
          go_ret3
          rw [Hr.out]
          exact ⟨rfl, HB2.out⟩

/-- How long must be waited, if the numbers are in range, too. -/
def cwOk (n : Int) (a b : List Rd) (town late change most : Int) : Bool := clOk n a b town late change most
def cwX (n : Int) (a b : List Rd) (town late change most : Int) : Int := if cwOk n a b town late change most then waitX n a b town late change else 0
theorem cwOk_eq (n : Int) (a b : List Rd) (town late change most : Int) : cwOk n a b town late change most = (ctOk n a b town && allDl [late, change, most]) := by
  unfold cwOk clOk waitOk ctOk allDl
  simp only [List.all_cons, List.all_nil, Bool.and_true, Bool.and_assoc]
theorem three_at (w : World) (x y z : Int) : IntAt (w.alloc (.cells #[.int .i64 x, .int .i64 y, .int .i64 z] 3)) w.heap.size 0 [x, y, z] := fun i hi => by
  simp at hi
  rcases (show i = 0 ∨ i = 1 ∨ i = 2 by omega) with rfl | rfl | rfl <;> simp

set_option maxRecDepth 100000 in
set_option maxHeartbeats 1000000 in
theorem cwait_any (n : Int) (va : Value) (a : List Rd) (vb : Value) (b : List Rd) (town late change most : Int) (w : World) (ha : RoadsIn w va a) (hb : RoadsIn w vb b) (hla : a.length ≤ 1048576) (hlb : b.length ≤ 1048576) :
    Calls Try.prog 64 #[.int .i64 n, va, vb, .int .i64 town, .int .i64 late, .int .i64 change, .int .i64 most] w (Gives (.tuple #[.int .i64 (cwX n a b town late change most), .bool (cwOk n a b town late change most)]) w) := by
  have HT := Lib.hid (ctimes_any n va a vb b town w ha hb hla hlb)
  have He := Lib.hid (cwOk_eq n a b town late change most)
  have Hx := Lib.hid (show cwX n a b town late change most = if cwOk n a b town late change most then waitX n a b town late change else 0 from rfl)
  have Hw := Lib.hid (show cwOk n a b town late change most = true → waitX n a b town late change = ctA n a b town + late + change - ctL n a b town ∧ (0 ≤ ctA n a b town ∧ ctA n a b town ≤ 10000) ∧ (0 ≤ ctL n a b town ∧ ctL n a b town ≤ 10000) from fun h => by
    have h1 : waitOk n a b town late change = true := by
      unfold cwOk clOk at h; rw [Bool.and_eq_true] at h; exact h.1
    have h2 := waitOk_iff.1 h1
    have e : ctOk n a b town = true := by unfold ctOk; rw [decide_eq_true h2.1, decide_eq_true h2.2.1]; rfl
    obtain ⟨i, ei, _, _, b0, b1, _, _⟩ := at_in h2.1
    obtain ⟨k, ek, _, _, _, _, m0, m1⟩ := at_in h2.2.1
    unfold waitX ctA ctL
    rw [if_pos h1, if_pos e, if_pos e]
    refine ⟨rfl, ?_, ?_⟩
    · rw [ei, Int.toNat_natCast]; omega
    · rw [ek, Int.toNat_natCast]; omega)
  have Hd := Lib.hid (fun (h : allDl [late, change, most] = true) => (show (0 ≤ late ∧ late ≤ 300) ∧ (0 ≤ change ∧ change ≤ 300) from ⟨okDl_iff.1 (allDl_iff.1 h late (by simp)), okDl_iff.1 (allDl_iff.1 h change (by simp))⟩))
  clear ha hb
  go_enter Try.func64, Try.ntmps64
  go_wp2_with fail
  refine HT.out.mono ?_; rintro e w1 ⟨rfl, hb1⟩
  have HB1 := Lib.hid hb1
  clear hb1 HT
  unfold CtV
  generalize ctA n a b town = x at *
  generalize ctL n a b town = y at *
  generalize ctOk n a b town = ok at *
  generalize waitX n a b town late change = z at *
  cases ok with
  | false =>
    have H2 := Lib.hid (show cwX n a b town late change most = 0 ∧ cwOk n a b town late change most = false by rw [Hx.out, He.out]; exact ⟨rfl, rfl⟩)
    clear Hx He Hw Hd
    go_wp2
    go_ret2
    rw [H2.out.1, H2.out.2]
    exact ⟨rfl, HB1.out⟩
  | true =>
    have HB2 := Lib.hid (HB1.out.alloc HB1.out.size (.cells #[.int .i64 late, .int .i64 change, .int .i64 most] 3))
    have HI := Lib.hid (IntsIn.row (cap := 3) (show w1.heap.size < (w1.alloc (.cells #[.int .i64 late, .int .i64 change, .int .i64 most] 3)).heap.size by simp) (by simp) (three_at w1 late change most))
    go_wp2_with fail
    refine (areDl_any _ [late, change, most] _ HI.out (by simp)).mono ?_; rintro e w2 ⟨rfl, rfl⟩
    rw [Bool.true_and] at He
    cases hq : allDl [late, change, most] with
    | false =>
      rw [hq] at He
      have H2 := Lib.hid (show cwX n a b town late change most = 0 ∧ cwOk n a b town late change most = false by rw [Hx.out, He.out]; exact ⟨rfl, rfl⟩)
      clear Hx He Hw Hd hq HI
      go_wp2
      go_ret2
      rw [H2.out.1, H2.out.2]
      exact ⟨rfl, HB2.out⟩
    | true =>
      rw [hq] at He
      obtain ⟨⟨l0, l1⟩, c0, c1⟩ := Hd.out hq
      obtain ⟨hz, ⟨x0, x1⟩, y0, y1⟩ := Hw.out He.out
      have H2 := Lib.hid (show cwX n a b town late change most = x + late + change - y ∧ cwOk n a b town late change most = true by rw [Hx.out, He.out]; exact ⟨hz, rfl⟩)
      have g1 : wrap64 (x + late) = x + late := by unfold wrap64; omega
      have g2 : wrap64 (x + late + change) = x + late + change := by unfold wrap64; omega
      have g3 : wrap64 (x + late + change - y) = x + late + change - y := by unfold wrap64; omega
      clear Hx He Hw Hd hq HI hz
      go_wp2
      go_ret2
      rw [H2.out.1, H2.out.2]
      exact ⟨rfl, HB2.out⟩

set_option maxRecDepth 100000 in
set_option maxHeartbeats 1000000 in
theorem made2_any (n : Int) (va : Value) (a : List Rd) (vb : Value) (b : List Rd) (town late change most : Int) (w : World) (ha : RoadsIn w va a) (hb : RoadsIn w vb b) (hla : a.length ≤ 1048576) (hlb : b.length ≤ 1048576) :
    Calls Try.prog 43 #[.int .i64 n, va, vb, .int .i64 town, .int .i64 late, .int .i64 change, .int .i64 most] w (Gives (.bool (madeX n a b town late change most)) w) := by
  have HW := Lib.hid (cwait_any n va a vb b town late change most w ha hb hla hlb)
  have Hm := Lib.hid (show madeX n a b town late change most = (cwOk n a b town late change most && decide (cwX n a b town late change most ≤ most)) by
    rw [madeX_eq]; unfold cwX cwOk; cases h : clOk n a b town late change most <;> rfl)
  clear ha hb
  go_enter Try.func43, Try.ntmps43
  go_wp2_with fail
  refine HW.out.mono ?_; rintro e w1 ⟨rfl, hb1⟩
  have HB := Lib.hid hb1
  clear hb1 HW
  generalize cwX n a b town late change most = x at *
  generalize cwOk n a b town late change most = ok at *
  cases ok with
  | false =>
    go_wp2
    go_ret
    rw [Hm.out]
    exact ⟨rfl, HB.out⟩
  | true =>
    go_wp2
    go_ret
    rw [Hm.out]
    exact ⟨ret_bool (by first | rfl | (simp; done)), HB.out⟩

set_option maxRecDepth 100000 in
set_option maxHeartbeats 1000000 in
theorem clate2_any (n : Int) (va : Value) (a : List Rd) (vb : Value) (b : List Rd) (town late change most : Int) (w : World) (ha : RoadsIn w va a) (hb : RoadsIn w vb b) (hla : a.length ≤ 1048576) (hlb : b.length ≤ 1048576) :
    Calls Try.prog 41 #[.int .i64 n, va, vb, .int .i64 town, .int .i64 late, .int .i64 change, .int .i64 most] w (Gives (.tuple #[.int .i64 (clX n a b town late change most), .bool (clOk n a b town late change most)]) w) := by
  have HW := Lib.hid (cwait_any n va a vb b town late change most w ha hb hla hlb)
  have Hm := Lib.hid (show clX n a b town late change most = if cwOk n a b town late change most then (if most < cwX n a b town late change most then 0 else max 0 (cwX n a b town late change most)) else 0 by
    unfold clX cwX cwOk; cases h : clOk n a b town late change most <;> rfl)
  have Ho := Lib.hid (show clOk n a b town late change most = cwOk n a b town late change most from rfl)
  clear ha hb
  go_enter Try.func41, Try.ntmps41
  go_wp2_with fail
  refine HW.out.mono ?_; rintro e w1 ⟨rfl, hb1⟩
  have HB := Lib.hid hb1
  clear hb1 HW
  generalize cwX n a b town late change most = x at *
  generalize cwOk n a b town late change most = ok at *
  cases ok with
  | false =>
    go_wp2
    go_ret2
    rw [Hm.out, Ho.out]
    exact ⟨rfl, HB.out⟩
  | true =>
    by_cases hx : most < x
    · have H2 := Lib.hid (show (if true = true then (if most < x then (0 : Int) else max 0 x) else 0) = 0 by rw [if_pos rfl, if_pos hx])
      go_wp2
      go_ret2
      rw [Hm.out, Ho.out, H2.out]
      exact ⟨rfl, HB.out⟩
    · by_cases h0 : 0 < x
      · have H2 := Lib.hid (show (if true = true then (if most < x then (0 : Int) else max 0 x) else 0) = x by rw [if_pos rfl, if_neg hx]; omega)
        have h0' : 0 ≤ x := by omega
        go_wp2
        go_ret2
        rw [Hm.out, Ho.out, H2.out]
        exact ⟨rfl, HB.out⟩
      · have H2 := Lib.hid (show (if true = true then (if most < x then (0 : Int) else max 0 x) else 0) = 0 by rw [if_pos rfl, if_neg hx]; omega)
        have h0' : x ≤ 0 := by omega
        go_wp2
        go_ret2
        rw [Hm.out, Ho.out, H2.out]
        exact ⟨rfl, HB.out⟩

end Go.Proofs.Ytmphpbjmpokjjab
