/- Connections: pure, and the model's l6lWait, ConnectMade, ConnectLate. -/
import Derived.Test.YtmphpbjmpokjjabY1
import Derived.Test.YtmphpbjmpokjjabSF
import Derived.BigRegion
namespace Go.Proofs.Ytmphpbjmpokjjab
open Go.RowKit

/-- Where both stop, and the numbers are in range. -/
def waitOk (n : Int) (a b : List Rd) (town late change : Int) : Bool := decide (0 ≤ stopsAtV n a town) && (decide (0 ≤ stopsAtV n b town) && (okDl late && okDl change))
def waitW (n : Int) (a b : List Rd) (town late change : Int) : Int := (a.getD (stopsAtV n a town).toNat rd0).b + late + change - (b.getD (stopsAtV n b town).toNat rd0).m
def waitX (n : Int) (a b : List Rd) (town late change : Int) : Int := if waitOk n a b town late change then waitW n a b town late change else 0
theorem waitOk_iff {n : Int} {a b : List Rd} {town late change : Int} : waitOk n a b town late change = true ↔ 0 ≤ stopsAtV n a town ∧ 0 ≤ stopsAtV n b town ∧ okDl late = true ∧ okDl change = true := by simp [waitOk]
theorem at_in {n : Int} {l : List Rd} {t : Int} (h : 0 ≤ stopsAtV n l t) : ∃ i : Nat, stopsAtV n l t = (i : Int) ∧ i < l.length ∧ i ≤ 8 ∧ 0 ≤ (l.getD i rd0).b ∧ (l.getD i rd0).b ≤ 10000 ∧ 0 ≤ (l.getD i rd0).m ∧ (l.getD i rd0).m ≤ 10000 := by
  unfold stopsAtV at h ⊢
  by_cases hz : validS n l = true
  · rw [if_pos hz] at h ⊢
    unfold atV at h ⊢
    cases ha : atS l t with
    | none => rw [ha] at h; exact absurd h (by decide)
    | some i =>
      refine ⟨i, rfl, ?_⟩
      unfold atS at ha
      rw [List.findIdx?_eq_some_iff_getElem] at ha
      obtain ⟨hi, _, _⟩ := ha
      have := validS_at hz hi
      have h8 := (validS_iff.1 hz).1.2.2.2
      exact ⟨hi, by omega, by omega, by omega, by omega, by omega⟩
  · rw [if_neg hz] at h; exact absurd h (by decide)
theorem waitW_bd {n : Int} {a b : List Rd} {town late change : Int} (h : waitOk n a b town late change = true) : -10000 ≤ waitW n a b town late change ∧ waitW n a b town late change ≤ 10600 := by
  obtain ⟨h1, h2, h3, h4⟩ := waitOk_iff.1 h
  obtain ⟨i, ei, _, _, b0, b1, _, _⟩ := at_in h1
  obtain ⟨k, ek, _, _, _, _, m0, m1⟩ := at_in h2
  have h3 := okDl_iff.1 h3
  have h4 := okDl_iff.1 h4
  unfold waitW
  rw [ei, ek, Int.toNat_natCast, Int.toNat_natCast]
  omega

set_option maxRecDepth 100000 in
set_option maxHeartbeats 2000000 in
theorem wait1_any (n : Int) (va : Value) (a : List Rd) (vb : Value) (b : List Rd) (town late change : Int) (w : World) (ha : RoadsIn w va a) (hb : RoadsIn w vb b) (hla : a.length ≤ 1048576) (hlb : b.length ≤ 1048576) :
    Calls Try.prog 65 #[.int .i64 n, va, vb, .int .i64 town, .int .i64 late, .int .i64 change] w (Gives (.tuple #[.int .i64 (waitX n a b town late change), .bool (waitOk n a b town late change)]) w) := by
  have HA := Lib.hid (at1_any n va a town w ha hla)
  have HBv := Lib.hid (fun (w' : World) (h : Below w.heap.size w w') => at1_any n vb b town w' (hb.below h) hlb)
  have Hno := Lib.hid (fun (h : waitOk n a b town late change = false) => (show waitX n a b town late change = 0 by unfold waitX; rw [h]; rfl))
  have Hyes := Lib.hid (fun (h : waitOk n a b town late change = true) => (show waitX n a b town late change = waitW n a b town late change by unfold waitX; rw [h]; rfl))
  have Hok := Lib.hid (show waitOk n a b town late change = (decide (0 ≤ stopsAtV n a town) && (decide (0 ≤ stopsAtV n b town) && (okDl late && okDl change))) from rfl)
  obtain ⟨aa, ca, rfl, haa⟩ := ha
  obtain ⟨ab, cb, rfl, hab⟩ := hb
  have Haa := Lib.hid haa
  have Hab := Lib.hid hab
  clear haa hab
  go_enter Try.func65, Try.ntmps65
  go_wp2_with fail
  refine HA.out.mono ?_; rintro e w1 ⟨rfl, hb1⟩
  have HB1 := Lib.hid hb1
  clear hb1
  go_wp2_with fail
  refine (HBv.out w1 HB1.out).mono ?_; rintro e w2 ⟨rfl, hb2⟩
  have HB2 := Lib.hid (HB1.out.trans (hb2.mono HB1.out.size))
  clear hb2 HB1 HA HBv
  by_cases h1 : stopsAtV n a town < 0
  · have ho := Lib.hid (show waitOk n a b town late change = false by rw [Hok.out, decide_eq_false (by omega)]; rfl)
    have hx := Lib.hid (Hno.out ho.out)
    clear Hno Hyes Hok
    generalize stopsAtV n a town = i at *
    generalize stopsAtV n b town = k at *
    go_wp2
    go_ret2
    rw [hx.out, ho.out]
    exact ⟨rfl, HB2.out⟩
  · by_cases h2 : stopsAtV n b town < 0
    · have ho := Lib.hid (show waitOk n a b town late change = false by rw [Hok.out, decide_eq_false (p := 0 ≤ stopsAtV n b town) (by omega), Bool.false_and, Bool.and_false])
      have hx := Lib.hid (Hno.out ho.out)
      clear Hno Hyes Hok
      generalize stopsAtV n a town = i at *
      generalize stopsAtV n b town = k at *
      go_wp2
      go_ret2
      rw [hx.out, ho.out]
      exact ⟨rfl, HB2.out⟩
    · have hok2 : waitOk n a b town late change = (okDl late && okDl change) := by rw [Hok.out, decide_eq_true (by omega), decide_eq_true (by omega), Bool.true_and, Bool.true_and]
      have Hok2 := Lib.hid hok2
      have Hw := Lib.hid (show waitW n a b town late change = (a.getD (stopsAtV n a town).toNat rd0).b + late + change - (b.getD (stopsAtV n b town).toNat rd0).m from rfl)
      obtain ⟨i, ei, hil, hi8, b0, b1, _, _⟩ := at_in (Int.not_lt.1 h1)
      obtain ⟨k, ek, hkl, hk8, _, _, m0, m1⟩ := at_in (Int.not_lt.1 h2)
      rw [ei, ek, Int.toNat_natCast, Int.toNat_natCast] at Hw
      rw [ei, ek]
      have hi0 : ¬ (i : Int) < 0 := by omega
      have hk0 : ¬ (k : Int) < 0 := by omega
      clear h1 h2 ei ek hok2 Hok
      go_wp2_with fail
      refine (l6In_any _ _ _ _).mono ?_; rintro e w' ⟨rfl, rfl⟩
      rw [okDl_in]
      cases hq : okDl late with
      | false =>
        have ho := Lib.hid (show waitOk n a b town late change = false by rw [Hok2.out, hq]; rfl)
        have hx := Lib.hid (Hno.out ho.out)
        clear hq Hno Hyes Hok2 Hw
        go_wp2
        go_ret2
        rw [hx.out, ho.out]
        exact ⟨rfl, HB2.out⟩
      | true =>
        obtain ⟨t0, t1⟩ := okDl_iff.1 hq
        rw [hq, Bool.true_and] at Hok2
        clear hq
        go_wp2_with fail
        refine (l6In_any _ _ _ _).mono ?_; rintro e w' ⟨rfl, rfl⟩
        rw [okDl_in]
        cases hq : okDl change with
        | false =>
          have ho := Lib.hid (show waitOk n a b town late change = false by rw [Hok2.out, hq])
          have hx := Lib.hid (Hno.out ho.out)
          clear hq Hno Hyes Hok2 Hw
          go_wp2
          go_ret2
          rw [hx.out, ho.out]
          exact ⟨rfl, HB2.out⟩
        | true =>
          obtain ⟨c0, c1⟩ := okDl_iff.1 hq
          have ho := Lib.hid (show waitOk n a b town late change = true by rw [Hok2.out, hq])
          have hx := Lib.hid ((Hyes.out ho.out).trans Hw.out)
          clear hq Hno Hyes Hok2 Hw
          obtain ⟨ba, oa, rfl, hba, hra⟩ := Haa.out (by rintro rfl; simp at hil)
          obtain ⟨bb, ob, rfl, hbb, hrb⟩ := Hab.out (by rintro rfl; simp at hkl)
          obtain ⟨_, d1, _⟩ := (hra.below HB2.out hba) i hil
          obtain ⟨_, _, d2⟩ := (hrb.below HB2.out hbb) k hkl
          generalize (a.getD i rd0).b = x at *
          generalize (b.getD k rd0).m = y at *
          obtain ⟨p, hp⟩ : ∃ p, x + late = p := ⟨_, rfl⟩
          obtain ⟨q, hq⟩ : ∃ q, p + change = q := ⟨_, rfl⟩
          obtain ⟨r, hr⟩ : ∃ r, q - y = r := ⟨_, rfl⟩
          rw [hp, hq, hr] at hx
          have g1 : wrap64 (x + late) = p := by rw [hp]; unfold wrap64; omega
          have g2 : wrap64 (p + change) = q := by rw [hq]; unfold wrap64; omega
          have g3 : wrap64 (q - y) = r := by rw [hr]; unfold wrap64; omega
          have g4 : IntKind.i64.wrap (x + late) = p := by rw [hp]; exact IntWalk.i64_in _ (by omega)
          have g5 : IntKind.i64.wrap (p + change) = q := by rw [hq]; exact IntWalk.i64_in _ (by omega)
          have g6 : IntKind.i64.wrap (q - y) = r := by rw [hr]; exact IntWalk.i64_in _ (by omega)
          have hi' : (i : Int) < (a.length : Int) := by omega
          have hk' : (k : Int) < (b.length : Int) := by omega
          have hin : (0 : Int) ≤ (i : Int) := Int.natCast_nonneg _
          have hkn : (0 : Int) ≤ (k : Int) := Int.natCast_nonneg _
          clear hra hrb hba hbb Haa Hab hp hq hr b0 b1 m0 m1 t0 t1 c0 c1
          go_wp2
          go_region
          all_goals
            go_wp2
            go_ret2
            rw [hx.out, ho.out]
            exact ⟨rfl, HB2.out.drew⟩

end Go.Proofs.Ytmphpbjmpokjjab
