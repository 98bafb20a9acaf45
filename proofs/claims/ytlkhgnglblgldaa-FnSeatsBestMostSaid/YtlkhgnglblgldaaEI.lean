/- The program's sets of legs, passengers, bookingFits; the plan of seats in memory. -/
import Derived.Test.YtlkhgnglblgldaaEP
import Derived.Test.YtlkhgnglblgldaaQW
import Derived.Test.YtlkhgnglblgldaaHD
import Derived.Laws.BitsLemmas
namespace Go.Proofs.Ytlkhgnglblgldaa
open Go.RowKit

theorem and_u8 {x y : Nat} (hx : x < 256) (hy : y < 256) : bits .and .u8 (x : Int) (y : Int) = ((x &&& y : Nat) : Int) := (bits_nat .u8 8 (by decide) wraps_u8 x y hx hy).1
theorem or_u8 {x y : Nat} (hx : x < 256) (hy : y < 256) : bits .or .u8 (x : Int) (y : Int) = ((x ||| y : Nat) : Int) := (bits_nat .u8 8 (by decide) wraps_u8 x y hx hy).2

theorem pow_two_cast (n : Nat) : ((2 : Int) ^ n) = ((2 ^ n : Nat) : Int) := by simp
theorem hasB_num {x g : Nat} (hx : x < 256) : (bits .and .u8 ((x : Int) / 2 ^ g) 1 == 1) = hasB x g := by
  have e : (x : Int) / 2 ^ g = ((x >>> g : Nat) : Int) := by
    rw [Nat.shiftRight_eq_div_pow, pow_two_cast]; exact (Int.natCast_ediv x (2 ^ g)).symm
  have hlt : x >>> g < 256 := Nat.lt_of_le_of_lt (by rw [Nat.shiftRight_eq_div_pow]; exact Nat.div_le_self _ _) hx
  rw [e, show (1 : Int) = ((1 : Nat) : Int) from rfl, and_u8 hlt (by omega)]
  unfold hasB
  generalize x >>> g &&& 1 = n
  rw [Bool.eq_iff_iff]; simp only [beq_iff_eq]; omega
theorem meetN {x y : Nat} (hx : x < 256) (hy : y < 256) : (bits .and .u8 (x : Int) (y : Int) != 0) = (x &&& y != 0) := by
  rw [and_u8 hx hy]
  generalize x &&& y = n
  rw [Bool.eq_iff_iff]; simp only [bne_iff_ne, ne_eq]; omega


set_option maxHeartbeats 400000 in
theorem meets_any (x y : Nat) (w : World) (hx : x < 256) (hy : y < 256) :
    Calls Try.prog 129 #[.int .u8 x, .int .u8 y] w fun e w' => e = .returned (.bool (x &&& y != 0)) ∧ w = w' := by
  have He := Lib.hid (meetN hx hy)
  go_enter Try.func129, Try.ntmps129
  go_wp2
  go_ret
  exact ⟨ret_bool He.out, rfl⟩

theorem legs_num {a b : Nat} (hab : a < b) (hb : b ≤ 7) : IntKind.u8.wrap (IntKind.u8.wrap (2 ^ b) - IntKind.u8.wrap (2 ^ a)) = ((2 ^ b - 2 ^ a : Nat) : Int) := by
  have h1 : (2 : Nat) ^ b ≤ 2 ^ 7 := Nat.pow_le_pow_right (by omega) hb
  have h2 : (2 : Nat) ^ a < 2 ^ b := Nat.pow_lt_pow_right (by omega) hab
  rw [pow_two_cast, pow_two_cast]
  generalize (2 : Nat) ^ b = x at *
  generalize (2 : Nat) ^ a = y at *
  rw [IntKind.wrap_u8, IntKind.wrap_u8, IntKind.wrap_u8]
  omega

set_option maxHeartbeats 400000 in
theorem legs_any (a b : Nat) (w : World) (hab : a < b) (hb : b ≤ 7) :
    Calls Try.prog 120 #[.int .i64 a, .int .i64 b] w (Quiet (.int .u8 (2 ^ b - 2 ^ a : Nat)) w) := by
  have h0 : (0 : Int) ≤ (a : Int) := Int.natCast_nonneg _
  have h1 : (0 : Int) ≤ (b : Int) := Int.natCast_nonneg _
  have h2 : (a : Int) ≤ 8 := by omega
  have h3 : (b : Int) ≤ 8 := by omega
  have He := Lib.hid (legs_num hab hb)
  clear hab hb
  go_enter Try.func120, Try.ntmps120
  go_wp2
  go_region
  go_wp2
  go_ret
  exact ⟨ret_int He.out, 1, rfl⟩

/-- Who has a booking, as a value of the interface. -/
def psV : Bool → Nat → Value
  | true, x => .iface 176 (.int .u8 x)
  | false, x => .iface 177 (.int .u8 x)

theorem maskB_nat {r : Bk} (h : fit7 r) : ∃ a b : Nat, r.a = (a : Int) ∧ r.b = (b : Int) ∧ a < b ∧ b ≤ 7 ∧ maskB r = 2 ^ b - 2 ^ a := by
  obtain ⟨h0, h1, h2⟩ := h
  exact ⟨r.a.toNat, r.b.toNat, by omega, by omega, by omega, by omega, rfl⟩

set_option maxHeartbeats 400000 in
theorem pass_any (r : Bk) (w : World) (hr : fit7 r) :
    Calls Try.prog 101 #[.agg #[.int .i64 r.a, .int .i64 r.b, .bool r.m]] w (Gives (psV r.m (maskB r)) w) := by
  obtain ⟨a, b, ha, hb, hab, hb7, hm⟩ := maskB_nat hr
  rw [ha, hb, hm]
  have Hb := Lib.hid (((Below.refl w.heap.size w).alloc (Nat.le_refl _) (.cells #[.int .i64 a, .int .i64 b, .bool r.m] 31)))
  have Hc := Lib.hid (fun w => legs_any a b w hab hb7)
  clear ha hb hm hr hab hb7
  generalize 2 ^ b - 2 ^ a = x at *
  cases hk : r.m with
  | true =>
    rw [hk] at Hb
    go_enter Try.func101, Try.ntmps101
    go_wp2_with (go_at_call 120; refine (Hc.out _).mono ?_; rintro e w1 ⟨rfl, m1, rfl⟩)
    go_ret
    exact ⟨rfl, Hb.out.drewN _⟩
  | false =>
    rw [hk] at Hb
    go_enter Try.func101, Try.ntmps101
    go_wp2_with (go_at_call 120; refine (Hc.out _).mono ?_; rintro e w1 ⟨rfl, m1, rfl⟩)
    go_ret
    exact ⟨rfl, Hb.out.drewN _⟩

set_option maxHeartbeats 400000 in
theorem bfits_any (n : Int) (r : Bk) (w : World) :
    Calls Try.prog 98 #[.int .i64 n, .agg #[.int .i64 r.a, .int .i64 r.b, .bool r.m]] w (Gives (.bool (fitsB n r)) w) := by
  obtain ⟨xa, xb, xm⟩ := r
  have Hb := Lib.hid (((Below.refl w.heap.size w).alloc (Nat.le_refl _) (.cells #[.int .i64 xa, .int .i64 xb, .bool xm] 31)))
  have He := Lib.hid (show fitsB n ⟨xa, xb, xm⟩ = (decide (0 ≤ xa) && decide (xa < xb) && decide (xb ≤ n)) from rfl)
  by_cases q1 : 0 ≤ xa
  · by_cases q2 : xa < xb
    · go_enter Try.func98, Try.ntmps98
      go_wp2
      go_ret
      exact ⟨ret_bool (by rw [He.out, decide_eq_true q1, decide_eq_true q2]; rfl), Hb.out⟩
    · have hd : decide (xa < xb) = false := by simp only [decide_eq_false_iff_not]; omega
      go_enter Try.func98, Try.ntmps98
      go_wp2
      go_ret
      exact ⟨ret_bool (by rw [He.out, decide_eq_true q1, hd]; rfl), Hb.out⟩
  · have hd : decide (0 ≤ xa) = false := by simp only [decide_eq_false_iff_not]; omega
    go_enter Try.func98, Try.ntmps98
    go_wp2
    go_ret
    exact ⟨ret_bool (by rw [He.out, hd]; rfl), Hb.out⟩

/-! ### The plan in memory -/
def cellsP (p : Pl) : Array Value := ((p.i ++ p.o).map fun x : Nat => Value.int .u8 x).toArray
def offB : Bool → Nat
  | true => 0
  | false => 4
def PlW (w : World) (b : Nat) (p : Pl) : Prop := Whole w b 146 (cellsP p)
theorem cellsP_get {p : Pl} (h : PlWf p) (k : Bool) {s : Nat} (hs : s < seatsB k) : (cellsP p)[offB k + s]? = some (.int .u8 ((p.row k).getD s 0 : Nat)) := by
  have h1 := h.i
  have h2 := h.o
  cases k with
  | true =>
    have hs' : s < p.i.length := by rw [h1]; exact hs
    simp [cellsP, offB, Pl.row, List.getElem?_append, hs', List.getD]
  | false =>
    have hs' : s < p.o.length := by rw [h2]; exact hs
    simp [cellsP, offB, Pl.row, List.getElem?_append, h1, hs', List.getD]
theorem PlW.cell {w : World} {b : Nat} {p : Pl} (h : PlW w b p) (hp : PlWf p) (k : Bool) {s : Nat} (hs : s < seatsB k) : w.cell? ⟨b, offB k + s, none⟩ = some (.int .u8 ((p.row k).getD s 0 : Nat)) :=
  Whole.cell h (cellsP_get hp k hs)
theorem PlW.set {w : World} {b : Nat} {p : Pl} (h : PlW w b p) (hp : PlWf p) (k : Bool) {s : Nat} (hs : s < seatsB k) (x : Nat) : PlW (w.setCell ⟨b, offB k + s, none⟩ (.int .u8 x)) b (p.put k s x) := by
  have e : (cellsP p).setIfInBounds (offB k + s) (.int .u8 x) = cellsP (p.put k s x) := by
    have h1 := hp.i
    cases k with
    | true =>
      have hs' : s < p.i.length := by rw [h1]; exact hs
      simp [cellsP, offB, Pl.put, List.set_append, hs', List.map_set]
    | false =>
      simp [cellsP, offB, Pl.put, List.set_append, h1, List.map_set]
  have := Whole.set h (offB k + s) (.int .u8 x)
  rw [e] at this
  exact this
theorem PlW.below {w w' : World} {b B : Nat} {p : Pl} (h : PlW w b p) (hb : Below B w w') (hg : b < B) : PlW w' b p := Whole.below h hb hg
theorem PlW.lt {w : World} {b : Nat} {p : Pl} (h : PlW w b p) : b < w.heap.size := Whole.lt h

set_option maxHeartbeats 400000 in
theorem seatsFor_any (b : Nat) (k : Bool) (x : Nat) (w : World) :
    Calls Try.prog 118 #[.pointer (some ⟨b, 0, none⟩), psV k x] w fun e w' => e = .returned (.slice (some ⟨b, offB k, none⟩) (seatsB k) (seatsB k)) ∧ w = w' := by
  cases k with
  | true =>
    have hta : ∀ w, (Instr.typeAssert (.iface 176 (.int .u8 x)) 150 176 true).run Try.prog w = .ok (.tuple #[.int .u8 x, .bool true]) w := fun w => by kernel_rfl
    show Calls Try.prog 118 #[.pointer (some ⟨b, 0, none⟩), .iface 176 (.int .u8 x)] w fun e w' => e = .returned (.slice (some ⟨b, 0, none⟩) 4 4) ∧ w = w'
    go_enter Try.func118, Try.ntmps118
    go_wp2
    go_ret
    exact ⟨rfl, rfl⟩
  | false =>
    have hta : ∀ w, (Instr.typeAssert (.iface 177 (.int .u8 x)) 150 176 true).run Try.prog w = .ok (.tuple #[.int .u8 0, .bool false]) w := fun w => by kernel_rfl
    show Calls Try.prog 118 #[.pointer (some ⟨b, 0, none⟩), .iface 177 (.int .u8 x)] w fun e w' => e = .returned (.slice (some ⟨b, 4, none⟩) 6 6) ∧ w = w'
    go_enter Try.func118, Try.ntmps118
    go_wp2
    go_ret
    exact ⟨rfl, rfl⟩

end Go.Proofs.Ytlkhgnglblgldaa
