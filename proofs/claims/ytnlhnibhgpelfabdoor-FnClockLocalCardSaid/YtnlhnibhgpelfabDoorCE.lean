/- Clocks as texts: the program's ClockFrom. -/
import Derived.Test.YtnlhnibhgpelfabDoorCD
namespace Go.Proofs.YtnlhnibhgpelfabDoor
open Go.RowKit

theorem quietB {P : Program} {f : FuncId} {args : Array Value} {w : World} {a n : Nat} {v : Value}
    (h : Calls P f args (w.drewN (a + n)) fun e w' => e = .returned v ∧ w.drewN (a + n) = w') : Calls P f args (w.drewN (a + n)) fun e w'' => e = .returned v ∧ ∃ m, w'' = w.drewN (a + m) :=
  h.mono fun _ _ ⟨he, hm⟩ => ⟨he, n, hm.symm⟩
theorem quietA {P : Program} {f : FuncId} {args : Array Value} {w : World} {n : Nat} {v : Value}
    (h : Calls P f args (w.drewN n) fun e w' => e = .returned v ∧ w.drewN n = w') : Calls P f args (w.drewN n) fun e w'' => e = .returned v ∧ ∃ m, w'' = w.drewN m :=
  h.mono fun _ _ ⟨he, hm⟩ => ⟨he, n, hm.symm⟩

set_option maxHeartbeats 400000 in
theorem isDigit_any (b : UInt8) (w : World) :
    Calls Tryd.prog 31 #[.int .u8 (b.toNat : Int)] w fun e w' => e = .returned (.bool (isDg b)) ∧ w = w' := by
  by_cases h1 : (48 : Int) ≤ (b.toNat : Int)
  · go_enter Tryd.func31, Tryd.ntmps31
    go_wp2
    go_ret
    exact ⟨ret_bool (by rw [Bool.eq_iff_iff]; simp [isDg_iff]; omega), rfl⟩
  · go_enter Tryd.func31, Tryd.ntmps31
    go_wp2
    go_ret
    exact ⟨ret_bool (by rw [eq_comm, Bool.eq_false_iff]; intro h; have := (isDg_iff b).1 h; omega), rfl⟩

/-- What two bytes say. -/
def numV (a b : UInt8) : Int := if (isDg a && isDg b) = true then (numD a b : Int) else 0
def numOk (a b : UInt8) (lim : Int) : Bool := isDg a && isDg b && decide ((numD a b : Int) < lim)

set_option maxHeartbeats 400000 in
theorem twoFrom_any (a b : UInt8) (lim : Int) (w : World) :
    Calls Tryd.prog 23 #[.int .u8 (a.toNat : Int), .int .u8 (b.toNat : Int), .int .i64 lim] w fun e w' => e = .returned (.tuple #[.int .i64 (numV a b), .bool (numOk a b lim)]) ∧ w = w' := by
  by_cases ha : isDg a = true
  · by_cases hb : isDg b = true
    · have hv : numV a b = ((a.toNat : Int) - 48) * 10 + ((b.toNat : Int) - 48) := by
        have h1 := (isDg_iff a).1 ha
        have h2 := (isDg_iff b).1 hb
        unfold numV
        rw [ha, hb]
        simp only [Bool.and_self, if_true]
        unfold numD
        omega
      have hk : numOk a b lim = decide (((a.toNat : Int) - 48) * 10 + ((b.toNat : Int) - 48) < lim) := by
        have h1 := (isDg_iff a).1 ha
        have h2 := (isDg_iff b).1 hb
        unfold numOk
        rw [ha, hb]
        simp only [Bool.and_self, Bool.true_and]
        unfold numD
        rw [Bool.eq_iff_iff]
        simp only [decide_eq_true_eq]
        omega
      obtain ⟨a0, a1⟩ : (48 : Int) ≤ (a.toNat : Int) ∧ (a.toNat : Int) ≤ 57 := by have := (isDg_iff a).1 ha; omega
      obtain ⟨b0, b1⟩ : (48 : Int) ≤ (b.toNat : Int) ∧ (b.toNat : Int) ≤ 57 := by have := (isDg_iff b).1 hb; omega
      have Hv := Lib.hid (And.intro hv hk); clear hv hk
      go_enter Tryd.func23, Tryd.ntmps23
      go_wp2_with (go_at_call 31; refine (isDigit_any _ _).mono ?_; rintro e w' ⟨rfl, rfl⟩)
      go_ret2
      exact ⟨by rw [Hv.out.1, Hv.out.2]; rfl, rfl⟩
    · have hb' : isDg b = false := by simpa using hb
      have hv : numV a b = 0 := by unfold numV; rw [hb']; simp
      have hk : numOk a b lim = false := by unfold numOk; rw [hb']; simp
      have Hv := Lib.hid (And.intro hv hk); clear hv hk hb
      go_enter Tryd.func23, Tryd.ntmps23
      go_wp2_with (go_at_call 31; refine (isDigit_any _ _).mono ?_; rintro e w' ⟨rfl, rfl⟩)
      go_ret2
      exact ⟨by rw [Hv.out.1, Hv.out.2]; rfl, rfl⟩
  · have ha' : isDg a = false := by simpa using ha
    have hv : numV a b = 0 := by unfold numV; rw [ha']; rfl
    have hk : numOk a b lim = false := by unfold numOk; rw [ha']; rfl
    have Hv := Lib.hid (And.intro hv hk); clear hv hk ha
    go_enter Tryd.func23, Tryd.ntmps23
    go_wp2_with (go_at_call 31; refine (isDigit_any _ _).mono ?_; rintro e w' ⟨rfl, rfl⟩)
    go_ret2
    exact ⟨by rw [Hv.out.1, Hv.out.2]; rfl, rfl⟩

theorem isClock_of (a b c d e : UInt8) : isClock a b c d e = (decide (c = 46) && (numOk a b 24 && numOk d e 60)) := by
  unfold isClock numOk
  rw [Bool.eq_iff_iff]
  simp only [Bool.and_eq_true, decide_eq_true_eq]
  constructor
  · rintro ⟨⟨⟨⟨⟨⟨h1, h2⟩, h3⟩, h4⟩, h5⟩, h6⟩, h7⟩
    exact ⟨h1, ⟨⟨h2, h3⟩, by omega⟩, ⟨h4, h5⟩, by omega⟩
  · rintro ⟨h1, ⟨⟨h2, h3⟩, h6⟩, ⟨h4, h5⟩, h7⟩
    exact ⟨⟨⟨⟨⟨⟨h1, h2⟩, h3⟩, h4⟩, h5⟩, by omega⟩, by omega⟩

theorem numV_of {a b : UInt8} {lim : Int} (h : numOk a b lim = true) : numV a b = (numD a b : Int) ∧ (numD a b : Int) < lim := by
  unfold numOk at h
  simp only [Bool.and_eq_true, decide_eq_true_eq] at h
  unfold numV
  rw [h.1.1, h.1.2]
  exact ⟨rfl, h.2⟩

def FromOut (s : ByteArray) (w : World) (e : Ending) (w' : World) : Prop := e = .returned (.tuple #[.int .i64 (fromV s), .bool (fromOk s)]) ∧ Below w.heap.size w w'

theorem fromOut_none {s : ByteArray} (h : fromB s = none) (w : World) (n : Nat) : FromOut s w (.returned (.tuple #[.int .i64 0, .bool false])) (w.drewN n) := by
  have h1 : fromV s = 0 := by unfold fromV; rw [h]
  have h2 : fromOk s = false := by unfold fromOk; rw [h]; rfl
  exact ⟨by rw [h1, h2], (Below.refl _ _).drewN n⟩

theorem fromOut_some {s : ByteArray} {m : Nat} (h : fromB s = some m) (w : World) (n : Nat) (x : Int) (hx : x = m) : FromOut s w (.returned (.tuple #[.int .i64 x, .bool true])) (w.drewN n) := by
  have h1 : fromV s = m := by unfold fromV; rw [h]
  have h2 : fromOk s = true := by unfold fromOk; rw [h]; rfl
  exact ⟨by rw [h1, h2, hx], (Below.refl _ _).drewN n⟩

set_option maxRecDepth 100000 in
set_option maxHeartbeats 800000 in
theorem from2_any (s : ByteArray) (w : World) (hs : s.size ≤ maxLen) :
    Calls Tryd.prog 9 #[.string s] w (FromOut s w) := by
  unfold maxLen at hs
  by_cases h5 : s.size = 5
  · have hn5 : ((s.size : Int) != 5) = false := by rw [h5]; rfl
    by_cases h2 : s[2] = 46
    · have hn2 : (((s[2]).toNat : Int) != 46) = false := by rw [h2]; rfl
      have hi0 : (0 : Int) < (s.size : Int) := by omega
      have hi1 : (1 : Int) < (s.size : Int) := by omega
      have hi2 : (2 : Int) < (s.size : Int) := by omega
      have hi3 : (3 : Int) < (s.size : Int) := by omega
      have hi4 : (4 : Int) < (s.size : Int) := by omega
      by_cases hh : numOk s[0] s[1] 24 = true
      · by_cases hm : numOk s[3] s[4] 60 = true
        · have hz := from_yes h5 (by rw [isClock_of, hh, hm, h2]; rfl)
          obtain ⟨v1, l1⟩ := numV_of hh
          obtain ⟨v2, l2⟩ := numV_of hm
          have Hz := Lib.hid hz; clear hz
          go_enter Tryd.func9, Tryd.ntmps9
          go_wp2
          go_quiet ((go_at_call 23; exact quietA (twoFrom_any _ _ _ _)))
          go_wp2
          go_quiet ((go_at_call 23; exact quietB (twoFrom_any _ _ _ _)))
          go_wp2
          go_ret2
          exact fromOut_some Hz.out w _ _ (by omega)
        · have hm' : numOk s[3] s[4] 60 = false := by simpa using hm
          have hz := from_no h5 (by rw [isClock_of, hh, hm', h2]; rfl)
          have Hz := Lib.hid hz; clear hz hm
          go_enter Tryd.func9, Tryd.ntmps9
          go_wp2
          go_quiet ((go_at_call 23; exact quietA (twoFrom_any _ _ _ _)))
          go_wp2
          go_quiet ((go_at_call 23; exact quietB (twoFrom_any _ _ _ _)))
          go_wp2
          go_ret2
          exact fromOut_none Hz.out w _
      · have hh' : numOk s[0] s[1] 24 = false := by simpa using hh
        have hz := from_no h5 (by rw [isClock_of, hh', h2]; rfl)
        have Hz := Lib.hid hz; clear hz hh
        go_enter Tryd.func9, Tryd.ntmps9
        go_wp2
        go_quiet ((go_at_call 23; exact quietA (twoFrom_any _ _ _ _)))
        go_wp2
        go_quiet ((go_at_call 23; exact quietB (twoFrom_any _ _ _ _)))
        go_wp2
        go_ret2
        exact fromOut_none Hz.out w _
    · have hn2 : (((s[2]).toNat : Int) != 46) = true := by
        simp
        intro h
        apply h2
        apply UInt8.toNat_inj.1
        simp
        omega
      have hi2 : (2 : Int) < (s.size : Int) := by omega
      have hz := from_no h5 (by rw [isClock_of]; simp [h2])
      have Hz := Lib.hid hz; clear hz
      go_enter Tryd.func9, Tryd.ntmps9
      go_wp2
      go_ret2
      exact fromOut_none Hz.out w 0
  · have hn5 : ((s.size : Int) != 5) = true := by simp; omega
    have Hz := Lib.hid (from_no5 h5); clear h5
    go_enter Tryd.func9, Tryd.ntmps9
    go_wp2
    go_ret2
    exact fromOut_none Hz.out w 0

end Go.Proofs.YtnlhnibhgpelfabDoor
