/- Pure facts on clocks as texts of five bytes; no program. -/
namespace Go.Proofs.Ytmkcnoaphoiiaaa

def dgB (k : Nat) : UInt8 := UInt8.ofNat (48 + k)

theorem dgB_nat {k : Nat} (h : k < 10) : (dgB k).toNat = 48 + k := by
  unfold dgB; simp [UInt8.toNat_ofNat']; omega

theorem dgB_inj {j k : Nat} (hj : j < 10) (hk : k < 10) (h : dgB j = dgB k) : j = k := by
  have := congrArg UInt8.toNat h
  rw [dgB_nat hj, dgB_nat hk] at this
  omega

theorem dgB_of {b : UInt8} (h : 48 ≤ b.toNat ∧ b.toNat ≤ 57) : b = dgB (b.toNat - 48) := by
  apply UInt8.toNat_inj.1
  rw [dgB_nat (by omega)]; omega

/-- The clock of a minute of the day. -/
def clockL (m : Nat) : List UInt8 := [dgB (m / 60 / 10), dgB (m / 60 % 10), 46, dgB (m % 60 / 10), dgB (m % 60 % 10)]
def clockB (m : Nat) : ByteArray := ⟨(clockL m).toArray⟩

theorem clockB_size (m : Nat) : (clockB m).size = 5 := rfl

theorem ba_ext {s t : ByteArray} (h : s.data.toList = t.data.toList) : s = t := by
  cases s with | mk a => cases t with | mk b => simp at h; subst h; rfl

theorem clockL_inj {j k : Nat} (hj : j < 1440) (hk : k < 1440) (h : clockL j = clockL k) : j = k := by
  unfold clockL at h
  simp only [List.cons.injEq, and_true, true_and] at h
  obtain ⟨h1, h2, h3, h4⟩ := h
  have h1 := dgB_inj (by omega) (by omega) h1
  have h2 := dgB_inj (by omega) (by omega) h2
  have h3 := dgB_inj (by omega) (by omega) h3
  have h4 := dgB_inj (by omega) (by omega) h4
  omega

theorem clockB_inj {j k : Nat} (hj : j < 1440) (hk : k < 1440) (h : clockB j = clockB k) : j = k := by
  refine clockL_inj hj hk ?_
  have := congrArg (fun s : ByteArray => s.data.toList) h
  simpa [clockB] using this

/-- The minute whose clock a text is, if it is one. -/
def fromB (s : ByteArray) : Option Nat := (List.range 1440).find? fun m => decide (clockB m = s)

theorem fromB_some {s : ByteArray} {m : Nat} (hm : m < 1440) (h : clockB m = s) : fromB s = some m := by
  unfold fromB
  subst h
  rw [List.find?_range_eq_some]
  refine ⟨by simp, by simpa using hm, fun j hj => ?_⟩
  simp
  intro h
  have := clockB_inj (by omega) hm h
  omega

theorem fromB_none {s : ByteArray} (h : ∀ m, m < 1440 → clockB m ≠ s) : fromB s = none := by
  unfold fromB
  rw [List.find?_eq_none]
  intro m hm
  simp at hm ⊢
  exact h m hm

/-- What a text of five bytes says. -/
theorem from_five {s : ByteArray} (h : s.size = 5) (m : Nat) :
    clockB m = s ↔ (s[0] = dgB (m / 60 / 10) ∧ s[1] = dgB (m / 60 % 10) ∧ s[2] = 46 ∧ s[3] = dgB (m % 60 / 10) ∧ s[4] = dgB (m % 60 % 10)) := by
  have hs : s.data.toList = [s[0], s[1], s[2], s[3], s[4]] := by
    obtain ⟨⟨l⟩⟩ := s
    match l, h with
    | [a, b, c, d, e], _ => rfl
  constructor
  · rintro rfl
    exact ⟨rfl, rfl, rfl, rfl, rfl⟩
  · rintro ⟨h0, h1, h2, h3, h4⟩
    apply ba_ext
    rw [hs, h0, h1, h2, h3, h4]
    rfl

def isDg (b : UInt8) : Bool := decide (48 ≤ b.toNat) && decide (b.toNat ≤ 57)
def numD (a b : UInt8) : Nat := (a.toNat - 48) * 10 + (b.toNat - 48)

theorem isDg_iff (b : UInt8) : isDg b = true ↔ 48 ≤ b.toNat ∧ b.toNat ≤ 57 := by simp [isDg]

theorem isDg_dgB {k : Nat} (h : k < 10) : isDg (dgB k) = true := by
  rw [isDg_iff, dgB_nat h]; omega

theorem numD_dgB {j k : Nat} (hj : j < 10) (hk : k < 10) : numD (dgB j) (dgB k) = j * 10 + k := by
  unfold numD; rw [dgB_nat hj, dgB_nat hk]; omega

/-- Five bytes that are a clock. -/
def isClock (a b c d e : UInt8) : Bool := decide (c = 46) && isDg a && isDg b && isDg d && isDg e && decide (numD a b < 24) && decide (numD d e < 60)

theorem from_yes {s : ByteArray} (h : s.size = 5) (hc : isClock s[0] s[1] s[2] s[3] s[4] = true) : fromB s = some (numD s[0] s[1] * 60 + numD s[3] s[4]) := by
  simp only [isClock, Bool.and_eq_true, decide_eq_true_eq] at hc
  obtain ⟨⟨⟨⟨⟨⟨h2, d0⟩, d1⟩, d3⟩, d4⟩, hh⟩, hm⟩ := hc
  have e0 := dgB_of ((isDg_iff _).1 d0)
  have e1 := dgB_of ((isDg_iff _).1 d1)
  have e3 := dgB_of ((isDg_iff _).1 d3)
  have e4 := dgB_of ((isDg_iff _).1 d4)
  have f0 := (isDg_iff _).1 d0
  have f1 := (isDg_iff _).1 d1
  have f3 := (isDg_iff _).1 d3
  have f4 := (isDg_iff _).1 d4
  have m60 : (numD s[0] s[1] * 60 + numD s[3] s[4]) / 60 = numD s[0] s[1] := by omega
  have r60 : (numD s[0] s[1] * 60 + numD s[3] s[4]) % 60 = numD s[3] s[4] := by omega
  refine fromB_some (by omega) ((from_five h _).2 ?_)
  rw [m60, r60]
  have a0 : numD s[0] s[1] / 10 = s[0].toNat - 48 := by unfold numD; omega
  have a1 : numD s[0] s[1] % 10 = s[1].toNat - 48 := by unfold numD; omega
  have a3 : numD s[3] s[4] / 10 = s[3].toNat - 48 := by unfold numD; omega
  have a4 : numD s[3] s[4] % 10 = s[4].toNat - 48 := by unfold numD; omega
  rw [a0, a1, a3, a4]
  exact ⟨e0, e1, h2, e3, e4⟩

theorem from_no5 {s : ByteArray} (h : s.size ≠ 5) : fromB s = none :=
  fromB_none fun m _ e => h (by rw [← e]; exact clockB_size m)

theorem from_no {s : ByteArray} (h : s.size = 5) (hc : isClock s[0] s[1] s[2] s[3] s[4] = false) : fromB s = none := by
  refine fromB_none fun m hm e => ?_
  obtain ⟨h0, h1, h2, h3, h4⟩ := (from_five h m).1 e
  rw [h0, h1, h2, h3, h4] at hc
  simp only [isClock, isDg_dgB (show m / 60 / 10 < 10 by omega), isDg_dgB (show m / 60 % 10 < 10 by omega), isDg_dgB (show m % 60 / 10 < 10 by omega), isDg_dgB (show m % 60 % 10 < 10 by omega),
    numD_dgB (show m / 60 / 10 < 10 by omega) (show m / 60 % 10 < 10 by omega), numD_dgB (show m % 60 / 10 < 10 by omega) (show m % 60 % 10 < 10 by omega)] at hc
  simp at hc
  omega

theorem fromB_lt {s : ByteArray} {m : Nat} (h : fromB s = some m) : m < 1440 ∧ clockB m = s := by
  unfold fromB at h
  rw [List.find?_range_eq_some] at h
  have h2 := h.2.1
  simp at h h2
  exact ⟨h2, h.1⟩

end Go.Proofs.Ytmkcnoaphoiiaaa
