/- What the functions on proprietors answer. -/
import Derived.Test.YthdkjjfnockldaaQH
namespace Go.Proofs.Ythdkjjfnockldaa

theorem if_yes {α : Type} {p : Bool} {a b : α} (h : p = true) : (if p then a else b) = a := by simp [h]
theorem if_no {α : Type} {p : Bool} {a b : α} (h : p = false) : (if p then a else b) = b := by simp [h]

def milesX (l : List Pt) : List Int := if validP l then cnt6 (ownP l) else []
theorem milesX_short (l : List Pt) : (milesX l).length ≤ 1048576 := by unfold milesX; split <;> simp [cnt6_len]
def lenX (l : List Pt) : Int := if validP l then (ownP l).length else -1
def mileOk (l : List Pt) (m : Int) : Bool := validP l && (decide (0 ≤ m) && decide (m < (ownP l).length))
theorem mileOk_iff {l : List Pt} {m : Int} : mileOk l m = true ↔ validP l = true ∧ 0 ≤ m ∧ m < (ownP l).length := by simp [mileOk]
def mileX (l : List Pt) (m : Int) : Int := if mileOk l m then ownAt l m.toNat else 0
def plainOk (l : List Pt) : Bool := validP l && validP (plainL (ownP l))
def plainX (l : List Pt) : List Pt := if plainOk l then plainL (ownP l) else []
theorem plainX_short (l : List Pt) : (plainX l).length ≤ 1048576 := by
  unfold plainX plainOk; split
  · rename_i h; simp only [Bool.and_eq_true] at h; have := (validP_iff.1 h.2).2.1; omega
  · simp
def strOk (l : List Pt) (a b : Int) : Bool := validP l && (decide (0 ≤ a) && (decide (a < b) && decide (b ≤ (ownP l).length)))
theorem strOk_iff {l : List Pt} {a b : Int} : strOk l a b = true ↔ validP l = true ∧ 0 ≤ a ∧ a < b ∧ b ≤ (ownP l).length := by simp [strOk]
def soldL (l : List Pt) (a b o : Int) : List Int := (List.range (ownP l).length).map (soldAt (ownAt l) a b o)
def sellOk (l : List Pt) (a b o : Int) : Bool := strOk l a b && (okOw o && validP (plainL (soldL l a b o)))
def sellX (l : List Pt) (a b o : Int) : List Pt := if sellOk l a b o then plainL (soldL l a b o) else []
theorem sellX_short (l : List Pt) (a b o : Int) : (sellX l a b o).length ≤ 1048576 := by
  unfold sellX sellOk; split
  · rename_i h; simp only [Bool.and_eq_true] at h; have := (validP_iff.1 h.2.2).2.1; omega
  · simp
def turnX (l : List Pt) : List Pt := if validP l then l.reverse else []
theorem turnX_short (l : List Pt) : (turnX l).length ≤ 1048576 := by
  unfold turnX; split
  · rename_i h; have := (validP_iff.1 h).2.1; simp; omega
  · simp
def joinOk (a b : List Pt) : Bool := validP a && (validP b && validP (a ++ b))
def joinX (a b : List Pt) : List Pt := if joinOk a b then a ++ b else []
theorem joinX_short (a b : List Pt) : (joinX a b).length ≤ 1048576 := by
  unfold joinX joinOk; split
  · rename_i h; simp only [Bool.and_eq_true] at h; have := (validP_iff.1 h.2.2).2.1; omega
  · simp
def makeOk (l : List Pt) (amt : Int) : Bool := validP l && okAm amt
def makeX (l : List Pt) (amt : Int) : List Int := if makeOk l amt then shareL (cnt6 (ownP l)) amt else []
theorem makeX_short (l : List Pt) (amt : Int) : (makeX l amt).length ≤ 1048576 := by
  unfold makeX; split
  · rw [shareL_len, cnt6_len]; omega
  · simp
def dueX (l : List Pt) (amt : Int) : List Int := if makeOk l amt then dueL (cnt6 (ownP l)) amt else []
theorem dueX_short (l : List Pt) (amt : Int) : (dueX l amt).length ≤ 1048576 := by
  unfold dueX; split
  · rw [dueL_len, cnt6_len]; omega
  · simp
/-- The owners of the miles that are ridden. -/
def rideL (l : List Pt) (a b : Int) : List Int := ((List.range (ownP l).length).filter (inS a b)).map (ownAt l)
def rideOk (l : List Pt) (a b amt : Int) : Bool := strOk l a b && okAm amt
def riddX (l : List Pt) (a b amt : Int) : List Int := if rideOk l a b amt then shareL (cnt6 (rideL l a b)) amt else []
theorem riddX_short (l : List Pt) (a b amt : Int) : (riddX l a b amt).length ≤ 1048576 := by
  unfold riddX; split
  · rw [shareL_len, cnt6_len]; omega
  · simp
/-- Amounts of which the sum can be shared. -/
def tkOk (t : List Int) : Bool := decide (t.length = 6) && (t.all (fun x => decide (0 ≤ x)) && decide (t.sum ≤ 1000000))
theorem tkOk_iff {t : List Int} : tkOk t = true ↔ t.length = 6 ∧ (∀ x ∈ t, 0 ≤ x) ∧ t.sum ≤ 1000000 := by simp [tkOk]
def setOk (l : List Pt) (t : List Int) : Bool := tkOk t && validP l
def setX (l : List Pt) (t : List Int) : List Int := if setOk l t then List.zipWith (fun a b => a - b) (shareL (cnt6 (ownP l)) t.sum) t else []
theorem setX_short (l : List Pt) (t : List Int) : (setX l t).length ≤ 1048576 := by
  unfold setX; split
  · rename_i h
    simp only [List.length_zipWith, shareL_len, cnt6_len]; omega
  · simp

theorem cntP_sum {l : List Pt} (h : validP l = true) : (cnt6 (ownP l)).sum = (ownP l).length := cnt6_sum _ (ownP_ok h)
theorem cntP_pos {l : List Pt} (h : validP l = true) : 0 < (cnt6 (ownP l)).sum ∧ (cnt6 (ownP l)).sum ≤ 7128 := by
  rw [cntP_sum h]; have := ownP_pos h; have := ownP_len h; omega
theorem rideL_mem {l : List Pt} (h : validP l = true) {a b : Int} : ∀ x ∈ rideL l a b, 0 ≤ x ∧ x ≤ 5 := by
  intro x hx
  simp only [rideL, List.mem_map] at hx
  obtain ⟨k, _, rfl⟩ := hx
  exact ownAt_ok h k
theorem rideL_len {l : List Pt} (h : validP l = true) {a b : Int} : (rideL l a b).length ≤ 1188 := by
  unfold rideL
  rw [List.length_map]
  have := List.length_filter_le (inS a b) (List.range (ownP l).length)
  rw [List.length_range] at this
  have := ownP_len h; omega
theorem rideL_pos {l : List Pt} {a b : Int} (h : strOk l a b = true) : 0 < (cnt6 (rideL l a b)).sum ∧ (cnt6 (rideL l a b)).sum ≤ 7128 := by
  obtain ⟨hv, h0, h1, h2⟩ := strOk_iff.1 h
  rw [cnt6_sum _ (rideL_mem hv)]
  have := rideL_len hv (a := a) (b := b)
  have hm : ownAt l a.toNat ∈ rideL l a b := List.mem_map.2 ⟨a.toNat, List.mem_filter.2 ⟨List.mem_range.2 (by omega), inS_iff.2 (by omega)⟩, rfl⟩
  have := List.length_pos_of_mem hm
  omega
theorem cnt6_le (os : List Int) (h : os.length ≤ 1188) : ∀ i, 0 ≤ (cnt6 os).getD i 0 ∧ (cnt6 os).getD i 0 ≤ 1188 := fun i => by
  have := cnt6_bd os i; omega

end Go.Proofs.Ythdkjjfnockldaa
