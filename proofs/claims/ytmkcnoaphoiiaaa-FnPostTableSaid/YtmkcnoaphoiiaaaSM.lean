/- Timetables in memory: a list of halts, linked both ways. -/
import Derived.Test.YtmkcnoaphoiiaaaTC
import Derived.Test.YtmkcnoaphoiiaaaSA
import Derived.Test.YtmkcnoaphoiiaaaCB
import Derived.Lib.Hide
namespace Go.Proofs.Ytmkcnoaphoiiaaa
open Go.RowKit

section
variable {w w' : World} {g : Nat} {t : TypeId} {cs : Array Value}
end

def ptB (o : Option Nat) : Value := .pointer (o.map fun b => ⟨b, 0, none⟩)
def before (hs : List Nat) (i : Nat) : Option Nat := match i with | 0 => none | j + 1 => hs[j]?
def haltC (hs : List Nat) (l : List Rd) (i : Nat) : Array Value :=
  #[.int .i64 (l.getD i rd0).a, .int .i64 (l.getD i rd0).b, .int .i64 (l.getD i rd0).m, .int .i64 (i : Int), ptB (before hs i), ptB hs[i + 1]?]

/-- The timetable at block tb, its halts at the blocks hs, is of the stops l. -/
structure TT (w : World) (tb : Nat) (hs : List Nat) (l : List Rd) : Prop where
  len : hs.length = l.length
  top : Whole w tb 133 #[ptB hs[0]?, ptB (before hs hs.length)]
  halts : ∀ i, i < l.length → Whole w (hs.getD i 0) 123 (haltC hs l i)
  up : ∀ i, i < l.length → tb < hs.getD i 0
  inc : ∀ i j, i < j → j < l.length → hs.getD i 0 < hs.getD j 0

section
variable {w w' : World} {tb : Nat} {hs : List Nat} {l : List Rd}

theorem getNat (hs : List Nat) {i : Nat} (h : i < hs.length) : hs[i]? = some (hs.getD i 0) := by simp [List.getD, h]

theorem TT.below (h : TT w tb hs l) (hb : Below w.heap.size w w') : TT w' tb hs l :=
  ⟨h.len, h.top.below hb h.top.lt, fun i hi => (h.halts i hi).below hb (h.halts i hi).lt, h.up, h.inc⟩

theorem TT.drewN (h : TT w tb hs l) (n : Nat) : TT (w.drewN n) tb hs l := ⟨h.len, h.top, h.halts, h.up, h.inc⟩

theorem TT.first_some (h : TT w tb hs l) (hl : 0 < l.length) : w.cell? ⟨tb, 0, none⟩ = some (.pointer (some ⟨hs.getD 0 0, 0, none⟩)) := by
  refine h.top.cell ?_
  rw [getNat hs (by rw [h.len]; exact hl)]
  rfl

theorem TT.first_none (h : TT w tb hs l) (hl : l.length = 0) : w.cell? ⟨tb, 0, none⟩ = some (.pointer none) := by
  refine h.top.cell ?_
  have : hs = [] := List.eq_nil_of_length_eq_zero (by rw [h.len]; exact hl)
  subst this
  rfl

theorem TT.last_some (h : TT w tb hs l) {k : Nat} (hl : l.length = k + 1) : w.cell? ⟨tb, 1, none⟩ = some (.pointer (some ⟨hs.getD k 0, 0, none⟩)) := by
  refine h.top.cell ?_
  have e : hs.length = k + 1 := by rw [h.len]; exact hl
  rw [e]
  show some (ptB hs[k]?) = _
  rw [getNat hs (by omega)]
  rfl

theorem TT.last_none (h : TT w tb hs l) (hl : l.length = 0) : w.cell? ⟨tb, 1, none⟩ = some (.pointer none) := by
  refine h.top.cell ?_
  have : hs = [] := List.eq_nil_of_length_eq_zero (by rw [h.len]; exact hl)
  subst this
  rfl

theorem TT.town (h : TT w tb hs l) {i : Nat} (hi : i < l.length) : w.cell? ⟨hs.getD i 0, 0, none⟩ = some (.int .i64 (l.getD i rd0).a) := (h.halts i hi).cell rfl
theorem TT.arrive (h : TT w tb hs l) {i : Nat} (hi : i < l.length) : w.cell? ⟨hs.getD i 0, 1, none⟩ = some (.int .i64 (l.getD i rd0).b) := (h.halts i hi).cell rfl
theorem TT.leave (h : TT w tb hs l) {i : Nat} (hi : i < l.length) : w.cell? ⟨hs.getD i 0, 2, none⟩ = some (.int .i64 (l.getD i rd0).m) := (h.halts i hi).cell rfl
theorem TT.index (h : TT w tb hs l) {i : Nat} (hi : i < l.length) : w.cell? ⟨hs.getD i 0, 3, none⟩ = some (.int .i64 (i : Int)) := (h.halts i hi).cell rfl
theorem TT.prev_none (h : TT w tb hs l) (hi : 0 < l.length) : w.cell? ⟨hs.getD 0 0, 4, none⟩ = some (.pointer none) := (h.halts 0 hi).cell rfl
theorem TT.prev_some (h : TT w tb hs l) {i : Nat} (hi : i + 1 < l.length) : w.cell? ⟨hs.getD (i + 1) 0, 4, none⟩ = some (.pointer (some ⟨hs.getD i 0, 0, none⟩)) := by
  refine (h.halts (i + 1) hi).cell ?_
  show some (ptB hs[i]?) = _
  rw [getNat hs (by rw [h.len]; omega)]
  rfl
theorem TT.next_some (h : TT w tb hs l) {i : Nat} (hi : i + 1 < l.length) : w.cell? ⟨hs.getD i 0, 5, none⟩ = some (.pointer (some ⟨hs.getD (i + 1) 0, 0, none⟩)) := by
  refine (h.halts i (by omega)).cell ?_
  show some (ptB hs[i + 1]?) = _
  rw [getNat hs (by rw [h.len]; omega)]
  rfl
theorem TT.next_none (h : TT w tb hs l) {i : Nat} (hi : i + 1 = l.length) : w.cell? ⟨hs.getD i 0, 5, none⟩ = some (.pointer none) := by
  refine (h.halts i (by omega)).cell ?_
  show some (ptB hs[i + 1]?) = _
  rw [List.getElem?_eq_none (by rw [h.len]; omega)]
  rfl
end

/-- Nothing yet. -/
theorem TT.empty (w : World) : TT (w.alloc (.cells #[.pointer none, .pointer none] 133)) w.heap.size [] [] :=
  ⟨rfl, Whole.made _ _ _, fun i hi => by simp at hi, fun i hi => by simp at hi, fun i j _ hj => by simp at hj⟩

theorem getD_snoc_lt (hs : List Nat) (nb : Nat) {i : Nat} (h : i < hs.length) : (hs ++ [nb]).getD i 0 = hs.getD i 0 := by
  simp [List.getD, List.getElem?_append, h]
theorem getD_snoc_eq (hs : List Nat) (nb : Nat) {i : Nat} (h : i = hs.length) : (hs ++ [nb]).getD i 0 = nb := by
  subst h; simp [List.getD]
theorem getR_snoc_lt (l : List Rd) (r : Rd) {i : Nat} (h : i < l.length) : (l ++ [r]).getD i rd0 = l.getD i rd0 := by
  simp [List.getD, List.getElem?_append, h]
theorem getR_snoc_eq (l : List Rd) (r : Rd) {i : Nat} (h : i = l.length) : (l ++ [r]).getD i rd0 = r := by
  subst h; simp [List.getD]

theorem before_snoc (hs : List Nat) (nb : Nat) {i : Nat} (h : i ≤ hs.length) : before (hs ++ [nb]) i = before hs i := by
  cases i with
  | zero => rfl
  | succ j => show (hs ++ [nb])[j]? = hs[j]?; rw [List.getElem?_append_left (by omega)]

/-- The first halt. -/
theorem TT.push_first {w w' : World} {tb : Nat} {r : Rd} {nb : Nat} (h : TT w tb [] [])
    (hb : Below w.heap.size ((w.setCell ⟨tb, 0, none⟩ (.pointer (some ⟨nb, 0, none⟩))).setCell ⟨tb, 1, none⟩ (.pointer (some ⟨nb, 0, none⟩))) w')
    (hn : Whole w' nb 123 #[.int .i64 r.a, .int .i64 r.b, .int .i64 r.m, .int .i64 0, .pointer none, .pointer none]) (hge : w.heap.size ≤ nb) :
    TT w' tb [nb] [r] := by
  have hlt := h.top.lt
  refine ⟨rfl, ?_, fun i hi => ?_, fun i hi => ?_, fun i j hij hj => ?_⟩
  · exact Whole.below ((h.top.set 0 _).set 1 _) hb hlt
  · obtain rfl : i = 0 := by simp at hi; omega
    exact hn
  · obtain rfl : i = 0 := by simp at hi; omega
    show tb < nb
    omega
  · simp at hj; omega

/-- One more halt behind the last. -/
theorem TT.push_more {w w' : World} {tb : Nat} {hs : List Nat} {l : List Rd} {r : Rd} {nb k : Nat} (h : TT w tb hs l) (hk : l.length = k + 1)
    (hb : Below w.heap.size ((w.setCell ⟨hs.getD k 0, 5, none⟩ (.pointer (some ⟨nb, 0, none⟩))).setCell ⟨tb, 1, none⟩ (.pointer (some ⟨nb, 0, none⟩))) w')
    (hn : Whole w' nb 123 #[.int .i64 r.a, .int .i64 r.b, .int .i64 r.m, .int .i64 ((k + 1 : Nat) : Int), .pointer (some ⟨hs.getD k 0, 0, none⟩), .pointer none]) (hge : w.heap.size ≤ nb) :
    TT w' tb (hs ++ [nb]) (l ++ [r]) := by
  have hlen := h.len
  have hup := h.up k (by omega)
  have htl := h.top.lt
  have hlt : ∀ i, i < l.length → hs.getD i 0 < w.heap.size := fun i hi => (h.halts i hi).lt
  have hkn := hlt k (by omega)
  refine ⟨by simp [hlen], ?_, fun i hi => ?_, fun i hi => ?_, fun i j hij hj => ?_⟩
  · have h1 := Whole.below ((h.top.off (p := ⟨hs.getD k 0, 5, none⟩) (by simp only; omega) (.pointer (some ⟨nb, 0, none⟩))).set 1 (.pointer (some ⟨nb, 0, none⟩))) hb htl
    have e0 : (hs ++ [nb])[0]? = hs[0]? := List.getElem?_append_left (by omega)
    have e1 : before (hs ++ [nb]) (hs ++ [nb]).length = some nb := by
      rw [List.length_append, List.length_singleton]
      show (hs ++ [nb])[hs.length]? = some nb
      simp
    rw [e0, e1]
    exact h1
  · simp only [List.length_append, List.length_singleton] at hi
    by_cases hik : i = k + 1
    · subst hik
      rw [getD_snoc_eq hs nb (by omega)]
      unfold haltC
      rw [getR_snoc_eq l r (by omega), before_snoc hs nb (by omega)]
      have e1 : (hs ++ [nb])[k + 1 + 1]? = none := List.getElem?_eq_none (by simp; omega)
      have e2 : before hs (k + 1) = some (hs.getD k 0) := getNat hs (by omega)
      rw [e1, e2]
      exact hn
    · have hil : i < l.length := by omega
      rw [getD_snoc_lt hs nb (by omega)]
      have h0 := h.halts i hil
      unfold haltC at h0 ⊢
      rw [getR_snoc_lt l r hil, before_snoc hs nb (by omega)]
      by_cases hi2 : i = k
      · subst hi2
        have h1 := Whole.below ((h0.set 5 (.pointer (some ⟨nb, 0, none⟩))).off (p := ⟨tb, 1, none⟩) (by simp only; omega) (.pointer (some ⟨nb, 0, none⟩))) hb (hlt i hil)
        have e1 : (hs ++ [nb])[i + 1]? = some nb := by
          have : i + 1 = hs.length := by omega
          rw [this]; simp
        rw [e1]
        exact h1
      · have hne := h.inc i k (by omega) (by omega)
        have h1 := Whole.below ((h0.off (p := ⟨hs.getD k 0, 5, none⟩) (by simp only; omega) (.pointer (some ⟨nb, 0, none⟩))).off (p := ⟨tb, 1, none⟩) (by have := h.up i hil; simp only; omega) (.pointer (some ⟨nb, 0, none⟩))) hb (hlt i hil)
        have e1 : (hs ++ [nb])[i + 1]? = hs[i + 1]? := List.getElem?_append_left (by omega)
        rw [e1]
        exact h1
  · simp only [List.length_append, List.length_singleton] at hi
    by_cases hik : i = k + 1
    · rw [getD_snoc_eq hs nb (by omega)]; omega
    · rw [getD_snoc_lt hs nb (by omega)]; exact h.up i (by omega)
  · simp only [List.length_append, List.length_singleton] at hj
    by_cases hjk : j = k + 1
    · rw [getD_snoc_eq hs nb (i := j) (by omega), getD_snoc_lt hs nb (by omega)]; have := hlt i (by omega); omega
    · rw [getD_snoc_lt hs nb (i := j) (by omega), getD_snoc_lt hs nb (i := i) (by omega)]; exact h.inc i j hij (by omega)

end Go.Proofs.Ytmkcnoaphoiiaaa
