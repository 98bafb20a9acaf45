/- Lateness, pure. -/
import Derived.Test.YtmkcnoaphoiiaaaSA
namespace Go.Proofs.Ytmkcnoaphoiiaaa

def okDl (x : Int) : Bool := decide (0 ≤ x) && decide (x ≤ 300)
theorem okDl_iff {x : Int} : okDl x = true ↔ 0 ≤ x ∧ x ≤ 300 := by simp [okDl]
/-- The slack of a stop. -/
def slackOf (least : Int) (r : Rd) : Int := max 0 (r.m - r.b - least)
/-- By how much the coach arrives and leaves late at the stop k. -/
def lateTo (l : List Rd) (least start : Int) (ds : List Int) : Nat → Int × Int
  | 0 => (start, start)
  | k + 1 => ((lateTo l least start ds k).2 + ds.getD k 0, max 0 ((lateTo l least start ds k).2 + ds.getD k 0 - slackOf least (l.getD (k + 1) rd0)))
def arrV (l : List Rd) (least start : Int) (ds : List Int) (k : Nat) : Int := (lateTo l least start ds k).1
def leaV (l : List Rd) (least start : Int) (ds : List Int) (k : Nat) : Int := (lateTo l least start ds k).2
theorem arrV_succ (l : List Rd) (least start : Int) (ds : List Int) (k : Nat) : arrV l least start ds (k + 1) = leaV l least start ds k + ds.getD k 0 := rfl
theorem leaV_succ (l : List Rd) (least start : Int) (ds : List Int) (k : Nat) : leaV l least start ds (k + 1) = max 0 (arrV l least start ds (k + 1) - slackOf least (l.getD (k + 1) rd0)) := rfl
def arrL (l : List Rd) (least start : Int) (ds : List Int) (n : Nat) : List Int := (List.range n).map (arrV l least start ds)
def leaL (l : List Rd) (least start : Int) (ds : List Int) (n : Nat) : List Int := (List.range n).map (leaV l least start ds)
theorem arrL_len (l : List Rd) (least start : Int) (ds : List Int) (n : Nat) : (arrL l least start ds n).length = n := by simp [arrL]
theorem leaL_len (l : List Rd) (least start : Int) (ds : List Int) (n : Nat) : (leaL l least start ds n).length = n := by simp [leaL]
theorem arrL_succ (l : List Rd) (least start : Int) (ds : List Int) (n : Nat) : arrL l least start ds (n + 1) = arrL l least start ds n ++ [arrV l least start ds n] := by simp [arrL, List.range_succ]
theorem leaL_succ (l : List Rd) (least start : Int) (ds : List Int) (n : Nat) : leaL l least start ds (n + 1) = leaL l least start ds n ++ [leaV l least start ds n] := by simp [leaL, List.range_succ]
theorem arrL_at (l : List Rd) (least start : Int) (ds : List Int) {n k : Nat} (h : k < n) : (arrL l least start ds n).getD k 0 = arrV l least start ds k := by simp [arrL, List.getD, h]
theorem leaL_at (l : List Rd) (least start : Int) (ds : List Int) {n k : Nat} (h : k < n) : (leaL l least start ds n).getD k 0 = leaV l least start ds k := by simp [leaL, List.getD, h]
def allDl (ds : List Int) : Bool := ds.all okDl
theorem allDl_iff {ds : List Int} : allDl ds = true ↔ ∀ d ∈ ds, okDl d = true := by simp [allDl]
theorem allDl_at {ds : List Int} (h : allDl ds = true) (k : Nat) : 0 ≤ ds.getD k 0 ∧ ds.getD k 0 ≤ 300 := by
  by_cases hk : k < ds.length
  · rw [List.getD_eq_getElem?_getD, List.getElem?_eq_getElem hk]
    exact okDl_iff.1 (allDl_iff.1 h _ (List.getElem_mem hk))
  · rw [List.getD_eq_getElem?_getD, List.getElem?_eq_none (by omega)]; simp
/-- All numbers are in range. -/
def okLate (n : Int) (l : List Rd) (least start : Int) (ds : List Int) : Bool := allDl ds && (validS n l && (okDl least && (okDl start && decide (ds.length + 1 = l.length))))
theorem okLate_iff {n : Int} {l : List Rd} {least start : Int} {ds : List Int} : okLate n l least start ds = true ↔ allDl ds = true ∧ validS n l = true ∧ okDl least = true ∧ okDl start = true ∧ ds.length + 1 = l.length := by simp [okLate]
theorem late_bd {l : List Rd} {least start : Int} {ds : List Int} (hd : allDl ds = true) (hs : 0 ≤ start ∧ start ≤ 300) : ∀ k, 0 ≤ arrV l least start ds k ∧ arrV l least start ds k ≤ 300 * (k + 1) ∧ 0 ≤ leaV l least start ds k ∧ leaV l least start ds k ≤ 300 * (k + 1)
  | 0 => by simp [arrV, leaV, lateTo]; omega
  | k + 1 => by
    have ih := late_bd (l := l) (least := least) hd hs k
    have h1 := allDl_at hd k
    rw [leaV_succ, arrV_succ]
    have h2 : 0 ≤ slackOf least (l.getD (k + 1) rd0) := by unfold slackOf; omega
    omega

/-! What the functions answer. -/
def arrX (n : Int) (l : List Rd) (least start : Int) (ds : List Int) : List Int := if okLate n l least start ds then arrL l least start ds l.length else []
def leaX (n : Int) (l : List Rd) (least start : Int) (ds : List Int) : List Int := if okLate n l least start ds then leaL l least start ds l.length else []
def endX (n : Int) (l : List Rd) (least start : Int) (ds : List Int) : Int := if okLate n l least start ds then arrV l least start ds (l.length - 1) else -1
def sumLate (n : Int) (l : List Rd) (least start : Int) (ds : List Int) : Int := if okLate n l least start ds then (arrL l least start ds l.length).sum else -1
def slkOk (n : Int) (l : List Rd) (least : Int) : Bool := validS n l && okDl least
def slkV (l : List Rd) (least : Int) (i : Nat) : Int := if i = 0 then 0 else slackOf least (l.getD i rd0)
def slkL (l : List Rd) (least : Int) (n : Nat) : List Int := (List.range n).map (slkV l least)
def slkX (n : Int) (l : List Rd) (least : Int) : List Int := if slkOk n l least then slkL l least l.length else []
/-- The slacks between the first stop and the last one. -/
def slkSum (l : List Rd) (least : Int) : Nat → Int
  | 0 => 0
  | k + 1 => slkSum l least k + slkV l least (k + 1)
def freeX (n : Int) (l : List Rd) (least : Int) : Int := if slkOk n l least then min (slkSum l least (l.length - 2)) 300 else -1
def blameX (n : Int) (l : List Rd) (least start : Int) (ds : List Int) (k : Int) : Int :=
  if okLate n l least start ds && (decide (0 ≤ k) && decide (k < ds.length)) then endX n l least start ds - endX n l least start (ds.set k.toNat 0) else -1
/-- The stop as the coach runs. -/
def lateS (l : List Rd) (least start : Int) (ds : List Int) (i : Nat) : Rd := ⟨(l.getD i rd0).a, if i = 0 then (l.getD i rd0).b else (l.getD i rd0).b + arrV l least start ds i, (l.getD i rd0).m + leaV l least start ds i⟩
def lateSL (l : List Rd) (least start : Int) (ds : List Int) (n : Nat) : List Rd := (List.range n).map (lateS l least start ds)
def lateSOk (n : Int) (l : List Rd) (least start : Int) (ds : List Int) : Bool := okLate n l least start ds && validS n (lateSL l least start ds l.length)
def lateSX (n : Int) (l : List Rd) (least start : Int) (ds : List Int) : List Rd := if lateSOk n l least start ds then lateSL l least start ds l.length else []

end Go.Proofs.Ytmkcnoaphoiiaaa
