/- StopsLater: plainly; the program's. -/
import Derived.Test.YtmkcnoaphoiiaaaSC
import Derived.Test.YtmkcnoaphoiiaaaSD
import Derived.Test.YtmkcnoaphoiiaaaBZ
import Derived.Deep.RegionLaw
import Derived.Deep.AppendLies
namespace Go.Proofs.Ytmkcnoaphoiiaaa
open Go.RowKit

def latR (k : Int) (r : Rd) : Rd := ⟨r.a, IntKind.i64.wrap (r.b + k), IntKind.i64.wrap (r.m + k)⟩
def laterW (l : List Rd) (k : Int) : List Rd := l.map (latR k)
def laterOk (n : Int) (l : List Rd) (k : Int) : Bool := validS n l && validS n (laterW l k)
def laterL (n : Int) (l : List Rd) (k : Int) : List Rd := if laterOk n l k = true then laterW l k else []

theorem laterW_len (l : List Rd) (k : Int) : (laterW l k).length = l.length := by simp [laterW]

theorem laterW_take (l : List Rd) (k : Int) {i : Nat} (h : i < l.length) : laterW (l.take (i + 1)) k = laterW (l.take i) k ++ [latR k (l.getD i rd0)] := by
  rw [take_snocD l i h]; simp [laterW]

/-- Beyond a day's times nothing is one. -/
theorem later_far {n : Int} {l : List Rd} {k : Int} (hz : validS n l = true) (hw : W64 k) (hk : ¬ (-10000 ≤ k ∧ k ≤ 10000)) : validS n (laterW l k) = false := by
  have h2 := (validS_iff.1 hz).1.2.2.1
  have h0 := validS_at hz (show 0 < l.length by omega)
  refine validS_no (i := 0) (by rw [laterW_len]; omega) ?_
  rw [Bool.eq_false_iff]
  intro h
  have h3 := (fitsS_iff _ _).1 ((okS_iff _ _ _).1 h).1
  have e : (laterW l k).getD 0 rd0 = latR k (l.getD 0 rd0) := by
    unfold laterW
    rw [getD_eq _ (by simp; omega), getD_eq l (by omega)]
    simp
  rw [e] at h3
  unfold W64 at hw
  unfold latR at h3
  simp only [IntKind.wrap_i64] at h3
  omega

/-- What ifTimetable gives. -/
def IfOut (n : Int) (ad : Option Addr) (cap : Nat) (xs : List Rd) (w : World) (e : Ending) (w' : World) : Prop :=
  Below w.heap.size w w' ∧ ((validS n xs = true ∧ e = .returned (.tuple #[.slice ad xs.length cap, .bool true])) ∨
    (validS n xs = false ∧ ∃ g, w.heap.size ≤ g ∧ g < w'.heap.size ∧ e = .returned (.tuple #[.slice (some ⟨g, 0, none⟩) 0 0, .bool false])))

set_option maxHeartbeats 400000 in
theorem ifT_any (n : Int) (ad : Option Addr) (cap : Nat) (xs : List Rd) (w : World) (hv : RoadsIn w (.slice ad xs.length cap) xs) (hm : xs.length ≤ 1048576) :
    Calls Try.prog 99 #[.int .i64 n, .slice ad xs.length cap] w (IfOut n ad cap xs w) := by
  have Hc := Lib.hid (valid2_any n _ xs w hv hm)
  clear hv
  cases hz : validS n xs with
  | true =>
    have Hz := Lib.hid hz; clear hz
    go_enter Try.func99, Try.ntmps99
    go_wp2_with fail
    refine (Hc.out).mono ?_; rintro e w1 ⟨rfl, hb⟩
    rw [Hz.out]
    go_wp2
    go_ret2
    exact ⟨hb, .inl ⟨Hz.out, rfl⟩⟩
  | false =>
    have Hz := Lib.hid hz; clear hz
    go_enter Try.func99, Try.ntmps99
    go_wp2_with fail
    refine (Hc.out).mono ?_; rintro e w1 ⟨rfl, hb⟩
    rw [Hz.out]
    go_wp2
    go_ret2
    exact ⟨hb.alloc hb.size _, .inr ⟨Hz.out, _, hb.size, by simp, rfl⟩⟩

def L2Rel (l : List Rd) (k : Int) (hs : List Nat) (w : World) (gk : Nat) (v hv : Value) (wr : World) : Prop :=
  ∃ i : Nat, i + gk = l.length ∧ hv = ptB hs[i]? ∧ OwnS wr w.heap.size v (laterW (l.take i) k) ∧ Below w.heap.size w wr

end Go.Proofs.Ytmkcnoaphoiiaaa
