/- StopsAt: program and model. -/
import Derived.Test.YtmkcnoaphoiiaaaSC
import Derived.Test.YtmkcnoaphoiiaaaSD
namespace Go.Proofs.Ytmkcnoaphoiiaaa
open Go.RowKit

theorem atS_some {l : List Rd} {t : Int} {k : Nat} (hk : k < l.length) (hn : newS l k t = true) (ht : (l.getD k rd0).a = t) : atS l t = some k := by
  unfold atS
  rw [List.findIdx?_eq_some_iff_getElem]
  rw [newS_iff] at hn
  refine ⟨hk, by rw [getD_eq l hk] at ht; simpa using ht, fun j hj => ?_⟩
  have := hn j hj
  rw [getD_eq l (by omega)] at this
  simpa using this

theorem atS_none {l : List Rd} {t : Int} (hn : newS l l.length t = true) : atS l t = none := by
  unfold atS
  rw [List.findIdx?_eq_none_iff]
  rw [newS_iff] at hn
  intro x hx
  obtain ⟨i, hi, rfl⟩ := List.getElem_of_mem hx
  have := hn i hi
  rw [getD_eq l hi] at this
  simpa using this

def atV (l : List Rd) (t : Int) : Int := match atS l t with | some i => (i : Int) | none => -1
theorem atV_some {l : List Rd} {t : Int} {k : Nat} (hk : k < l.length) (hn : newS l k t = true) (ht : (l.getD k rd0).a = t) : atV l t = k := by
  unfold atV; rw [atS_some hk hn ht]
theorem atV_none {l : List Rd} {t : Int} (hn : newS l l.length t = true) : atV l t = -1 := by
  unfold atV; rw [atS_none hn]

def stopsAtV (n : Int) (l : List Rd) (t : Int) : Int := if validS n l = true then atV l t else -1

def AtRel (l : List Rd) (t : Int) (w : World) (i : Value) (wr : World) : Prop := ∃ k : Nat, k ≤ l.length ∧ i = .int .i64 k ∧ newS l k t = true ∧ wr = w

set_option maxRecDepth 100000 in
set_option maxHeartbeats 400000 in
theorem l2At_any (v : Value) (l : List Rd) (t : Int) (w : World) (hv : RoadsIn w v l) (hm : l.length ≤ 1048576) :
    Calls Try.prog 72 #[v, .int .i64 t] w fun e w' => e = .returned (.int .i64 (atV l t)) ∧ w = w' := by
  obtain ⟨a, cap, rfl, ha⟩ := hv
  have Ha := Lib.hid ha; clear ha
  go_enter Try.func72, Try.ntmps72
  go_wp2
  go_loopw [5] (fun i wr => AtRel l t w i wr) (fun i _ => l.length - (intOf i).toNat)
  case atStart => exact ⟨0, Nat.zero_le _, rfl, rfl, rfl⟩
  case round =>
    obtain ⟨k, hk, rfl, hn, rfl⟩ := hrel
    have Hn := Lib.hid hn; clear hn
    by_cases hlt : k < l.length
    · obtain ⟨b, o, rfl, hb0, hrw⟩ := Ha.out (by intro h; simp [h] at hlt)
      obtain ⟨c0, _, _⟩ := hrw k hlt
      clear hrw
      have hk0 : (0 : Int) ≤ (k : Int) := Int.natCast_nonneg _
      have hk1 : (k : Int) < (l.length : Int) := by omega
      have Hlt := Lib.hid hlt
      generalize hx : (l.getD k rd0).a = x at *
      have Hx := Lib.hid hx; clear hx
      by_cases hq : (x == t) = true
      · have hz := atV_some Hlt.out Hn.out (by rw [Hx.out]; simpa using hq)
        have Hz := Lib.hid hz; clear hz
        go_wp2
        go_ret
        exact ⟨ret_int Hz.out.symm, rfl⟩
      · have hq' : (x == t) = false := by simpa using hq
        clear hq
        have hn2 : newS l (k + 1) t = true := by rw [newS_up, Hn.out, Hx.out]; simpa using hq'
        have Hn2 := Lib.hid hn2; clear hn2
        go_wp2
        exact ⟨⟨k + 1, Hlt.out, by go_num, Hn2.out, rfl⟩, by simp [intOf]; omega⟩
    · obtain rfl : k = l.length := by omega
      have hz := atV_none Hn.out
      have Hz := Lib.hid hz; clear hz
      go_wp2
      go_ret
      exact ⟨ret_int Hz.out.symm, rfl⟩

end Go.Proofs.Ytmkcnoaphoiiaaa
