/- The program's areDelays, slackAt, latenessFrom and its closure. -/
import Derived.Test.YtmkcnoaphoiiaaaSG
import Derived.Test.YtmkcnoaphoiiaaaIZ
import Derived.Test.YtmkcnoaphoiiaaaYB
import Derived.BigRegion
namespace Go.Proofs.Ytmkcnoaphoiiaaa
open Go.RowKit

def AdRel (ds : List Int) (w : World) (iv : Value) (wr : World) : Prop := ∃ k : Nat, k ≤ ds.length ∧ iv = .int .i64 k ∧ (∀ j, j < k → okDl (ds.getD j 0) = true) ∧ w = wr

set_option maxRecDepth 100000 in
set_option maxHeartbeats 800000 in
theorem areDl_any (v : Value) (ds : List Int) (w : World) (hv : IntsIn w v ds) (hl : ds.length ≤ 1048576) :
    Calls Try.prog 91 #[v] w fun e w' => e = .returned (.bool (allDl ds)) ∧ w' = w := by
  obtain ⟨a, cap, rfl, hcap, ha⟩ := hv
  clear hcap
  have Ha := Lib.hid ha; clear ha
  go_enter Try.func91, Try.ntmps91
  go_wp2
  go_loopw [7] (fun iv wr => AdRel ds w iv wr) (fun iv _ => ds.length - (intOf iv).toNat)
  case atStart => exact ⟨0, Nat.zero_le _, rfl, fun j hj => by omega, rfl⟩
  case round =>
    obtain ⟨k, hk, rfl, hall, hw⟩ := hrel
    obtain rfl : w = wr := hw
    by_cases hlt : k < ds.length
    · obtain ⟨b, o, rfl, hb0, hrw⟩ := Ha.out (by intro h; simp [h] at hlt)
      have c0 := hrw k hlt
      have Hno := Lib.hid (fun (h : okDl (ds.getD k 0) = false) => (show allDl ds = false by
        rw [Bool.eq_false_iff]; intro q
        have := allDl_iff.1 q (ds.getD k 0) (by rw [List.getD_eq_getElem?_getD, List.getElem?_eq_getElem hlt]; exact List.getElem_mem hlt)
        rw [h] at this; cases this))
      have Hall := Lib.hid (fun (h : okDl (ds.getD k 0) = true) (j : Nat) (hj : j < k + 1) => (show okDl (ds.getD j 0) = true from by
        by_cases e : j = k
        · rw [e]; exact h
        · exact hall j (by omega)))
      generalize ds.getD k 0 = d at *
      clear hall hrw
      by_cases h0 : d < 0
      · have hn := Lib.hid (Hno.out (by rw [Bool.eq_false_iff]; intro q; have := okDl_iff.1 q; omega))
        clear Hno Hall
        go_wp2
        go_ret
        rw [hn.out]
        exact ⟨rfl, rfl⟩
      · by_cases h1 : 300 < d
        · have hn := Lib.hid (Hno.out (by rw [Bool.eq_false_iff]; intro q; have := okDl_iff.1 q; omega))
          clear Hno Hall
          go_wp2
          go_ret
          rw [hn.out]
          exact ⟨rfl, rfl⟩
        · have ha := Lib.hid (Hall.out (okDl_iff.2 (by omega)))
          clear Hno Hall
          go_wp2
          exact ⟨⟨k + 1, hlt, by go_num, ha.out, rfl⟩, by simp [intOf]; omega⟩
    · obtain rfl : k = ds.length := by omega
      have Hd := Lib.hid (show allDl ds = true from allDl_iff.2 (fun x hx => by
        obtain ⟨i, hi, rfl⟩ := List.mem_iff_getElem.1 hx
        have := hall i hi
        rwa [List.getD_eq_getElem?_getD, List.getElem?_eq_getElem hi] at this))
      clear hall hlt hk
      go_wp2
      go_ret
      rw [Hd.out]
      exact ⟨rfl, rfl⟩

/-- The slack of a halt, by what lies ahead of it. -/
def SlkIs (pv : Option Addr) (b m least s : Int) : Prop := (pv = none ∧ s = 0) ∨ (∃ p, pv = some p ∧ s = max 0 (m - b - least))

theorem Touch.drewA {S : Nat → Prop} {w w' : World} (h : Touch S w w') : Touch S w w'.drew := ⟨h.os, h.tape, h.output, h.size, h.block⟩
/-- What the closure gives: by how much the coach arrives and leaves late; the latter is kept. -/
def NextOut (gl : Nat) (x y : Int) (w : World) (e : Ending) (w' : World) : Prop :=
  e = .returned (.tuple #[.int .i64 x, .int .i64 y]) ∧ Touch (fun j => j = gl) w w' ∧ Whole w' gl 3 #[.int .i64 y]

end Go.Proofs.Ytmkcnoaphoiiaaa
