/- The laws' sameInts. -/
import Derived.Test.YtmdcpigobfhckaaI
namespace Go.Proofs.Ytmdcpigobfhckaa
open Go.RowKit

set_option maxHeartbeats 400000 in
theorem sameInts_any (v v' : Value) (l l' : List Int) (w : World) (hv : IntsIn w v l) (hv' : IntsIn w v' l') (hl : l.length ≤ 1048576) :
    Calls Try.prog 63 #[v, v'] w (EqIOut (l = l') w) := by
  obtain ⟨a, cap, rfl, hcap, ha⟩ := hv
  clear hcap
  obtain ⟨a', cap', rfl, hcap', ha'⟩ := hv'
  clear hcap'
  by_cases hle : l.length = l'.length
  · have Ha := Lib.hid ha; clear ha
    have Ha' := Lib.hid ha'; clear ha'
    have h1 : ((l.length : Int) != (l'.length : Int)) = false := by simp [hle]
    have Hle := Lib.hid hle; clear hle
    go_enter Try.func63, Try.ntmps63
    go_wp2
    clear h1
    go_loopw [5] (fun i wr => EqIRel l l' w i wr) (fun i _ => l.length - (intOf i).toNat)
    case atStart => exact ⟨0, Nat.zero_le _, rfl, fun i hi => by omega, Below.refl _ _⟩
    case round =>
      obtain ⟨k, hk, rfl, heq, hbel⟩ := hrel
      have Heq := Lib.hid heq; clear heq
      by_cases hlt : k < l.length
      · have hlt' : k < l'.length := Hle.out ▸ hlt
        obtain ⟨b, o, rfl, hb, hrw⟩ := Ha.out (by intro h; simp [h] at hlt)
        obtain ⟨b', o', rfl, hb', hrw'⟩ := Ha'.out (by intro h; simp [h] at hlt')
        have c0 := (hrw.below hbel hb) k hlt
        have c0' := (hrw'.below hbel hb') k hlt'
        have Hrw := Lib.hid hrw; clear hrw
        have Hrw' := Lib.hid hrw'; clear hrw'
        have hk0 : (0 : Int) ≤ (k : Int) := Int.natCast_nonneg _
        have hk1 : (k : Int) < (l.length : Int) := by omega
        have hk1' : (k : Int) < (l'.length : Int) := by omega
        generalize hx : l.getD k 0 = x at *
        generalize hy : l'.getD k 0 = y at *
        have Hx := Lib.hid hx; clear hx
        have Hy := Lib.hid hy; clear hy
        by_cases hq : (x != y) = true
        · go_wp2
          go_quiet (fail)
          go_wp2
          go_ret
          refine ⟨⟨false, rfl, ?_⟩, hbel.drewN _⟩
          simp only [Bool.false_eq_true, false_iff]
          rintro rfl
          rw [← Hx.out, ← Hy.out] at hq
          simp at hq
        · have hq' : (x != y) = false := by simpa using hq
          clear hq
          go_wp2
          go_quiet (fail)
          go_wp2
          refine ⟨⟨k + 1, hlt, by go_num, fun i hi => ?_, hbel.drewN _⟩, by simp [intOf]; omega⟩
          by_cases hik : i = k
          · subst hik; rw [Hx.out, Hy.out]; simpa using hq'
          · exact Heq.out i (by omega)
      · obtain rfl : k = l.length := by omega
        go_wp2
        go_ret
        exact ⟨⟨true, rfl, by simp only [true_iff]; exact eqITo_all Hle.out Heq.out⟩, hbel⟩
  · have h1 : ((l.length : Int) != (l'.length : Int)) = true := by simp; omega
    have Hle := Lib.hid hle; clear hle
    have Ha := Lib.hid ha; clear ha
    have Ha' := Lib.hid ha'; clear ha'
    go_enter Try.func63, Try.ntmps63
    go_wp2
    go_ret
    exact ⟨⟨false, rfl, by simp; rintro rfl; exact Hle.out rfl⟩, Below.refl _ _⟩

end Go.Proofs.Ytmdcpigobfhckaa
