/- The laws' backOf. -/
import Derived.Test.YtnlhnibhgpelfaaAH
import Derived.Test.YtnlhnibhgpelfaaAC
import Derived.Outline
namespace Go.Proofs.Ytnlhnibhgpelfaa
open Go.RowKit

def BkRel (l : List Int) (w : World) (v iv : Value) (wr : World) : Prop :=
  ∃ k : Nat, k ≤ l.length ∧ iv = .int .i64 ((l.length : Int) - 1 - k) ∧ wr.ownsRow w.heap.size 3 1 v k ((l.reverse.take k).map (Value.int .i64)) ∧ Below w.heap.size w wr

set_option maxRecDepth 100000 in
set_option maxHeartbeats 1000000 in
theorem backOf_any (v : Value) (l : List Int) (w : World) (hv : IntsIn w v l) (h0 : 0 < l.length) (hm : l.length ≤ 1048576) :
    Calls Try.prog 34 #[v] w fun e w' => ∃ v', e = .returned v' ∧ IntsIn w' v' l.reverse ∧ Below w.heap.size w w' := by
  obtain ⟨i0, hi, hz0, hz1, hz2⟩ := info_parts Try.info3
  obtain ⟨a, cap, rfl, hc, ha⟩ := hv
  clear hc
  obtain ⟨b, o, rfl, hlt, hat⟩ := ha (by rintro rfl; simp at h0)
  have Hat := Lib.hid hat; clear hat ha
  have HB0 := Lib.hid (show Below w.heap.size w (w.alloc (.cells #[] 3)) from (Below.refl _ w).alloc (Nat.le_refl _) _)
  have Hown0 := Lib.hid (show (w.alloc (.cells #[] 3)).ownsRow w.heap.size 3 1 (.slice (some ⟨w.heap.size, 0, none⟩) 0 0) 0 [] from ⟨by simp, .inr ⟨w.heap.size, 0, #[], rfl, Nat.le_refl _, heap_alloc_new w _, Nat.le_refl _, by unfold maxLen; omega, rfl, rfl⟩⟩)
  go_enter Try.func34, Try.ntmps34
  go_wp2
  go_loopw [3, 4] (fun v iv wr => BkRel l w v iv wr) (fun _ i _ => (intOf i + 1).toNat)
  case atStart => exact ⟨0, Nat.zero_le _, by first | rfl | simp, Hown0.out, HB0.out⟩
  case round =>
    obtain ⟨k, hk, rfl, hown, hbel⟩ := hrel
    by_cases hgo : k < l.length
    · obtain ⟨q, hq⟩ : ∃ q : Nat, l.length = q + 1 + k := ⟨l.length - 1 - k, by omega⟩
      have e1 : (l.length : Int) - 1 - (k : Int) = (q : Int) := by omega
      rw [e1]
      have c0 := (Hat.out.below hbel hlt) q (by omega)
      have hnx := Lib.hid (show l.reverse.take (k + 1) = l.reverse.take k ++ [l.getD q 0] by
        rw [List.take_succ_eq_append_getElem (by simp; omega), List.getElem_reverse, getI l (by omega)]
        congr 2
        congr 1
        omega)
      have hsz := hbel.size
      have Hbel := Lib.hid hbel
      have Hown := Lib.hid hown
      have hq0 : (q : Int) ≥ 0 := Int.natCast_nonneg _
      have hql : (q : Int) < (l.length : Int) := by omega
      have hk1 : k + 1 ≤ 1048576 := by omega
      generalize l.getD q 0 = y at *
      have Hq := Lib.hid hq; have He1 := Lib.hid e1
      clear hown hbel hq e1 hk
      go_wp2_with (at_builtin; refine wpList_append_own _ rfl _ _ 37 rfl w.heap.size 3 i0 (.int .i64 0) 1 8 Try.underlying37 hi hz0 hz1 hz2 rfl (by decide) _ _ _ rfl (Hown.out.alloc _) ⟨wr.heap.size, 0, none⟩ 1 1 [.int .i64 y] rfl rfl (cell_one_new _ _ _) (by simp [Value.oneCell']) (by simp only [maxLen]; omega) (by omega) (by simp; omega) ?_; intro v' w8 hown8 hgrow _)
      have HB8 := Lib.hid ((Hbel.out.alloc hsz _).grown hgrow (by simp; omega) (fun j hj => (Hown.out.lt j hj).1))
      have Hown8 := Lib.hid (show w8.ownsRow w.heap.size 3 1 v' (k + 1) ((l.reverse.take (k + 1)).map (Value.int .i64)) by rw [hnx.out, List.map_append]; exact hown8)
      clear hown8 hgrow
      go_wp2
      exact ⟨⟨k + 1, by have := Hq.out; omega, by congr 1; have := Hq.out; omega, Hown8.out, HB8.out⟩, by simp [intOf] <;> omega⟩
    · have hkl : k = l.length := by omega
      have e1 : (l.length : Int) - 1 - (k : Int) = -1 := by omega
      rw [e1]
      have HO := Lib.hid (show IntsIn wr u3 l.reverse from by
        rw [hkl] at hown
        rw [List.take_of_length_le (by simp)] at hown
        have hl2 : l.reverse.length = l.length := by simp
        obtain ⟨g, cp, rfl⟩ : ∃ g cp, u3 = .slice (some ⟨g, 0, none⟩) l.reverse.length cp := by
          obtain ⟨_, h2⟩ := hown
          rcases h2 with ⟨rfl, h00⟩ | ⟨g, cp, cur, rfl, _⟩
          · omega
          · exact ⟨g, cp, by rw [hl2]⟩
        rw [← hl2] at hown
        obtain ⟨o1, o2, o3, o4⟩ := own_out hown
        exact o4.ints o1)
      have HB := Lib.hid hbel
      clear hown hbel hkl e1
      go_wp2
      go_ret
      exact ⟨_, rfl, HO.out, HB.out⟩

end Go.Proofs.Ytnlhnibhgpelfaa
