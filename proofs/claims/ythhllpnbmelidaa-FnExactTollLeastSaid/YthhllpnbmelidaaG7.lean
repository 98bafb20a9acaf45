/- The program's TollLeast. -/
import Derived.Test.YthhllpnbmelidaaG6
import Derived.Test.YthhllpnbmelidaaGW
namespace Go.Proofs.Ythhllpnbmelidaa
open Go.RowKit
set_option linter.unusedVariables false
set_option linter.unusedSimpArgs false

def sumE (l : List Gt) (free f t : Int) : Nat → Int
  | 0 => 0
  | n + 1 => sumE l free f t n + eachT l free f t (n : Int)
theorem leastX_sum {l : List Gt} {free f t : Int} (h : okT l free f t = true) : leastX l free f t = sumE l free f t 4 := by
  unfold leastX
  rw [if_pos h, leastV_sum (okT_valid h)]
  simp [sumE]
theorem eachT_bd8 {l : List Gt} (hv : validG l = true) (free f t b : Int) : 0 ≤ eachT l free f t b ∧ eachT l free f t b ≤ 990 := by
  have hten := (validG_iff.1 hv).1
  have hpl := passL_len l f t
  have hp : Pas l (trI l b (passL l f t)) := (passL_pas hv f t).filter _
  have h1 := gI_nonneg (free := free) (r := -1) hp
  have h2 := gI_le (free := free) (r := -1) hp
  have h3 : (trI l b (passL l f t)).length ≤ (passL l f t).length := List.length_filter_le _ _
  unfold eachT
  omega
theorem sumE_bd {l : List Gt} (hv : validG l = true) (free f t : Int) : ∀ n : Nat, 0 ≤ sumE l free f t n ∧ sumE l free f t n ≤ 990 * n
  | 0 => by simp [sumE]
  | n + 1 => by
    have h1 := sumE_bd hv free f t n
    have h2 := eachT_bd8 hv free f t (n : Int)
    show 0 ≤ sumE l free f t n + _ ∧ sumE l free f t n + _ ≤ _
    push_cast
    omega
theorem eachTo_getD (l : List Gt) (free f t : Int) {n k : Nat} (h : k < n) : (eachTo l free f t n).getD k 0 = eachT l free f t (k : Int) := by
  simp [eachTo, List.getD, h]
def Tl2Rel (l : List Gt) (free f t : Int) (w : World) (s i : Value) (wr : World) : Prop := ∃ k : Nat, k ≤ 4 ∧ s = .int .i64 (sumE l free f t k) ∧ i = .int .i64 k ∧ Below w.heap.size w wr

set_option maxRecDepth 100000 in
set_option maxHeartbeats 1000000 in
theorem tl2_any (v : Value) (l : List Gt) (free f t : Int) (w : World) (hv : GtIn w v l) (hl : l.length ≤ 1048576) :
    Calls Try.prog 49 #[v, .int .i64 free, .int .i64 f, .int .i64 t] w (Gives (.int .i64 (leastX l free f t)) w) := by
  have hT := te2_any v l free f t w hv hl
  cases ho : okT l free f t with
  | false =>
    rw [eachX_no ho, ho] at hT
    have HT := Lib.hid hT
    have Hr := Lib.hid (leastX_no ho)
    clear hv ho hT
    go_enter Try.func49, Try.ntmps49
    go_wp2_with fail
    refine HT.out.mono ?_; rintro e w1 ⟨ad, cap, rfl, _, _, _, hb1⟩
    go_wp2
    go_ret
    rw [Hr.out]
    exact ⟨rfl, hb1⟩
  | true =>
    rw [eachX_yes ho, ho] at hT
    have HT := Lib.hid hT
    have Hr := Lib.hid (leastX_sum ho)
    have Hbd := Lib.hid (sumE_bd (okT_valid ho) free f t)
    have Hed := Lib.hid (eachT_bd8 (okT_valid ho) free f t)
    clear hv ho hT
    go_enter Try.func49, Try.ntmps49
    go_wp2_with fail
    refine HT.out.mono ?_; rintro e w1 ⟨ad, cap, he, _, hown, _, hb1⟩
    rw [eachTo_len] at he
    subst he
    obtain ⟨b, rfl, hbl, hint, _⟩ := hown (by intro h; have := eachTo_len l free f t 4; rw [h] at this; cases this)
    have HB1 := Lib.hid hb1
    have HI := Lib.hid hint
    clear hb1 hown hint HT
    go_wp2
    go_loopw [11, 26] (fun s i wr => Tl2Rel l free f t w1 s i wr) (fun _ i _ => 4 - (intOf i).toNat)
    case atStart => exact ⟨0, by omega, rfl, rfl, Below.refl _ _⟩
    case round =>
      obtain ⟨k, hk, rfl, rfl, hbel⟩ := hrel
      obtain ⟨s0, s1⟩ := Hbd.out k
      by_cases hlt : k < 4
      · have d0 : wr.cell? ⟨b, k, none⟩ = some (.int .i64 (eachT l free f t (k : Int))) := by
          have h := (HI.out.below hbel hbl) k (by rw [eachTo_len]; exact hlt)
          rw [eachTo_getD l free f t hlt, Nat.zero_add] at h
          exact h
        obtain ⟨x0, x1⟩ := Hed.out (k : Int)
        have hk0 : (0 : Int) ≤ (k : Int) := Int.natCast_nonneg _
        have hk1 : (k : Int) < 4 := by omega
        have hsucc : sumE l free f t (k + 1) = sumE l free f t k + eachT l free f t (k : Int) := rfl
        have Hs := Lib.hid hsucc
        have Hbel := Lib.hid hbel
        clear hsucc hbel
        generalize sumE l free f t k = sm at *
        generalize eachT l free f t (k : Int) = x at *
        have hw : IntKind.i64.wrap (sm + x) = sm + x := IntWalk.i64_in _ (by omega)
        go_wp2
        exact ⟨⟨k + 1, by omega, by rw [Hs.out], by go_num, Hbel.out⟩, by simp [intOf]; omega⟩
      · obtain rfl : k = 4 := by omega
        have HB := Lib.hid (HB1.out.trans (hbel.mono HB1.out.size))
        clear hbel
        go_wp2
        go_ret
        rw [Hr.out]
        exact ⟨rfl, HB.out⟩

end Go.Proofs.Ythhllpnbmelidaa
