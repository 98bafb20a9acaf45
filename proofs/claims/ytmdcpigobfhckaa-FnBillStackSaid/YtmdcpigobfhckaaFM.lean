/- The model's l9Load, BillValid. -/
import Derived.Test.YtmdcpigobfhckaaFG
import Derived.Test.YtmdcpigobfhckaaQW
namespace Go.Proofs.Ytmdcpigobfhckaa
open Go.RowKit

def LoRel (l : List Fr) (g : Int) (w : World) (nv i : Value) (wr : World) : Prop := ∃ j : Nat, j ≤ l.length ∧ nv = .int .i64 (load9 l g j) ∧ i = .int .i64 j ∧ Drewn w wr

set_option maxRecDepth 100000 in
set_option maxHeartbeats 1000000 in
theorem load1_any (n : Int) (v : Value) (l : List Fr) (g : Int) (w : World) (hv : FrIn w v l) (hl : l.length ≤ 1048577) (ho : okFs n l l.length = true) :
    Calls Try.prog 72 #[v, .int .i64 g] w (Quiet (.int .i64 (loadF l g)) w) := by
  obtain ⟨a, cap, rfl, hcap, ha⟩ := hv
  clear hcap
  have Ha := Lib.hid ha; clear ha
  have Ho := Lib.hid ho; clear ho
  go_enter Try.func72, Try.ntmps72
  go_wp2
  go_loopw [5, 6] (fun nv i wr => LoRel l g w nv i wr) (fun _ i _ => l.length - (intOf i).toNat)
  case atStart => exact ⟨0, Nat.zero_le _, rfl, rfl, Drewn.refl w⟩
  case round =>
    obtain ⟨j, hk, rfl, rfl, hw⟩ := hrel
    have HW := Lib.hid hw; clear hw
    by_cases hlt : j < l.length
    · obtain ⟨b, o, rfl, hb0, hrw⟩ := Ha.out (by intro h; simp [h] at hlt)
      obtain ⟨c0, c1, c2⟩ := (hrw.below HW.out.below hb0) j hlt
      have hj : okFs n l j = true := okFs_mk fun i hi => okFs_at Ho.out (by omega)
      obtain ⟨b0, b1⟩ := load9_nn (g := g) hj
      have hs : load9 l g (j + 1) = load9 l g j + onF g (l.getD j fr0) := rfl
      have hon : onF g (l.getD j fr0) = if (l.getD j fr0).a ≤ g ∧ g < (l.getD j fr0).b then (l.getD j fr0).m else 0 := rfl
      obtain ⟨_, m0, m1⟩ := okF_iff.1 (okFs_at Ho.out hlt)
      clear hrw hj
      rw [hon] at hs
      clear hon
      generalize (l.getD j fr0).a = xa at *
      generalize (l.getD j fr0).b = xb at *
      generalize (l.getD j fr0).m = xm at *
      have hj0 : (0 : Int) ≤ (j : Int) := Int.natCast_nonneg _
      have hj1 : (j : Int) ≤ 1048577 := by omega
      generalize load9 l g j = s at *
      by_cases q1 : xa ≤ g
      · by_cases q2 : g < xb
        · rw [if_pos ⟨q1, q2⟩] at hs
          have Hs := Lib.hid hs; clear hs
          go_wp2
          exact ⟨⟨j + 1, hlt, by rw [Hs.out], by go_num, HW.out⟩, by simp [intOf]; omega⟩
        · rw [if_neg (by omega)] at hs
          have hd : decide (g < xb) = false := by simp only [decide_eq_false_iff_not]; omega
          have Hs := Lib.hid hs; clear hs
          clear q2
          go_wp2
          exact ⟨⟨j + 1, hlt, by rw [Hs.out]; go_num, by go_num, HW.out⟩, by simp [intOf]; omega⟩
      · rw [if_neg (by omega)] at hs
        have hd : decide (xa ≤ g) = false := by simp only [decide_eq_false_iff_not]; omega
        have Hs := Lib.hid hs; clear hs
        clear q1
        go_wp2
        exact ⟨⟨j + 1, hlt, by rw [Hs.out]; go_num, by go_num, HW.out⟩, by simp [intOf]; omega⟩
    · obtain rfl : j = l.length := by omega
      go_wp2
      go_ret
      exact ⟨rfl, HW.out⟩

def Bv9aRel (n : Int) (l : List Fr) (w : World) (i : Value) (wr : World) : Prop := ∃ k : Nat, k ≤ l.length ∧ i = .int .i64 k ∧ okFs n l k = true ∧ Below w.heap.size w wr
def Bv9bRel (n : Int) (l : List Fr) (w : World) (i : Value) (wr : World) : Prop := ∃ k : Nat, k ≤ n.toNat ∧ i = .int .i64 k ∧ capTo l k = true ∧ Below w.heap.size w wr

theorem validF_nohead {n : Int} {l : List Fr} (h : ¬ (legF n = true ∧ l.length ≤ 12)) : validF n l = false := by
  rw [Bool.eq_false_iff]; intro h'
  have := headF_iff.1 (valid_head h')
  exact h ⟨legF_iff.2 this.1, this.2⟩
theorem validF_nofit {n : Int} {l : List Fr} {i : Nat} (hi : i < l.length) (h : okF n (l.getD i fr0) = false) : validF n l = false := by
  rw [Bool.eq_false_iff]; intro h'
  rw [okFs_at (valid_ok h') hi] at h; cases h
theorem validF_noleg {n : Int} {l : List Fr} {g : Nat} (hg : g < n.toNat) (h : ¬ loadF l g ≤ 300) : validF n l = false := by
  rw [Bool.eq_false_iff]; intro h'
  exact h (capTo_at (valid_cap h') hg)
theorem validF_yes {n : Int} {l : List Fr} (h1 : legF n = true) (h2 : l.length ≤ 12) (h3 : okFs n l l.length = true) (h4 : capTo l n.toNat = true) : validF n l = true := by
  simp [validF, headF, h1, h2, h3, h4]

set_option maxRecDepth 100000 in
set_option maxHeartbeats 8000000 in
theorem bill1_any (n : Int) (v : Value) (l : List Fr) (w : World) (wn : W64 n) (hv : FrIn w v l) (hl : l.length ≤ 1048577) :
    Calls Try.prog 22 #[.int .i64 n, v] w (Gives (.bool (validF n l)) w) := by
  have Hv := Lib.hid hv
  obtain ⟨a, cap, rfl, hcap, ha⟩ := hv
  clear hcap
  have Ha := Lib.hid ha; clear ha
  cases hn1 : legF n with
  | false =>
    have hz : validF n l = false := validF_nohead (fun h => by rw [hn1] at h; cases h.1)
    have Hz := Lib.hid hz; clear hz
    have p1 : inB n 1 7 = false := hn1
    clear hn1
    go_enter Try.func22, Try.ntmps22
    go_wp2_with (go_at_call 71; refine (l6In_any _ _ _ _).mono ?_; rintro e w' ⟨rfl, rfl⟩; simp only [p1])
    go_ret
    exact ⟨ret_bool Hz.out.symm, Below.refl _ _⟩
  | true =>
    have hn2 := legF_iff.1 hn1
    have p1 : inB n 1 7 = true := hn1
    have Hn1 := Lib.hid hn1; clear hn1
    by_cases h12 : l.length ≤ 12
    · go_enter Try.func22, Try.ntmps22
      go_wp2_with (go_at_call 71; refine (l6In_any _ _ _ _).mono ?_; rintro e w' ⟨rfl, rfl⟩; simp only [p1])
      go_loopw [5] (fun i wr => Bv9aRel n l w i wr) (fun i _ => l.length - (intOf i).toNat)
      case atStart => exact ⟨0, Nat.zero_le _, rfl, rfl, Below.refl _ _⟩
      case round =>
        obtain ⟨k, hk, rfl, hok, hw⟩ := hrel
        have HW := Lib.hid hw; clear hw
        have Hok := Lib.hid hok; clear hok
        by_cases hlt : k < l.length
        · obtain ⟨b, o, rfl, hb0, hrw⟩ := Ha.out (by intro h; simp [h] at hlt)
          obtain ⟨c0, c1, c2⟩ := (hrw.below HW.out hb0) k hlt
          clear hrw
          have hsucc : okFs n l (k + 1) = (okFs n l k && okF n (l.getD k fr0)) := rfl
          have hfit := okF_iff (n := n) (r := l.getD k fr0)
          have hno := Lib.hid (validF_nofit (n := n) hlt)
          generalize okF n (l.getD k fr0) = ft at hsucc hfit hno
          have hk0 : (0 : Int) ≤ (k : Int) := Int.natCast_nonneg _
          have hk1 : (k : Int) < (l.length : Int) := by omega
          generalize (l.getD k fr0).a = xa at *
          generalize (l.getD k fr0).b = xb at *
          generalize (l.getD k fr0).m = xm at *
          have Hsucc := Lib.hid hsucc; clear hsucc
          have Hfit := Lib.hid hfit; clear hfit
          have hn3 : IntKind.i64.wrap (n - 1) = n - 1 := IntWalk.i64_in _ (by omega)
          have HB := Lib.hid (HW.out.alloc HW.out.size (.cells #[.int .i64 xa, .int .i64 xb, .int .i64 xm] 41))
          have hA0 : (wr.alloc (.cells #[.int .i64 xa, .int .i64 xb, .int .i64 xm] 41)).cell? ⟨wr.heap.size, 0, none⟩ = some (.int .i64 xa) := by go_simp
          have hA1 : (wr.alloc (.cells #[.int .i64 xa, .int .i64 xb, .int .i64 xm] 41)).cell? ⟨wr.heap.size, 1, none⟩ = some (.int .i64 xb) := by go_simp
          have hA2 : (wr.alloc (.cells #[.int .i64 xa, .int .i64 xb, .int .i64 xm] 41)).cell? ⟨wr.heap.size, 2, none⟩ = some (.int .i64 xm) := by go_simp
          have hbad : ft = false → validF n l = false := hno.out
          have Hbad := Lib.hid hbad; clear hbad
          cases p2 : inB xa 0 (n - 1) with
          | false =>
            have hz : validF n l = false := Hbad.out (by rw [Bool.eq_false_iff]; intro h; have := Hfit.out.1 h; have : inB xa 0 (n - 1) = true := (inB_iff _ _ _).2 (by omega); rw [this] at p2; cases p2)
            have Hz := Lib.hid hz; clear hz
            go_wp2_with fail
            generalize wr.alloc (.cells #[.int .i64 xa, .int .i64 xb, .int .i64 xm] 41) = w0 at *
            refine (l6In_any _ _ _ _).mono ?_; rintro e w' ⟨rfl, rfl⟩
            rw [p2]
            go_wp2
            go_ret
            exact ⟨ret_bool Hz.out.symm, HB.out⟩
          | true =>
            obtain ⟨q1a, q1b⟩ := (inB_iff _ _ _).1 p2
            have hs : IntKind.i64.wrap (xa + 1) = xa + 1 := IntWalk.i64_in _ (by omega)
            cases p3 : inB xb (xa + 1) n with
            | false =>
              have hz : validF n l = false := Hbad.out (by rw [Bool.eq_false_iff]; intro h; have := Hfit.out.1 h; have : inB xb (xa + 1) n = true := (inB_iff _ _ _).2 (by omega); rw [this] at p3; cases p3)
              have Hz := Lib.hid hz; clear hz
              go_wp2_with fail
              generalize wr.alloc (.cells #[.int .i64 xa, .int .i64 xb, .int .i64 xm] 41) = w0 at *
              refine (l6In_any _ _ _ _).mono ?_; rintro e w' ⟨rfl, rfl⟩
              rw [p2]
              go_wp2_with fail
              refine (l6In_any _ _ _ _).mono ?_; rintro e w' ⟨rfl, rfl⟩
              rw [p3]
              go_wp2
              go_ret
              exact ⟨ret_bool Hz.out.symm, HB.out⟩
            | true =>
              obtain ⟨q2a, q2b⟩ := (inB_iff _ _ _).1 p3
              cases p4 : inB xm 1 99 with
              | false =>
                have hz : validF n l = false := Hbad.out (by rw [Bool.eq_false_iff]; intro h; have := Hfit.out.1 h; have : inB xm 1 99 = true := (inB_iff _ _ _).2 (by omega); rw [this] at p4; cases p4)
                have Hz := Lib.hid hz; clear hz
                go_wp2_with fail
                generalize wr.alloc (.cells #[.int .i64 xa, .int .i64 xb, .int .i64 xm] 41) = w0 at *
                refine (l6In_any _ _ _ _).mono ?_; rintro e w' ⟨rfl, rfl⟩
                rw [p2]
                go_wp2_with fail
                refine (l6In_any _ _ _ _).mono ?_; rintro e w' ⟨rfl, rfl⟩
                rw [p3]
                go_wp2_with fail
                refine (l6In_any _ _ _ _).mono ?_; rintro e w' ⟨rfl, rfl⟩
                rw [p4]
                go_wp2
                go_ret
                exact ⟨ret_bool Hz.out.symm, HB.out⟩
              | true =>
                have hok1 : okFs n l (k + 1) = true := by
                  have q3 := (inB_iff _ _ _).1 p4
                  rw [Hsucc.out, Hok.out, Hfit.out.2 (by omega)]; rfl
                have Hok1 := Lib.hid hok1; clear hok1
                go_wp2_with fail
                generalize wr.alloc (.cells #[.int .i64 xa, .int .i64 xb, .int .i64 xm] 41) = w0 at *
                refine (l6In_any _ _ _ _).mono ?_; rintro e w' ⟨rfl, rfl⟩
                rw [p2]
                go_wp2_with fail
                refine (l6In_any _ _ _ _).mono ?_; rintro e w' ⟨rfl, rfl⟩
                rw [p3]
                go_wp2_with fail
                refine (l6In_any _ _ _ _).mono ?_; rintro e w' ⟨rfl, rfl⟩
                rw [p4]
                go_wp2
                exact ⟨⟨k + 1, hlt, by go_num, Hok1.out, HB.out⟩, by simp [intOf]; omega⟩
        · obtain rfl : k = l.length := by omega
          have HL := Lib.hid (fun w' (h : Below w.heap.size w w') (g : Int) => load1_any n _ l g w' (Hv.out.below h) hl Hok.out)
          go_wp2
          go_loopw [7] (fun i wr => Bv9bRel n l w i wr) (fun i _ => n.toNat - (intOf i).toNat)
          case atStart => exact ⟨0, Nat.zero_le _, rfl, rfl, HW.out⟩
          case round =>
            obtain ⟨k, hk2, rfl, hcap, hw⟩ := hrel
            have HW2 := Lib.hid hw; clear hw
            have Hcap := Lib.hid hcap; clear hcap
            by_cases hlt : k < n.toNat
            · have hlt' : (k : Int) < n := by omega
              have Hno := Lib.hid (validF_noleg (n := n) (l := l) hlt)
              have Hcs := Lib.hid (show capTo l (k + 1) = (capTo l k && decide (loadF l k ≤ 300)) from rfl)
              have Hc := Lib.hid (HL.out _ HW2.out (k : Int))
              generalize loadF l (k : Int) = x at *
              by_cases q1 : x ≤ 300
              · have hok1 : capTo l (k + 1) = true := by
                  rw [Hcs.out, Hcap.out, decide_eq_true q1]; rfl
                have Hok1 := Lib.hid hok1; clear hok1
                go_wp2_with fail
                refine Hc.out.mono ?_; rintro e w1 ⟨rfl, m1, rfl⟩
                go_wp2
                exact ⟨⟨k + 1, hlt, by go_num, Hok1.out, HW2.out.drewN _⟩, by simp [intOf]; omega⟩
              · have hz := Hno.out q1
                have Hz := Lib.hid hz; clear hz
                have q1i : 300 < x := by omega
                clear q1
                go_wp2_with fail
                refine Hc.out.mono ?_; rintro e w1 ⟨rfl, m1, rfl⟩
                go_wp2
                go_ret
                exact ⟨ret_bool Hz.out.symm, HW2.out.drewN _⟩
            · obtain rfl : k = n.toNat := by omega
              have hz := validF_yes Hn1.out h12 Hok.out Hcap.out
              have Hz := Lib.hid hz; clear hz
              have hnn : ¬ ((n.toNat : Nat) : Int) < n := by omega
              go_wp2
              go_ret
              exact ⟨ret_bool Hz.out.symm, HW2.out⟩
    · have hz : validF n l = false := validF_nohead (fun h => h12 h.2)
      have Hz := Lib.hid hz; clear hz
      have h13 : (12 : Int) < (l.length : Int) := by omega
      go_enter Try.func22, Try.ntmps22
      go_wp2_with (go_at_call 71; refine (l6In_any _ _ _ _).mono ?_; rintro e w' ⟨rfl, rfl⟩; simp only [p1])
      go_ret
      exact ⟨ret_bool Hz.out.symm, Below.refl _ _⟩

end Go.Proofs.Ytmdcpigobfhckaa
