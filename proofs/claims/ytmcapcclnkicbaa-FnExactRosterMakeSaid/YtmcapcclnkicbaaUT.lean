/- The program's RosterValid. -/
import Derived.Test.YtmcapcclnkicbaaUQ
import Derived.Test.YtmcapcclnkicbaaUV
import Derived.Test.YtmcapcclnkicbaaUW
import Derived.Test.YtmcapcclnkicbaaIZ
namespace Go.Proofs.Ytmcapcclnkicbaa
open Go.RowKit

theorem IntAt.set {w : World} {b n : Nat} {l : List Int} (h : IntAt w b 0 l) (hr : Room w b n) (hn : l.length ≤ n) {i : Nat} (hi : i < l.length) (x : Int) : IntAt (w.setCell ⟨b, i, none⟩ (.int .i64 x)) b 0 (l.set i x) := by
  intro j hj
  rw [List.length_set] at hj
  rw [Nat.zero_add]
  by_cases e : j = i
  · subst e
    obtain ⟨u, hu⟩ := hr.1 j (by omega)
    rw [World.cell?_setCell_same _ _ _ hu]
    simp [List.getD, hj]
  · rw [World.cell?_setCell_other _ _ _ _ (by intro h; injection h; omega)]
    have := h j hj
    rw [Nat.zero_add] at this
    rw [this]
    simp [List.getD, List.getElem?_set, Ne.symm e]

def freeL (l : List Rn) (rest : Int) (r : List Int) (k : Nat) : List Int := (List.range 12).map fun (t : Nat) => freeTo l rest r (t : Int) k

theorem freeL_len (l : List Rn) (rest : Int) (r : List Int) (k : Nat) : (freeL l rest r k).length = 12 := by simp [freeL]
theorem freeL_at {l : List Rn} {rest : Int} {r : List Int} {k t : Nat} (h : t < 12) : (freeL l rest r k).getD t 0 = freeTo l rest r (t : Int) k := by simp [freeL, List.getD, h]
theorem freeL_succ {l : List Rn} {rest : Int} {r : List Int} {k n : Nat} (h : r.getD k 0 = (n : Int)) (hn : n < 12) : freeL l rest r (k + 1) = (freeL l rest r k).set n ((l.getD k rn0).b + rest) := by
  refine List.ext_getElem (by simp [freeL_len]) fun t h1 h2 => ?_
  rw [freeL_len] at h1
  rw [List.getElem_set]
  simp only [freeL, List.getElem_map, List.getElem_range]
  show (if r.getD k 0 = (t : Int) then (l.getD k rn0).b + rest else freeTo l rest r (t : Int) k) = _
  by_cases e : n = t
  · subst e; rw [if_pos h, if_pos rfl]
  · rw [if_neg (by rw [h]; omega), if_neg e]

theorem Whole.room {w : World} {g : Nat} {t : TypeId} {cs : Array Value} (h : Whole w g t cs) : Room w g cs.size :=
  ⟨fun j hj => ⟨cs[j], h.cell (Array.getElem?_eq_getElem hj)⟩, fun o => h.free o⟩

theorem free_start {w : World} {g t0 : Nat} {l : List Rn} {rest : Int} {r : List Int} (h : Whole w g t0 #[.int .i64 0, .int .i64 0, .int .i64 0, .int .i64 0, .int .i64 0, .int .i64 0, .int .i64 0, .int .i64 0, .int .i64 0, .int .i64 0, .int .i64 0, .int .i64 0]) :
    IntAt w g 0 (freeL l rest r 0) := by
  intro i hi
  rw [freeL_len] at hi
  rw [freeL_at hi, Nat.zero_add]
  show w.cell? ⟨g, i, none⟩ = some (.int .i64 0)
  rcases (by omega : i = 0 ∨ i = 1 ∨ i = 2 ∨ i = 3 ∨ i = 4 ∨ i = 5 ∨ i = 6 ∨ i = 7 ∨ i = 8 ∨ i = 9 ∨ i = 10 ∨ i = 11) with rfl | rfl | rfl | rfl | rfl | rfl | rfl | rfl | rfl | rfl | rfl | rfl <;> exact h.cell rfl

def Rv2Rel (l : List Rn) (rest : Int) (r : List Int) (w : World) (g : Nat) (kv : Value) (wr : World) : Prop :=
  ∃ k : Nat, k ≤ r.length ∧ kv = .int .i64 k ∧ okTTo l rest r k = true ∧ IntAt wr g 0 (freeL l rest r k) ∧ Room wr g 12 ∧ g < wr.heap.size ∧ Below w.heap.size w wr

set_option maxRecDepth 100000 in
set_option maxHeartbeats 1000000 in
theorem roster2_any (v vr : Value) (l : List Rn) (r : List Int) (rest : Int) (w : World) (hv : RnIn w v l) (hr : IntsIn w vr r) (hl : l.length ≤ 1048576) (hlr : r.length ≤ 1048576) :
    Calls Try.prog 22 #[v, .int .i64 rest, vr] w (Gives (.bool (rosU l rest r)) w) := by
  have Hok := Lib.hid (runs2_any v l w hv hl)
  cases hz : validU l with
  | true =>
    cases hrb : restB rest with
    | true =>
      have hok : okR l rest = true := by unfold okR; rw [hz, hrb]; rfl
      obtain ⟨a, cap, rfl, hcap, ha⟩ := hv
      obtain ⟨ar, capr, rfl, hcapr, har⟩ := hr
      clear hcap hcapr
      have Har := Lib.hid har; clear har
      have Ha := Lib.hid ha; clear ha
      have Hzv := Lib.hid hz
      have Hrb := Lib.hid hrb
      obtain ⟨r0, r6⟩ := restB_iff.1 hrb
      by_cases hle : r.length = l.length
      · have hrl : rosU l rest r = okTTo l rest r r.length := by unfold rosU; rw [hok, hle]; simp
        have Hrl := Lib.hid hrl
        have Hle := Lib.hid hle
        have Hz := Lib.hid hok
        have hne : ((r.length : Int) != (l.length : Int)) = false := by rw [hle]; simp
        have hne2 : (r.length != l.length) = false := by rw [hle]; simp
        clear hrl hle hz hrb hok
        go_enter Try.func22, Try.ntmps22
        go_wp2_with fail
        refine (Hok.out).mono ?_; rintro e w1 ⟨rfl, hw1⟩
        rw [Hzv.out]
        go_wp2_with fail
        refine (rest_any _ _).mono ?_; rintro e w' ⟨rfl, rfl⟩
        rw [Hrb.out]
        have HW1 := Lib.hid hw1; clear hw1
        have hwh := Whole.made w1 61 #[.int .i64 0, .int .i64 0, .int .i64 0, .int .i64 0, .int .i64 0, .int .i64 0, .int .i64 0, .int .i64 0, .int .i64 0, .int .i64 0, .int .i64 0, .int .i64 0]
        have HWH := Lib.hid hwh; clear hwh
        go_wp2
        go_loopw [28] (fun kv wr => Rv2Rel l rest r w w1.heap.size kv wr) (fun kv _ => r.length - (intOf kv).toNat)
        case atStart => exact ⟨0, Nat.zero_le _, rfl, rfl, free_start HWH.out, HWH.out.room, by simp, HW1.out.alloc HW1.out.size _⟩
        case round =>
          obtain ⟨k, hk, rfl, hc, hfr, hroom, hg, hbel⟩ := hrel
          have Hc := Lib.hid hc; clear hc
          by_cases hlt : k < r.length
          · have hk0 : (0 : Int) ≤ (k : Int) := Int.natCast_nonneg _
            have hk2 : (k : Int) < (r.length : Int) := by omega
            have hk3 : (k : Int) < (l.length : Int) := by rw [← Hle.out]; exact hk2
            have hk4 : k < l.length := by rw [← Hle.out]; exact hlt
            obtain ⟨br, or', rfl, hbr0, hri⟩ := Har.out (by rintro rfl; simp at hlt)
            obtain ⟨b, o, rfl, hb0, hrw⟩ := Ha.out (by rintro rfl; simp at hk4)
            have d0 := (hri.below hbel hbr0) k hlt
            obtain ⟨c0, c1⟩ := (hrw.below hbel hb0) k hk4
            have hokT : okT l rest r k = (decide (0 ≤ r.getD k 0) && decide (r.getD k 0 < 12) && canU l rest r k (r.getD k 0)) := rfl
            have HokT := Lib.hid hokT; clear hokT hri hrw
            have Hsucc := Lib.hid (okTTo_succ l rest r k)
            have Hno' := Lib.hid (fun h => rosU_no3 (l := l) (rest := rest) (r := r) hlt h)
            have Hcf := Lib.hid (fun t => can_free (r := r) Hz.out hk4 (fun j hj => (okT_iff.1 (okTTo_at Hc.out hj)).2.2) t)
            have Hfs := Lib.hid (fun (n : Nat) => freeL_succ (l := l) (rest := rest) (r := r) (k := k) (n := n))
            have hat := validU_at Hzv.out hk4
            obtain ⟨h1, h2, h3, _⟩ := hat
            have Hfr := Lib.hid hfr; clear hfr
            have Hroom := Lib.hid hroom; clear hroom
            have Hbel := Lib.hid hbel
            have hB := Lib.hid (show ∀ (j : Nat) (v : Value), Below w.heap.size w (wr.setCell ⟨w1.heap.size, j, none⟩ v) from fun j v => hbel.setCell HW1.out.size v)
            have Hbd := Lib.hid (fun (t : Nat) => freeTo_bd (r := r) Hz.out (t : Int) k (by omega))
            generalize (l.getD k rn0).a = xa at *
            generalize (l.getD k rn0).b = xb at *
            generalize hy : r.getD k 0 = y at *
            have Hy := Lib.hid hy; clear hy hbel
            have hwr : IntKind.i64.wrap (xb + rest) = xb + rest := IntWalk.i64_in _ (by omega)
            by_cases q1 : 0 ≤ y ∧ y < 12
            · obtain ⟨n, rfl⟩ : ∃ n : Nat, y = (n : Int) := ⟨y.toNat, by omega⟩
              have hn : n < 12 := by omega
              have hn0 : (0 : Int) ≤ (n : Int) := by omega
              have hn1 : (n : Int) < 12 := by omega
              have htb : teamB (n : Int) = true := teamB_iff.2 q1
              have h0 : (decide (0 ≤ (n : Int)) && decide ((n : Int) < 12)) = true := by simp; omega
              have HokT2 := Lib.hid (show okT l rest r k = canU l rest r k (n : Int) by rw [HokT.out, h0]; rfl)
              have e0 := Hfr.out n (by rw [freeL_len]; exact hn)
              rw [freeL_at hn, Nat.zero_add] at e0
              have f0 := Hroom.out.2 n
              have Hcf2 := Lib.hid (Hcf.out (n : Int))
              clear h0 q1
              generalize freeTo l rest r (n : Int) k = fx at *
              by_cases q2 : fx ≤ xa
              · have hd : decide (xa < fx) = false := by simp only [decide_eq_false_iff_not]; omega
                have Hu := Lib.hid (show okTTo l rest r (k + 1) = true by rw [Hsucc.out, Hc.out, HokT2.out, Hcf2.out.2 q2]; rfl)
                have Hst := Lib.hid (show IntAt (wr.setCell ⟨w1.heap.size, n, none⟩ (.int .i64 (xb + rest))) w1.heap.size 0 (freeL l rest r (k + 1)) by
                  rw [Hfs.out n rfl hn]; exact IntAt.set Hfr.out Hroom.out (by rw [freeL_len]; omega) (by rw [freeL_len]; exact hn) _)
                clear q2
                go_wp2
                go_quiet ((go_at_call 55; exact Calls.hush (quiet_same (team_any _ _))))
                go_wp2
                exact ⟨⟨k + 1, hlt, by go_num, Hu.out, Hst.out, Hroom.out.setCell _ _, by simpa using hg, (Hbel.out.drewN _).setCell HW1.out.size _⟩, by simp [intOf]; omega⟩
              · have hd : decide (xa < fx) = true := by simp only [decide_eq_true_eq]; omega
                have Hu := Lib.hid (Hno'.out (by rw [HokT2.out]; exact canU_no (fun h => q2 (Hcf2.out.1 h))))
                clear q2
                go_wp2
                go_quiet ((go_at_call 55; exact Calls.hush (quiet_same (team_any _ _))))
                go_wp2
                go_ret
                exact ⟨ret_bool Hu.out.symm, Hbel.out.drewN _⟩
            · have htb : teamB y = false := by rw [Bool.eq_false_iff]; intro h; exact q1 (teamB_iff.1 h)
              have h0 : (decide (0 ≤ y) && decide (y < 12)) = false := by
                rw [Bool.eq_false_iff]; intro h; simp only [Bool.and_eq_true, decide_eq_true_eq] at h; exact q1 h
              have Hu := Lib.hid (Hno'.out (by rw [HokT.out, h0]; rfl))
              clear q1 h0
              go_wp2
              go_quiet ((go_at_call 55; exact Calls.hush (quiet_same (team_any _ _))))
              go_wp2
              go_ret
              exact ⟨ret_bool Hu.out.symm, Hbel.out.drewN _⟩
          · obtain rfl : k = r.length := by omega
            have Hz2 := Lib.hid (Hrl.out.trans Hc.out)
            go_wp2
            go_ret
            exact ⟨ret_bool Hz2.out.symm, hbel⟩
      · have hrl := rosU_no2 (rest := rest) hle
        have Hrl := Lib.hid hrl
        have hne : ((r.length : Int) != (l.length : Int)) = true := by rw [bne_iff_ne]; omega
        have hne2 : (r.length != l.length) = true := by rw [bne_iff_ne]; exact hle
        clear hrl hle hz hrb hok
        go_enter Try.func22, Try.ntmps22
        go_wp2_with fail
        refine (Hok.out).mono ?_; rintro e w1 ⟨rfl, hw1⟩
        rw [Hzv.out]
        go_wp2_with fail
        refine (rest_any _ _).mono ?_; rintro e w' ⟨rfl, rfl⟩
        rw [Hrb.out]
        go_wp2
        go_ret
        exact ⟨ret_bool Hrl.out.symm, hw1⟩
    | false =>
      clear hv hr
      have hok : okR l rest = false := by unfold okR; rw [hz, hrb]; rfl
      have Hrl := Lib.hid (rosU_no1 (r := r) hok)
      have Hzv := Lib.hid hz
      have Hrb := Lib.hid hrb
      clear hz hrb hok
      go_enter Try.func22, Try.ntmps22
      go_wp2_with fail
      refine (Hok.out).mono ?_; rintro e w1 ⟨rfl, hw1⟩
      rw [Hzv.out]
      go_wp2_with fail
      refine (rest_any _ _).mono ?_; rintro e w' ⟨rfl, rfl⟩
      rw [Hrb.out]
      go_wp2
      go_ret
      exact ⟨ret_bool Hrl.out.symm, hw1⟩
  | false =>
    clear hv hr
    have hok : okR l rest = false := by unfold okR; rw [hz]; rfl
    have Hrl := Lib.hid (rosU_no1 (r := r) hok)
    have Hzv := Lib.hid hz
    clear hz hok
    go_enter Try.func22, Try.ntmps22
    go_wp2_with fail
    refine (Hok.out).mono ?_; rintro e w1 ⟨rfl, hw1⟩
    rw [Hzv.out]
    go_wp2
    go_ret
    exact ⟨ret_bool Hrl.out.symm, hw1⟩

end Go.Proofs.Ytmcapcclnkicbaa
