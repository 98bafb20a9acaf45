/- The model's l8Has and l8Freed. -/
import Derived.Test.YthhllpnbmelidaaGJ
import Derived.Test.YthhllpnbmelidaaIZ
import Derived.BigRegion
namespace Go.Proofs.Ythhllpnbmelidaa
open Go.RowKit
set_option linter.unusedVariables false
set_option linter.unusedSimpArgs false

def L8hRel (l : List Int) (z : Int) (w : World) (i : Value) (wr : World) : Prop :=
  ∃ k : Nat, k ≤ l.length ∧ i = .int .i64 k ∧ (∀ j, j < k → l.getD j 0 ≠ z) ∧ Drewn w wr

set_option maxHeartbeats 400000 in
theorem has8_any (v : Value) (l : List Int) (z : Int) (w : World) (hv : IntsIn w v l) (hl : l.length ≤ 1048576) :
    Calls Try.prog 80 #[v, .int .i64 z] w (Quiet (.bool (hasL l z)) w) := by
  obtain ⟨a, cap, rfl, hcap, ha⟩ := hv
  clear hcap
  have Ha := Lib.hid ha; clear ha
  go_enter Try.func80, Try.ntmps80
  go_wp2
  go_loopw [5] (fun i wr => L8hRel l z w i wr) (fun i _ => l.length - (intOf i).toNat)
  case atStart => exact ⟨0, Nat.zero_le _, rfl, fun i hi => by omega, Drewn.refl _⟩
  case round =>
    obtain ⟨k, hk, rfl, hno, hw⟩ := hrel
    have Hno := Lib.hid hno; clear hno
    have HW := Lib.hid hw
    by_cases hlt : k < l.length
    · obtain ⟨b, o, rfl, hb, hrw⟩ := Ha.out (by intro h; simp [h] at hlt)
      have c0 := (hrw.below hw.below hb) k hlt
      have Hrw := Lib.hid hrw; clear hrw hw
      have hk0 : (0 : Int) ≤ (k : Int) := Int.natCast_nonneg _
      have hk1 : (k : Int) < (l.length : Int) := by omega
      generalize hx : l.getD k 0 = x at *
      have Hx := Lib.hid hx; clear hx
      by_cases hq : (x == z) = true
      · have Hm := Lib.hid (show true = hasL l z from (hasL_iff.2 (mem_getD8.2 ⟨k, hlt, by rw [Hx.out]; simpa using hq⟩)).symm)
        go_wp2
        go_ret
        exact ⟨ret_bool Hm.out, HW.out⟩
      · have hq' : (x == z) = false := by simpa using hq
        clear hq
        go_wp2
        refine ⟨⟨k + 1, hlt, by go_num, fun i hi => ?_, HW.out⟩, by simp [intOf]; omega⟩
        by_cases hik : i = k
        · subst hik; rw [Hx.out]; simpa using hq'
        · exact Hno.out i (by omega)
    · obtain rfl : k = l.length := by omega
      have Hm := Lib.hid (show false = hasL l z from (Bool.eq_false_iff.2 (fun h => by obtain ⟨k, hk, e⟩ := mem_getD8.1 (hasL_iff.1 h); exact Hno.out k hk e)).symm)
      clear hw
      go_wp2
      go_ret
      exact ⟨ret_bool Hm.out, HW.out⟩

/-- The first j payments do not free the gate. -/
def noFree (l : List Gt) (free : Int) (paid : List Int) (i : Int) (j : Nat) : Prop := ∀ k, k < j → ¬ (paid.getD k 0 < i ∧ (gAt l (paid.getD k 0)).b = (gAt l i).b ∧ (gAt l i).a - (gAt l (paid.getD k 0)).a ≤ free)
theorem freedG_at {l : List Gt} {free : Int} {paid : List Int} {i : Int} : freedG l free paid i = true ↔ ∃ k, k < paid.length ∧ (paid.getD k 0 < i ∧ (gAt l (paid.getD k 0)).b = (gAt l i).b ∧ (gAt l i).a - (gAt l (paid.getD k 0)).a ≤ free) := by
  rw [freedG_iff]
  constructor
  · rintro ⟨p, hp, h⟩
    obtain ⟨k, hk, rfl⟩ := mem_getD8.1 hp
    exact ⟨k, hk, h⟩
  · rintro ⟨k, hk, h⟩
    exact ⟨_, mem_getD8.2 ⟨k, hk, rfl⟩, h⟩
def Fr1Rel (l : List Gt) (free : Int) (paid : List Int) (n : Int) (w : World) (i : Value) (wr : World) : Prop :=
  ∃ k : Nat, k ≤ paid.length ∧ i = .int .i64 k ∧ noFree l free paid n k ∧ Below w.heap.size w wr

set_option maxRecDepth 100000 in
set_option maxHeartbeats 2000000 in
theorem freed1_any (v : Value) (l : List Gt) (free : Int) (vp : Value) (paid : List Int) (n : Nat) (w : World) (hv : GtIn w v l) (hz : validG l = true) (hp : IntsIn w vp paid) (hpl : paid.length ≤ 1048576) (hn : n < l.length) (hin : ∀ k ∈ paid, 0 ≤ k ∧ k < l.length) :
    Calls Try.prog 81 #[v, .int .i64 free, vp, .int .i64 n] w (Gives (.bool (freedG l free paid n)) w) := by
  obtain ⟨a, cap, rfl, hcap, ha⟩ := hv
  obtain ⟨g1, cp1, rfl, hcp1, hp1⟩ := hp
  obtain ⟨b, o, rfl, hb0, hrw⟩ := ha (by intro h; simp [h] at hn)
  have hten := (validG_iff.1 hz).1
  have Hrw := Lib.hid hrw
  have Hp := Lib.hid hp1
  have Hin := Lib.hid hin
  have Hz := Lib.hid hz
  have hg : gAt l (n : Int) = l.getD n gt0 := by unfold gAt; rw [Int.toNat_natCast]
  have hzi := validG_at hz hn
  have Hf := Lib.hid (freedG_at (l := l) (free := free) (paid := paid) (i := (n : Int)))
  have hnf : ∀ j, noFree l free paid n j ↔ ∀ k, k < j → ¬ (paid.getD k 0 < n ∧ (gAt l (paid.getD k 0)).b = (l.getD n gt0).b ∧ (l.getD n gt0).a - (gAt l (paid.getD k 0)).a ≤ free) := fun j => by unfold noFree; rw [hg]
  have Hnf := Lib.hid hnf
  rw [hg] at Hf
  clear ha hcap hcp1 hrw hp1 hin hz hg hnf
  have hn0 : (0 : Int) ≤ (n : Int) := Int.natCast_nonneg _
  have hn1 : (n : Int) < (l.length : Int) := by omega
  go_enter Try.func81, Try.ntmps81
  go_wp2
  go_loopw [9] (fun i wr => Fr1Rel l free paid n w i wr) (fun i _ => paid.length - (intOf i).toNat)
  case atStart => exact ⟨0, Nat.zero_le _, rfl, fun k hk => by omega, Below.refl _ _⟩
  case round =>
    obtain ⟨k, hk, rfl, hno, hbel⟩ := hrel
    have Hno := Lib.hid ((Hnf.out k).1 hno); clear hno
    by_cases hlt : k < paid.length
    · obtain ⟨pb, po, rfl, hpb, hprw⟩ := Hp.out (by intro h; simp [h] at hlt)
      have d0 := (hprw.below hbel hpb) k hlt
      obtain ⟨x0, x1⟩ := Hin.out (paid.getD k 0) (mem_getD8.2 ⟨k, hlt, rfl⟩)
      have hrw1 := Hrw.out.below hbel hb0
      obtain ⟨e0, e1, e2⟩ := hrw1 n hn
      have Hstop := Lib.hid (fun (h : paid.getD k 0 < n ∧ (gAt l (paid.getD k 0)).b = (l.getD n gt0).b ∧ (l.getD n gt0).a - (gAt l (paid.getD k 0)).a ≤ free) => Hf.out.2 ⟨k, hlt, h⟩)
      have Hgo := Lib.hid (fun (h : ¬ (paid.getD k 0 < n ∧ (gAt l (paid.getD k 0)).b = (l.getD n gt0).b ∧ (l.getD n gt0).a - (gAt l (paid.getD k 0)).a ≤ free)) => (Hnf.out (k + 1)).2 (fun j hj => by
        by_cases e : j = k
        · subst e; exact h
        · exact Hno.out j (by omega)))
      generalize paid.getD k 0 = px at *
      obtain ⟨x, rfl⟩ : ∃ x : Nat, px = x := ⟨px.toNat, by omega⟩
      have hgx : gAt l (x : Int) = l.getD x gt0 := by unfold gAt; rw [Int.toNat_natCast]
      rw [hgx] at Hstop Hgo
      have hx : x < l.length := by omega
      obtain ⟨c0, c1, c2⟩ := hrw1 x hx
      have hzx := validG_at Hz.out hx
      have hk0 : (0 : Int) ≤ (k : Int) := Int.natCast_nonneg _
      have hk1 : (k : Int) < (paid.length : Int) := by omega
      have HB0 := Lib.hid hbel
      clear hprw hrw1 hgx
      generalize (l.getD x gt0).a = xa at *
      generalize (l.getD x gt0).b = xb at *
      generalize (l.getD x gt0).m = xm at *
      generalize (l.getD n gt0).a = ya at *
      generalize (l.getD n gt0).b = yb at *
      generalize (l.getD n gt0).m = ym at *
      have hws : IntKind.i64.wrap (ya - xa) = ya - xa := IntWalk.i64_in _ (by omega)
      have hws2 : wrap64 (ya - xa) = ya - xa := by unfold wrap64; omega
      have hA0 : (wr.alloc (.cells #[.int .i64 xa, .int .i64 xb, .int .i64 xm] 33)).cell? ⟨wr.heap.size, 0, none⟩ = some (.int .i64 xa) := by go_simp
      have hA1 : (wr.alloc (.cells #[.int .i64 xa, .int .i64 xb, .int .i64 xm] 33)).cell? ⟨wr.heap.size, 1, none⟩ = some (.int .i64 xb) := by go_simp
      have hB1 : Below wr.heap.size wr (wr.alloc (.cells #[.int .i64 xa, .int .i64 xb, .int .i64 xm] 33)) := (Below.refl _ _).alloc (Nat.le_refl _) _
      have d1 := keepCell hB1 d0
      have f0 := keepCell hB1 e0
      have f1 := keepCell hB1 e1
      have HB := Lib.hid (hbel.trans (hB1.mono hbel.size))
      clear hbel
      by_cases q1 : (x : Int) < (n : Int)
      · by_cases q2 : xb = yb
        · have q2' : (xb == yb) = true := by simpa using q2
          by_cases q3 : ya - xa ≤ free
          · have Hr := Lib.hid (Hstop.out ⟨q1, q2, q3⟩)
            clear q2
            clear Hstop Hgo hB1 hzi hzx e2
            go_wp2_with fail
            generalize wr.alloc (.cells #[.int .i64 xa, .int .i64 xb, .int .i64 xm] 33) = w0 at *
            go_region
            all_goals
              go_wp2
              go_ret
              exact ⟨ret_bool Hr.out.symm, by first | exact HB.out.drew | exact HB.out.drewN _ | exact HB.out⟩
          · have Hr := Lib.hid (Hgo.out (fun h => q3 h.2.2))
            clear q2
            clear Hstop Hgo hB1 hzi hzx e2
            go_wp2_with fail
            generalize wr.alloc (.cells #[.int .i64 xa, .int .i64 xb, .int .i64 xm] 33) = w0 at *
            go_region
            all_goals
              go_wp2
              exact ⟨⟨k + 1, hlt, by go_num, Hr.out, by first | exact HB.out.drew | exact HB.out.drewN _ | exact HB.out⟩, by simp [intOf]; omega⟩
        · have q2' : (xb == yb) = false := by simpa using q2
          have Hr := Lib.hid (Hgo.out (fun h => q2 h.2.1))
          clear q2
          clear Hstop Hgo hB1 hzi hzx e2
          go_wp2_with fail
          generalize wr.alloc (.cells #[.int .i64 xa, .int .i64 xb, .int .i64 xm] 33) = w0 at *
          go_region
          all_goals
            go_wp2
            exact ⟨⟨k + 1, hlt, by go_num, Hr.out, by first | exact HB.out.drew | exact HB.out.drewN _ | exact HB.out⟩, by simp [intOf]; omega⟩
      · have Hr := Lib.hid (Hgo.out (fun h => q1 h.1))
        have q1d : decide (x < n) = false := decide_eq_false (by omega)
        have q1n : ¬ x < n := by omega
        clear Hstop Hgo hB1 hzi hzx e2
        go_wp2_with fail
        generalize wr.alloc (.cells #[.int .i64 xa, .int .i64 xb, .int .i64 xm] 33) = w0 at *
        go_region
        all_goals
          go_wp2
          exact ⟨⟨k + 1, hlt, by go_num, Hr.out, by first | exact HB.out.drew | exact HB.out.drewN _ | exact HB.out⟩, by simp [intOf]; omega⟩
    · obtain rfl : k = paid.length := by omega
      have Hr := Lib.hid (show freedG l free paid n = false from Bool.eq_false_iff.2 (fun h => by
        obtain ⟨j, hj, h3⟩ := Hf.out.1 h
        exact Hno.out j hj h3))
      have HB := Lib.hid hbel
      clear hbel hlt hk
      go_wp2
      go_ret
      exact ⟨ret_bool Hr.out.symm, HB.out⟩

end Go.Proofs.Ythhllpnbmelidaa
