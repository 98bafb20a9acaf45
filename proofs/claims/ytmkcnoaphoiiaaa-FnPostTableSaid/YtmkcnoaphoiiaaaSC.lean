/- Timetables: the walk of timetableOf; StopsValid, program and model. -/
import Derived.Test.YtmkcnoaphoiiaaaSB
namespace Go.Proofs.Ytmkcnoaphoiiaaa
open Go.RowKit

/-- What timetableOf gives. -/
def TTOf (n : Int) (l : List Rd) (w : World) (e : Ending) (w' : World) : Prop :=
  (validS n l = true → ∃ tb hs, e = .returned (.tuple #[.pointer (some ⟨tb, 0, none⟩), .bool true]) ∧ TT w' tb hs l ∧ w.heap.size ≤ tb ∧ Below w.heap.size w w') ∧
  (validS n l = false → e = .returned (.tuple #[.pointer none, .bool false]) ∧ Below w.heap.size w w')

theorem ttOf_no {n : Int} {l : List Rd} {w w' : World} {e : Ending} (h : validS n l = false) (he : e = .returned (.tuple #[.pointer none, .bool false])) (hb : Below w.heap.size w w') : TTOf n l w e w' :=
  ⟨fun h' => (by rw [h] at h'; cases h'), fun _ => ⟨he, hb⟩⟩

def OfRel (n : Int) (l : List Rd) (w : World) (i : Value) (wr : World) : Prop :=
  ∃ k : Nat, k ≤ l.length ∧ i = .int .i64 k ∧ okToS n l k = true ∧ Below w.heap.size w wr ∧ ∃ hs, TT wr w.heap.size hs (l.take k)

theorem newS_take {l : List Rd} {k i : Nat} (h : i ≤ k) (t : Int) : newS (l.take k) i t = newS l i t := by
  rw [Bool.eq_iff_iff, newS_iff, newS_iff]
  constructor
  · intro h' j hj; have := h' j hj; rwa [getD_take l (by omega)] at this
  · intro h' j hj; rw [getD_take l (by omega)]; exact h' j hj

set_option maxRecDepth 100000 in
set_option maxHeartbeats 1000000 in
theorem ttOf_any (n : Int) (v : Value) (l : List Rd) (w : World) (hv : RoadsIn w v l) (hm : l.length ≤ 1048576) :
    Calls Try.prog 92 #[.int .i64 n, v] w (TTOf n l w) := by
  obtain ⟨a, cap, rfl, ha⟩ := hv
  have Ha := Lib.hid ha; clear ha
  by_cases hsz : 1 ≤ n ∧ n ≤ 8 ∧ 2 ≤ l.length ∧ l.length ≤ 8
  · obtain ⟨n1, n8, l2, l8⟩ := hsz
    go_enter Try.func92, Try.ntmps92
    go_wp2
    go_loopw [29] (fun i wr => OfRel n l w i wr) (fun i _ => l.length - (intOf i).toNat)
    case atStart =>
      exact ⟨0, Nat.zero_le _, rfl, rfl, (Below.refl _ _).alloc (Nat.le_refl _) _, [], TT.empty w⟩
    case round =>
      obtain ⟨k, hk, rfl, hok, hbel, hs, htt⟩ := hrel
      have Hok := Lib.hid hok; clear hok
      by_cases hlt : k < l.length
      · obtain ⟨b, o, rfl, hb0, hrw⟩ := Ha.out (by intro h; simp [h] at hlt)
        obtain ⟨c0, c1, c2⟩ := (hrw.below hbel hb0) k hlt
        clear hrw
        have hx := getD_eq l hlt
        have hsucc := take_snocD l k hlt
        have hlen : (l.take k).length = k := by simp; omega
        have hokS : okS n l k = (fitsS n (l.getD k rd0) && (decide (lastS l k < (l.getD k rd0).b) && newS l k (l.getD k rd0).a)) := by rw [← Bool.and_assoc]; rfl
        obtain ⟨⟨ra, rb, rm⟩, hr⟩ : ∃ r, l.getD k rd0 = r := ⟨_, rfl⟩
        rw [hr] at c0 c1 c2 hsucc hokS
        simp only at c0 c1 c2 hokS
        have Hsucc := Lib.hid hsucc; clear hsucc
        have HokS := Lib.hid hokS; clear hokS
        have Hlen := Lib.hid hlen; clear hlen
        have Htt := Lib.hid htt; clear htt
        have Hlt := Lib.hid hlt
        clear hx hr
        have hB : Below wr.heap.size wr (wr.alloc (.cells #[.int .i64 ra, .int .i64 rb, .int .i64 rm] 77)) := (Below.refl _ _).alloc (Nat.le_refl _) _
        go_wp2_with fail
        refine (stopFits_any _ _ _ _ _).mono ?_; rintro e w1 ⟨rfl, hb1⟩
        obtain ⟨hc1, hf1⟩ := bcell hb1
        have hz1 : wr.heap.size + 1 ≤ w1.heap.size := by have := hb1.size; simpa using this
        have hB1 : Below wr.heap.size wr w1 := hB.trans (hb1.mono hB.size)
        cases hft : fitsS n ⟨ra, rb, rm⟩ with
        | true =>
          have hft' := (fitsS_iff _ _).1 hft
          simp only at hft'
          obtain ⟨_, _, hrb, _, _⟩ := hft'
          have Hft := Lib.hid hft; clear hft
          go_wp2_with fail
          refine (takes_any w.heap.size hs (l.take k) ra rb rm _ (Htt.out.below hB1) (by rw [Hlen.out]; omega) hrb).mono ?_; rintro e w2 ⟨rfl, hb2⟩
          have d0 : w2.cell? ⟨wr.heap.size, 0, none⟩ = some (.int .i64 ra) := by rw [hb2.cell (p := ⟨wr.heap.size, 0, none⟩) hz1, hc1 _ _ (by simp)]; simp
          have d1 : w2.cell? ⟨wr.heap.size, 1, none⟩ = some (.int .i64 rb) := by rw [hb2.cell (p := ⟨wr.heap.size, 1, none⟩) hz1, hc1 _ _ (by simp)]; simp
          have d2 : w2.cell? ⟨wr.heap.size, 2, none⟩ = some (.int .i64 rm) := by rw [hb2.cell (p := ⟨wr.heap.size, 2, none⟩) hz1, hc1 _ _ (by simp)]; simp
          have hz2 : wr.heap.size + 1 ≤ w2.heap.size := by have := hb2.size; omega
          have hB2 : Below wr.heap.size wr w2 := hB1.trans (hb2.mono hB1.size)
          have hcond : (decide (lastS (l.take k) (l.take k).length < rb) && newS (l.take k) (l.take k).length ra) = okS n l k := by
            rw [Hlen.out, lastS_take (Nat.le_refl _), newS_take (Nat.le_refl _), HokS.out, Hft.out, Bool.true_and]
          rw [hcond]
          clear hcond
          cases ho : okS n l k with
          | true =>
            have Ho := Lib.hid ho; clear ho
            go_wp2_with fail
            refine (add_any w.heap.size hs (l.take k) ra rb rm _ _ (Htt.out.below hB2) (by rw [Hlen.out])).mono ?_; rintro e w3 ⟨rfl, ⟨nb, hnb, hnb2, htt3⟩, hb3⟩
            have hok2 : okToS n l (k + 1) = true := by rw [okToS_succ, Hok.out, Ho.out]; rfl
            have Hok2 := Lib.hid hok2; clear hok2
            have Htt3 := Lib.hid htt3; clear htt3
            have hB3 : Below w.heap.size w w3 := (hbel.trans (hB2.mono hbel.size)).trans hb3
            go_wp2
            exact ⟨⟨k + 1, Hlt.out, by go_num, Hok2.out, hB3, hs ++ [nb], by rw [Hsucc.out]; exact Htt3.out⟩, by simp [intOf]; omega⟩
          | false =>
            have Hz := Lib.hid (validS_no Hlt.out ho); clear ho
            go_wp2
            go_ret2
            exact ttOf_no Hz.out rfl (hbel.trans (hB2.mono hbel.size))
        | false =>
          have hz : okS n l k = false := by rw [HokS.out, hft]; rfl
          have Hz := Lib.hid (validS_no Hlt.out hz); clear hz hft
          go_wp2
          go_ret2
          exact ttOf_no Hz.out rfl (hbel.trans (hB1.mono hbel.size))
      · obtain rfl : k = l.length := by omega
        have hz := validS_yes ⟨n1, n8, l2, l8⟩ Hok.out
        have Hz := Lib.hid hz; clear hz
        rw [List.take_length] at htt
        have Htt := Lib.hid htt; clear htt
        go_wp2
        go_ret2
        exact ⟨fun _ => ⟨w.heap.size, hs, rfl, Htt.out, Nat.le_refl _, hbel⟩, fun h => by rw [Hz.out] at h; cases h⟩
  · have Hz := Lib.hid (validS_small hsz)
    by_cases h1 : n < 1
    · clear hsz
      go_enter Try.func92, Try.ntmps92
      go_wp2
      go_ret2
      exact ttOf_no Hz.out rfl (Below.refl _ _)
    · by_cases h2 : 8 < n
      · clear hsz
        go_enter Try.func92, Try.ntmps92
        go_wp2
        go_ret2
        exact ttOf_no Hz.out rfl (Below.refl _ _)
      · by_cases h3 : (l.length : Int) < 2
        · clear hsz
          go_enter Try.func92, Try.ntmps92
          go_wp2
          go_ret2
          exact ttOf_no Hz.out rfl (Below.refl _ _)
        · have h4 : (8 : Int) < (l.length : Int) := by omega
          clear hsz
          go_enter Try.func92, Try.ntmps92
          go_wp2
          go_ret2
          exact ttOf_no Hz.out rfl (Below.refl _ _)

set_option maxHeartbeats 400000 in
theorem valid2_any (n : Int) (v : Value) (l : List Rd) (w : World) (hv : RoadsIn w v l) (hm : l.length ≤ 1048576) :
    Calls Try.prog 107 #[.int .i64 n, v] w (Gives (.bool (validS n l)) w) := by
  have Hc := Lib.hid (ttOf_any n v l w hv hm)
  clear hv
  cases hz : validS n l with
  | true =>
    have Hz := Lib.hid hz; clear hz
    go_enter Try.func107, Try.ntmps107
    go_wp2_with fail
    refine (Hc.out).mono ?_; rintro e w1 ⟨h1, _⟩
    obtain ⟨tb, hs, rfl, _, _, hb⟩ := h1 Hz.out
    clear h1
    go_wp2
    go_ret
    exact ⟨rfl, hb⟩
  | false =>
    have Hz := Lib.hid hz; clear hz
    go_enter Try.func107, Try.ntmps107
    go_wp2_with fail
    refine (Hc.out).mono ?_; rintro e w1 ⟨_, h1⟩
    obtain ⟨rfl, hb⟩ := h1 Hz.out
    clear h1
    go_wp2
    go_ret
    exact ⟨rfl, hb⟩

end Go.Proofs.Ytmkcnoaphoiiaaa
