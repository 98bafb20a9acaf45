/- The walks of the laws' helpers on nets: szStopSS, toStopSS, eqStopSS. -/
import Derived.Test.YtmkcnoaphoiiaaaJE
import Derived.Test.YtmkcnoaphoiiaaaZB
import Derived.Deep.RegionHeld3
namespace Go.Proofs.Ytmkcnoaphoiiaaa
open Go.RowKit

def szI (left : Int) (n : Nat) : Int := if left - (n : Int) < 0 then -1 else left - (n : Int)

set_option maxHeartbeats 400000 in
theorem szStopS_gen (v : Value) (l : List Tz) (left : Int) (w : World) (hv : TzIn w v l) (h0 : 0 ≤ left) (h1 : left ≤ 1048576) (hl : l.length ≤ maxLen) :
    Calls Try.prog 49 #[v, .int .i64 left] w fun e w' => e = .returned (.int .i64 (szI left l.length)) ∧ w = w' := by
  obtain ⟨a, cap, rfl, hcap, ha⟩ := hv
  clear hcap
  unfold maxLen at hl
  have Ha := Lib.hid ha; clear ha
  by_cases h : left - (l.length : Int) < 0
  · have e : szI left l.length = -1 := by unfold szI; rw [if_pos h]
    rw [e]
    clear e
    go_enter Try.func49, Try.ntmps49
    go_wp2
    go_ret
    exact ⟨rfl, rfl⟩
  · have e : szI left l.length = left - (l.length : Int) := by unfold szI; rw [if_neg h]
    rw [e]
    clear e
    go_enter Try.func49, Try.ntmps49
    go_wp2
    go_ret
    exact ⟨rfl, rfl⟩

def SzNtRel (net : List (List Tz)) (left : Int) (w : World) (lv i : Value) (wr : World) : Prop :=
  ∃ k : Nat, k ≤ net.length ∧ i = .int .i64 k ∧ lv = .int .i64 (left - (net.length : Int) - (totTo net k : Int)) ∧ 0 ≤ left - (net.length : Int) - (totTo net k : Int) ∧ w = wr

/-- What is left, or -1. -/
def szNt (left : Int) (net : List (List Tz)) : Int := if left - (totN net : Int) < 0 then -1 else left - (totN net : Int)

set_option maxRecDepth 100000 in
set_option maxHeartbeats 800000 in
theorem szStopSS_gen (v : Value) (net : List (List Tz)) (left : Int) (w : World) (hv : NtIn w v net) (h0 : 0 ≤ left) (h1 : left ≤ 1048576) (hl : net.length ≤ maxLen) (hls : ∀ i, i < net.length → (coach net i).length ≤ maxLen) :
    Calls Try.prog 16 #[v, .int .i64 left] w fun e w' => e = .returned (.int .i64 (szNt left net)) ∧ w = w' := by
  obtain ⟨a, cap, rfl, hcap, ha⟩ := hv
  clear hcap
  unfold maxLen at hl
  have Ha := Lib.hid ha; clear ha
  have Hls := Lib.hid hls; clear hls
  by_cases h : left - (net.length : Int) < 0
  · have e : szNt left net = -1 := by unfold szNt totN; rw [if_pos (by omega)]
    rw [e]
    clear e
    go_enter Try.func16, Try.ntmps16
    go_wp2
    go_ret
    exact ⟨rfl, rfl⟩
  · go_enter Try.func16, Try.ntmps16
    go_wp2
    go_loopw [1, 5] (fun lv i wr => SzNtRel net left w lv i wr) (fun _ i _ => net.length - (intOf i).toNat)
    case atStart => exact ⟨0, Nat.zero_le _, rfl, by show _ = Value.int .i64 (left - (net.length : Int) - ((0 : Nat) : Int)); simp, by show 0 ≤ left - (net.length : Int) - ((0 : Nat) : Int); omega, rfl⟩
    case round =>
      obtain ⟨k, hk, rfl, rfl, hge, rfl⟩ := hrel
      by_cases hlt : k < net.length
      · obtain ⟨b, o, rfl, hb, hrw⟩ := Ha.out (by intro h; simp [h] at hlt)
        obtain ⟨u, c0, hu⟩ := hrw k hlt
        have Hu := Lib.hid (Hls.out k hlt)
        have Hs := Lib.hid (show totTo net (k + 1) = totTo net k + (coach net k).length from rfl)
        have hm := totTo_mono net (show k + 1 ≤ net.length by omega)
        have Hm := Lib.hid hm
        clear hrw hm
        have hleft : left - (net.length : Int) - (totTo net k : Int) ≤ 1048576 := by omega
        go_wp2_with fail
        refine (szStopS_gen u (coach net k) _ w hu hge hleft Hu.out).mono ?_; rintro e w' ⟨rfl, rfl⟩
        by_cases h2 : left - (net.length : Int) - (totTo net k : Int) - ((coach net k).length : Int) < 0
        · have e1 : szI (left - (net.length : Int) - (totTo net k : Int)) (coach net k).length = -1 := by unfold szI; rw [if_pos h2]
          have e2 : szNt left net = -1 := by
            have := Hm.out; have := Hs.out
            unfold szNt totN; rw [if_pos (by omega)]
          have E2 := Lib.hid e2
          rw [e1]
          clear e1 e2 hu c0
          go_wp2
          go_ret
          exact ⟨by rw [E2.out]; rfl, rfl⟩
        · have e1 : szI (left - (net.length : Int) - (totTo net k : Int)) (coach net k).length = left - (net.length : Int) - (totTo net (k + 1) : Int) := by
            have := Hs.out
            unfold szI; rw [if_neg h2]; omega
          have h3 : 0 ≤ left - (net.length : Int) - (totTo net (k + 1) : Int) := by have := Hs.out; omega
          rw [e1]
          clear e1 hu c0 h2 hge
          go_wp2
          exact ⟨⟨k + 1, hlt, by go_num, rfl, h3, rfl⟩, by simp [intOf]; omega⟩
      · obtain rfl : k = net.length := by omega
        have e2 : szNt left net = left - (net.length : Int) - (totTo net net.length : Int) := by
          unfold szNt totN; rw [if_neg (by omega)]; omega
        have E2 := Lib.hid e2
        clear e2
        go_wp2
        go_ret
        exact ⟨by rw [E2.out]; rfl, rfl⟩

/-- A new net of its own, which reads as it. -/
def NewNt (net : List (List Tz)) (w : World) (e : Ending) (w' : World) : Prop :=
  ∃ b ads cps, e = .returned (.slice (some ⟨b, 0, none⟩) net.length net.length) ∧ NtOwn w' w.heap.size w'.heap.size b ads cps net ∧ Below w.heap.size w w' ∧ ∀ i, i < net.length → ∃ ad, ads i = some ad

def ToNtRel (net : List (List Tz)) (w : World) (i : Value) (wr : World) : Prop :=
  ∃ (k : Nat) (bs : Nat → Nat), k ≤ net.length ∧ i = .int .i64 k ∧ Room wr w.heap.size net.length ∧ Below w.heap.size w wr ∧ w.heap.size < wr.heap.size ∧
    (∀ i, i < k → wr.cell? ⟨w.heap.size, i, none⟩ = some (.slice (some ⟨bs i, 0, none⟩) (coach net i).length (coach net i).length) ∧ OwnTz wr (some ⟨bs i, 0, none⟩) (coach net i) ∧ w.heap.size < bs i ∧ bs i < wr.heap.size) ∧
    (∀ i j, i < j → j < k → bs i < bs j)

theorem infoSl : (Try.prog.info? 57).map (fun i => (i.zero, i.size, i.bytes)) = some (some (.slice none 0 0), 1, 24) := by kernel_rfl

set_option maxRecDepth 100000 in
set_option maxHeartbeats 800000 in
theorem toStopSS_any (v : Value) (net : List (List Tz)) (w : World) (hv : NtIn w v net) (hl : totN net ≤ 1048576) :
    Calls Try.prog 18 #[v] w (NewNt net w) := by
  obtain ⟨a, cap, rfl, hcap, ha⟩ := hv
  clear hcap
  have hl1 : net.length ≤ 1048576 := by unfold totN at hl; omega
  obtain ⟨i0, hi, hz0, hz1, hz2⟩ := info_parts infoSl
  have hmk := fun W => run_make_rowN (P := Try.prog) 25 57 i0 _ Try.underlying25 hi hz0 .i64 .i64 net.length net.length (Nat.le_refl _) (by rw [hz2]; omega) (by omega) W
  rw [hz1] at hmk
  have Hl := Lib.hid hl; clear hl
  go_enter Try.func18, Try.ntmps18
  go_wp2
  go_loopw [4] (fun i wr => ToNtRel net w i wr) (fun i _ => net.length - (intOf i).toNat)
  case atStart =>
    refine ⟨0, fun _ => 0, Nat.zero_le _, rfl, Room.made _ _ _ _ (by simp), (Below.refl _ _).alloc (Nat.le_refl _) _, by simp, fun i hi => by omega, fun i j _ hj => by omega⟩
  case round =>
    obtain ⟨k, bs, hk, rfl, ⟨hroom, hfz⟩, hbel, hsz, hrows, hinc⟩ := hrel
    by_cases hlt : k < net.length
    · obtain ⟨b, o, rfl, hb, hrw⟩ := ha (by intro h; simp [h] at hlt)
      obtain ⟨u, c0, hu⟩ := hrw k hlt
      have d0 : wr.cell? ⟨b, o + k, none⟩ = some u := by rw [hbel.cell (p := ⟨b, o + k, none⟩) hb]; exact c0
      have hu2 := hu.below hbel
      have hln : (coach net k).length ≤ 1048576 := by have := totTo_at net hlt; have := Hl.out; unfold totN at this; omega
      have Hrows := Lib.hid hrows; clear hrows
      have Hinc := Lib.hid hinc; clear hinc
      have Hroom := Lib.hid (And.intro hroom hfz)
      have Ha := Lib.hid ha; clear ha
      have Hrw := Lib.hid hrw; clear hrw c0 hu
      have hr0 := hroom k (by omega)
      clear hroom
      go_wp2_with (go_at_call 51; refine (toStopS_any u (coach net k) _ hu2 hln).mono ?_; rintro e w1 ⟨b1, rfl, hb1a, hb1b, hat1, hrm1, hb1⟩; obtain ⟨hc1, hf1⟩ := bcell hb1; obtain ⟨u0, e0⟩ := hr0)
      have hroom1 := Room.below Hroom.out hb1 hsz
      refine ⟨⟨k + 1, fun i => if i = k then b1 else bs i, hlt, by go_num, hroom1.setCell _ _, (hbel.trans (hb1.mono (Nat.le_of_lt hsz))).setCell (Nat.le_refl _) _, by rw [World.size_setCell]; exact Nat.lt_of_lt_of_le hsz hb1.size, fun i hi => ?_, fun i j hij hj => ?_⟩, by simp [intOf]; omega⟩
      · have hT : Touch (fun p => p = w.heap.size) w1 (w1.setCell ⟨w.heap.size, k, none⟩ (.slice (some ⟨b1, 0, none⟩) (coach net k).length (coach net k).length)) := Touch.setCell (Touch.refl (fun p => p = w.heap.size) w1) (show w.heap.size = w.heap.size from rfl) _
        dsimp only
        by_cases hik : i = k
        · subst hik
          rw [if_pos rfl]
          obtain ⟨u9, hu9⟩ := hroom1.1 i hlt
          refine ⟨World.cell?_setCell_same _ _ _ hu9, ?_, by omega, by rw [World.size_setCell]; exact hb1b⟩
          exact (show OwnTz w1 (some ⟨b1, 0, none⟩) (coach net i) from fun _ => ⟨b1, rfl, hb1b, hat1, hrm1⟩).touch hT (fun j hj h => by obtain ⟨o, ho⟩ := hj; cases ho; omega)
        · obtain ⟨q1, q2, q3, q4⟩ := Hrows.out i (by omega)
          rw [if_neg hik]
          refine ⟨?_, (q2.below hb1).touch hT (fun j hj h => by obtain ⟨o, ho⟩ := hj; cases ho; omega), q3, by rw [World.size_setCell]; exact Nat.lt_of_lt_of_le q4 hb1.size⟩
          rw [World.cell?_setCell_other _ _ _ _ (by intro e; injection e with e1 e2; omega), hb1.cell (p := ⟨w.heap.size, i, none⟩) hsz]
          exact q1
      · dsimp only
        by_cases hjk : j = k
        · rw [if_pos hjk, if_neg (by omega)]
          have := (Hrows.out i (by omega)).2.2.2
          omega
        · rw [if_neg hjk, if_neg (by omega)]
          exact Hinc.out i j hij (by omega)
    · obtain rfl : k = net.length := by omega
      have Hrows := Lib.hid hrows; clear hrows
      have Hinc := Lib.hid hinc; clear hinc
      have Hroom := Lib.hid (And.intro hroom hfz); clear hroom hfz
      have Ha := Lib.hid ha; clear ha
      go_wp2
      go_ret
      refine ⟨_, fun i => some ⟨bs i, 0, none⟩, fun i => (coach net i).length, rfl, ⟨⟨Nat.le_refl _, hsz⟩, Nat.le_refl _, fun i hi => (Hrows.out i hi).1, fun _ _ => Nat.le_refl _, fun i hi => (Hrows.out i hi).2.1, fun i hi p hp => ?_, fun i j hi hj hne p hp hq => ?_⟩, hbel, fun i _ => ⟨_, rfl⟩⟩
      · obtain ⟨o, ho⟩ := hp
        cases ho
        obtain ⟨_, _, q3, q4⟩ := Hrows.out i hi
        exact ⟨by omega, q4, by omega⟩
      · obtain ⟨o, ho⟩ := hp
        obtain ⟨o', ho'⟩ := hq
        cases ho
        injection ho' with ho'
        injection ho' with ho1
        rcases Nat.lt_or_gt_of_ne hne with h | h
        · have := Hinc.out i j h hj; omega
        · have := Hinc.out j i h hi; omega

def EqNtRel (net net' : List (List Tz)) (w : World) (i : Value) (wr : World) : Prop := ∃ k : Nat, k ≤ net.length ∧ i = .int .i64 k ∧ (∀ i, i < k → coach net i = coach net' i) ∧ Below w.heap.size w wr

theorem net_ext {net net' : List (List Tz)} (h : net.length = net'.length) (he : ∀ i, i < net.length → coach net i = coach net' i) : net = net' := by
  refine List.ext_getElem h fun i h1 h2 => ?_
  have := he i h1
  rwa [coach_eq h1, coach_eq h2] at this

set_option maxRecDepth 100000 in
set_option maxHeartbeats 800000 in
theorem eqStopSS_any (v v' : Value) (net net' : List (List Tz)) (w : World) (hv : NtIn w v net) (hv' : NtIn w v' net') (hl : totN net ≤ 1048576) :
    Calls Try.prog 20 #[v, v'] w (EqPOut (net = net') w) := by
  obtain ⟨a, cap, rfl, hcap, ha⟩ := hv
  obtain ⟨a', cap', rfl, hcap', ha'⟩ := hv'
  clear hcap hcap'
  have hl1 : net.length ≤ 1048576 := by unfold totN at hl; omega
  have Hl := Lib.hid hl; clear hl
  have Ha := Lib.hid ha; clear ha
  have Ha' := Lib.hid ha'; clear ha'
  by_cases hle : net.length = net'.length
  · have h1 : ((net.length : Int) != (net'.length : Int)) = false := by simp [hle]
    have Hle := Lib.hid hle; clear hle
    go_enter Try.func20, Try.ntmps20
    go_wp2
    clear h1
    go_loopw [5] (fun i wr => EqNtRel net net' w i wr) (fun i _ => net.length - (intOf i).toNat)
    case atStart => exact ⟨0, Nat.zero_le _, rfl, fun i hi => by omega, Below.refl _ _⟩
    case round =>
      obtain ⟨k, hk, rfl, heq, hbel⟩ := hrel
      have Heq := Lib.hid heq; clear heq
      by_cases hlt : k < net.length
      · have hlt' : k < net'.length := Hle.out ▸ hlt
        obtain ⟨b, o, rfl, hb, hrw⟩ := Ha.out (by intro h; simp [h] at hlt)
        obtain ⟨b', o', rfl, hb', hrw'⟩ := Ha'.out (by intro h; simp [h] at hlt')
        obtain ⟨u, c0, hu⟩ := hrw k hlt
        obtain ⟨u', c0', hu'⟩ := hrw' k hlt'
        have d0 : wr.cell? ⟨b, o + k, none⟩ = some u := by rw [hbel.cell (p := ⟨b, o + k, none⟩) hb]; exact c0
        have d0' : wr.cell? ⟨b', o' + k, none⟩ = some u' := by rw [hbel.cell (p := ⟨b', o' + k, none⟩) hb']; exact c0'
        have hln : (coach net k).length ≤ 1048576 := by have := totTo_at net hlt; have := Hl.out; unfold totN at this; omega
        have HK := Lib.hid (fun (w' : World) (h : Below wr.heap.size wr w') => show Below wr.heap.size wr w' ∧ w'.cell? ⟨b, o + k, none⟩ = some u ∧ w'.cell? ⟨b', o' + k, none⟩ = some u' from ⟨h, (h.cell (p := ⟨b, o + k, none⟩) (Nat.lt_of_lt_of_le hb hbel.size)).trans d0, (h.cell (p := ⟨b', o' + k, none⟩) (Nat.lt_of_lt_of_le hb' hbel.size)).trans d0'⟩)
        have HC := Lib.hid (fun (W : World) (h : Below wr.heap.size wr W) => eqStopS_any u u' (coach net k) (coach net' k) W ((hu.below hbel).below h) ((hu'.below hbel).below h) hln)
        have hk1' : (k : Int) < (net'.length : Int) := by omega
        clear hrw hrw' c0 c0' hu hu'
        go_wp2_with fail
        go_region_held3 (fun w' => Below wr.heap.size wr w' ∧ w'.cell? ⟨b, o + k, none⟩ = some u ∧ w'.cell? ⟨b', o' + k, none⟩ = some u')
          (exact HK.out _ (by first | assumption | exact And.left (by assumption) | exact Below.refl _ _ | exact (Below.refl _ _).drew | exact Below.drew (by assumption) | exact (Below.refl _ _).drewN _ | exact Below.drewN (by assumption) _))
          (first | (go_at_call 53; refine (HC.out _ (by first | assumption | exact And.left (by assumption) | exact (Below.refl _ _).drew)).mono ?_; rintro e w1 ⟨⟨x, rfl, hx⟩, hb1⟩; have hb1' : Below wr.heap.size wr w1 := (Below.refl wr.heap.size wr).drew.trans (hb1.mono (Below.refl wr.heap.size wr).drew.size)))
        cases x with
        | false =>
          have hne : ¬ coach net k = coach net' k := fun h => by have := hx.2 h; cases this
          have Hne := Lib.hid hne
          clear hx hne
          go_wp2
          go_ret
          refine ⟨⟨false, rfl, ?_⟩, hbel.trans (hb1'.mono hbel.size)⟩
          simp only [Bool.false_eq_true, false_iff]
          rintro rfl
          exact Hne.out rfl
        | true =>
          have he := hx.1 rfl
          have He := Lib.hid he
          clear hx he
          go_wp2
          refine ⟨⟨k + 1, hlt, by go_num, fun i hi => ?_, hbel.trans (hb1'.mono hbel.size)⟩, by simp [intOf]; omega⟩
          by_cases hik : i = k
          · subst hik; exact He.out
          · exact Heq.out i (by omega)
      · obtain rfl : k = net.length := by omega
        go_wp2
        go_ret
        exact ⟨⟨true, rfl, by simp only [true_iff]; exact net_ext Hle.out Heq.out⟩, hbel⟩
  · have h1 : ((net.length : Int) != (net'.length : Int)) = true := by simp; omega
    have Hle := Lib.hid hle; clear hle
    go_enter Try.func20, Try.ntmps20
    go_wp2
    go_ret
    exact ⟨⟨false, rfl, by simp; rintro rfl; exact Hle.out rfl⟩, Below.refl _ _⟩

end Go.Proofs.Ytmkcnoaphoiiaaa
