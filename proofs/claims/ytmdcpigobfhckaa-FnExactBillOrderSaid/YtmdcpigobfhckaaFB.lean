/- The walks of the laws' own helpers: toParcel, toParcelS, eqParcel, eqParcelS, szParcelS. -/
import Derived.Test.YtmdcpigobfhckaaRows
import Derived.Test.YtmdcpigobfhckaaFA
import Derived.WalkKit
import Derived.WalkSpells
import Derived.WalkLawsBesides
import Derived.Lib.Hide
import Derived.IntWalk
import Derived.Deep.QuietTactic
import Derived.BigQuiet
import Derived.Deep.RegionHeld3
import Derived.Laws.MakeOwn
namespace Go.Proofs.Ytmdcpigobfhckaa
open Go.RowKit

set_option maxHeartbeats 400000 in
theorem toParcel_any (a : Int) (b : Int) (m : Int) (w : World) :
    Calls Try.prog 35 #[.agg #[.int .i64 a, .int .i64 b, .int .i64 m]] w fun e w' => e = .returned (.agg #[.int .i64 a, .int .i64 b, .int .i64 m]) ∧ Below w.heap.size w w' := by
  go_enter Try.func35, Try.ntmps35
  go_wp2
  exact bodyPost_ret (v := .agg #[.int .i64 a, .int .i64 b, .int .i64 m]) (by simp [results, Try.results35, go_sem]) rfl ⟨rfl, (((Below.refl _ _).alloc (Nat.le_refl _) _).alloc (by simp) _).alloc (by simp; omega) _⟩

def eqBFr (a : Int) (b : Int) (m : Int) (a' : Int) (b' : Int) (m' : Int) : Bool := (a == a') && (b == b') && (m == m')

set_option maxHeartbeats 400000 in
theorem eqParcel_any (a : Int) (b : Int) (m : Int) (a' : Int) (b' : Int) (m' : Int) (w : World) :
    Calls Try.prog 74 #[.agg #[.int .i64 a, .int .i64 b, .int .i64 m], .agg #[.int .i64 a', .int .i64 b', .int .i64 m']] w fun e w' => e = .returned (.bool (eqBFr a b m a' b' m')) ∧ Below w.heap.size w w' := by
  go_enter Try.func74, Try.ntmps74
  go_wp2
  all_goals
    go_ret
    exact ⟨by simp_all [eqBFr], ((Below.refl _ _).alloc (Nat.le_refl _) _).alloc (by simp) _⟩

/-- The loop of toParcelS. -/
def ToFrRel (l : List Fr) (w : World) (i : Value) (wr : World) : Prop :=
  ∃ k : Nat, k ≤ l.length ∧ i = .int .i64 k ∧ FrAt wr w.heap.size 0 (l.take k) ∧ Room wr w.heap.size (l.length * 3) ∧ Below w.heap.size w wr ∧ w.heap.size < wr.heap.size

set_option maxHeartbeats 400000 in
theorem toParcelS_any (v : Value) (l : List Fr) (w : World) (hv : FrIn w v l) (hl : l.length ≤ 1048576) :
    Calls Try.prog 23 #[v] w (NewFr l w) := by
  obtain ⟨a, cap, rfl, hcap, ha⟩ := hv
  clear hcap
  obtain ⟨i0, hi, hz0, hz1, hz2⟩ := info_parts infoFr
  have hmk := fun W => run_make_rowN (P := Try.prog) 25 41 i0 _ Try.underlying25 hi hz0 .i64 .i64 l.length l.length (Nat.le_refl _) (by rw [hz2]; omega) (by omega) W
  rw [hz1] at hmk
  go_enter Try.func23, Try.ntmps23
  go_wp2
  go_loopw [4] (fun i wr => ToFrRel l w i wr) (fun i _ => l.length - (intOf i).toNat)
  case atStart =>
    refine ⟨0, Nat.zero_le _, rfl, ?_, Room.made _ _ _ _ (by simp), (Below.refl _ _).alloc (Nat.le_refl _) _, by simp⟩
    intro i hi; simp at hi
  case round =>
    obtain ⟨k, hk, rfl, hrow, ⟨hroom, hfz⟩, hbel, hsz⟩ := hrel
    by_cases hlt : k < l.length
    · obtain ⟨b, o, rfl, hb, hrw⟩ := ha (by intro h; simp [h] at hlt)
      obtain ⟨c0, c1, c2⟩ := hrw k hlt
      have d0 : wr.cell? ⟨b, o + k * 3, none⟩ = some (.int .i64 (l.getD k fr0).a) := by rw [hbel.cell (p := ⟨b, o + k * 3, none⟩) hb]; exact c0
      have d1 : wr.cell? ⟨b, o + k * 3 + 1, none⟩ = some (.int .i64 (l.getD k fr0).b) := by rw [hbel.cell (p := ⟨b, o + k * 3 + 1, none⟩) hb]; exact c1
      have d2 : wr.cell? ⟨b, o + k * 3 + 2, none⟩ = some (.int .i64 (l.getD k fr0).m) := by rw [hbel.cell (p := ⟨b, o + k * 3 + 2, none⟩) hb]; exact c2
      have Hrow := Lib.hid hrow; clear hrow
      have Hroom := Lib.hid (And.intro hroom hfz)
      have Ha := Lib.hid ha; clear ha
      have Hrw := Lib.hid hrw; clear hrw c0 c1 c2
      have hr0 := hroom (k * 3) (by omega)
      have hr1 := hroom (k * 3 + 1) (by omega)
      have hr2 := hroom (k * 3 + 2) (by omega)
      clear hroom
      go_wp2_with (go_at_call 35; refine (toParcel_any _ _ _ _).mono ?_; rintro e w1 ⟨rfl, hb1⟩; obtain ⟨hc1, hf1⟩ := bcell hb1; obtain ⟨u0, e0⟩ := hr0; obtain ⟨u1, e1⟩ := hr1; obtain ⟨u2, e2⟩ := hr2)
      have hx := Fr.getD_eq l hlt
      refine ⟨⟨k + 1, hlt, by go_num, FrAt.push hlt (Nat.le_refl _) (Hrow.out.below hb1 hsz) (Room.below Hroom.out hb1 hsz) (by rw [hx]) (by rw [hx]) (by rw [hx]), ((((Room.below Hroom.out hb1 hsz).setCell _ _).setCell _ _).setCell _ _), ((((hbel.trans (hb1.mono (Nat.le_of_lt hsz))).setCell (Nat.le_refl _) _).setCell (Nat.le_refl _) _).setCell (Nat.le_refl _) _), ?_⟩, by simp [intOf]; omega⟩
      simp only [World.size_setCell]
      exact Nat.lt_of_lt_of_le hsz hb1.size
    · obtain rfl : k = l.length := by omega
      have Hrow := Lib.hid hrow; clear hrow
      have Hroom := Lib.hid (And.intro hroom hfz); clear hroom hfz
      have Ha := Lib.hid ha; clear ha
      go_wp2
      go_ret
      refine ⟨_, rfl, Nat.le_refl _, hsz, ?_, Hroom.out, hbel⟩
      have := Hrow.out
      rwa [List.take_length] at this

theorem eqBFr_iff (r s : Fr) : eqBFr r.a r.b r.m s.a s.b s.m = true ↔ r = s := by
  cases r; cases s; simp [eqBFr, and_assoc]

/-- The first k pairs are equal. -/
def eqFrTo (l l' : List Fr) (k : Nat) : Prop := ∀ i, i < k → l.getD i fr0 = l'.getD i fr0

theorem eqFrTo_all {l l' : List Fr} (h : l.length = l'.length) (he : eqFrTo l l' l.length) : l = l' := by
  refine List.ext_getElem h fun i h1 h2 => ?_
  have := he i h1
  rwa [Fr.getD_eq l h1, Fr.getD_eq l' h2] at this

def EqFrRel (l l' : List Fr) (w : World) (i : Value) (wr : World) : Prop := ∃ k : Nat, k ≤ l.length ∧ i = .int .i64 k ∧ eqFrTo l l' k ∧ Below w.heap.size w wr

set_option maxHeartbeats 400000 in
theorem eqParcelS_any (v v' : Value) (l l' : List Fr) (w : World) (hv : FrIn w v l) (hv' : FrIn w v' l') (hl : l.length ≤ 1048576) :
    Calls Try.prog 25 #[v, v'] w (EqPOut (l = l') w) := by
  obtain ⟨a, cap, rfl, hcap, ha⟩ := hv
  obtain ⟨a', cap', rfl, hcap', ha'⟩ := hv'
  clear hcap hcap'
  by_cases hle : l.length = l'.length
  · have Ha := Lib.hid ha; clear ha
    have Ha' := Lib.hid ha'; clear ha'
    have h1 : ((l.length : Int) != (l'.length : Int)) = false := by simp [hle]
    have Hle := Lib.hid hle; clear hle
    go_enter Try.func25, Try.ntmps25
    go_wp2
    clear h1
    go_loopw [5] (fun i wr => EqFrRel l l' w i wr) (fun i _ => l.length - (intOf i).toNat)
    case atStart => exact ⟨0, Nat.zero_le _, rfl, fun i hi => by omega, Below.refl _ _⟩
    case round =>
      obtain ⟨k, hk, rfl, heq, hbel⟩ := hrel
      have Heq := Lib.hid heq; clear heq
      by_cases hlt : k < l.length
      · have hlt' : k < l'.length := Hle.out ▸ hlt
        obtain ⟨b, o, rfl, hb, hrw⟩ := Ha.out (by intro h; simp [h] at hlt)
        obtain ⟨b', o', rfl, hb', hrw'⟩ := Ha'.out (by intro h; simp [h] at hlt')
        obtain ⟨c0, c1, c2⟩ := (hrw.below hbel hb) k hlt
        obtain ⟨c0', c1', c2'⟩ := (hrw'.below hbel hb') k hlt'
        have Hrw := Lib.hid hrw; clear hrw
        have Hrw' := Lib.hid hrw'; clear hrw'
        have hk0 : (0 : Int) ≤ (k : Int) := Int.natCast_nonneg _
        have hk1 : (k : Int) < (l.length : Int) := by omega
        have hk1' : (k : Int) < (l'.length : Int) := by omega
        have hbr : b < wr.heap.size := Nat.lt_of_lt_of_le hb hbel.size
        have hbr' : b' < wr.heap.size := Nat.lt_of_lt_of_le hb' hbel.size
        go_wp2_with fail
        go_region_held3 (fun w' => w'.cell? ⟨b, o + k * 3, none⟩ = some (.int .i64 (l.getD k fr0).a) ∧ w'.cell? ⟨b, o + k * 3 + 1, none⟩ = some (.int .i64 (l.getD k fr0).b) ∧ w'.cell? ⟨b, o + k * 3 + 2, none⟩ = some (.int .i64 (l.getD k fr0).m) ∧ w'.cell? ⟨b', o' + k * 3, none⟩ = some (.int .i64 (l'.getD k fr0).a) ∧ w'.cell? ⟨b', o' + k * 3 + 1, none⟩ = some (.int .i64 (l'.getD k fr0).b) ∧ w'.cell? ⟨b', o' + k * 3 + 2, none⟩ = some (.int .i64 (l'.getD k fr0).m)) (first | (go_keep; done) | (go_split_ands; refine ⟨keepCell hb1 ?_, keepCell hb1 ?_, keepCell hb1 ?_, keepCell hb1 ?_, keepCell hb1 ?_, keepCell hb1 ?_⟩ <;> assumption))
          (first | (go_at_call 74; refine (eqParcel_any _ _ _ _ _ _ _).mono ?_; rintro e w1 ⟨rfl, hb1⟩))
        go_wp2
        · have e1 := Fr.getD_eq l hlt
          have e2 := Fr.getD_eq l' hlt'
          have hq : eqBFr l[k].a l[k].b l[k].m l'[k].a l'[k].b l'[k].m = false := by simpa using ‹(!eqBFr l[k].a l[k].b l[k].m l'[k].a l'[k].b l'[k].m) = true›
          go_ret
          refine ⟨⟨false, rfl, ?_⟩, hbel.drew.trans (hb1.mono hbel.drew.size)⟩
          simp only [Bool.false_eq_true, false_iff]
          rintro rfl
          rw [(eqBFr_iff l[k] l[k]).2 rfl] at hq
          cases hq
        · have e1 := Fr.getD_eq l hlt
          have e2 := Fr.getD_eq l' hlt'
          have hq : eqBFr l[k].a l[k].b l[k].m l'[k].a l'[k].b l'[k].m = true := by simpa using ‹(!eqBFr l[k].a l[k].b l[k].m l'[k].a l'[k].b l'[k].m) = false›
          have hq' := (eqBFr_iff _ _).1 hq
          refine ⟨⟨k + 1, hlt, by go_num, fun i hi => ?_, hbel.drew.trans (hb1.mono hbel.drew.size)⟩, by simp [intOf]; omega⟩
          by_cases hik : i = k
          · subst hik; rw [e1, e2]; exact hq'
          · exact Heq.out i (by omega)
      · obtain rfl : k = l.length := by omega
        go_wp2
        go_ret
        exact ⟨⟨true, rfl, by simp only [true_iff]; exact eqFrTo_all Hle.out Heq.out⟩, hbel⟩
  · have h1 : ((l.length : Int) != (l'.length : Int)) = true := by simp; omega
    have Hle := Lib.hid hle; clear hle
    have Ha := Lib.hid ha; clear ha
    have Ha' := Lib.hid ha'; clear ha'
    go_enter Try.func25, Try.ntmps25
    go_wp2
    go_ret
    exact ⟨⟨false, rfl, by simp; rintro rfl; exact Hle.out rfl⟩, Below.refl _ _⟩

set_option maxHeartbeats 400000 in
theorem szParcelS_yes (v : Value) (l : List Fr) (w : World) (hv : FrIn w v l) (hl : l.length ≤ 1048576) :
    Calls Try.prog 21 #[v, .int .i64 1048576] w fun e w' => e = .returned (.int .i64 (1048576 - (l.length : Int))) ∧ w = w' := by
  obtain ⟨a, cap, rfl, hcap, ha⟩ := hv
  clear hcap
  have Ha := Lib.hid ha; clear ha
  go_enter Try.func21, Try.ntmps21
  go_wp2
  go_ret
  exact ⟨rfl, rfl⟩

set_option maxHeartbeats 400000 in
theorem szParcelS_no (v : Value) (l : List Fr) (w : World) (hv : FrIn w v l) (hl : l.length ≤ maxLen) (hl' : ¬ l.length ≤ 1048576) :
    Calls Try.prog 21 #[v, .int .i64 1048576] w fun e w' => e = .returned (.int .i64 (-1)) ∧ w = w' := by
  obtain ⟨a, cap, rfl, hcap, ha⟩ := hv
  clear hcap
  unfold maxLen at hl
  have Ha := Lib.hid ha; clear ha
  go_enter Try.func21, Try.ntmps21
  go_wp2
  go_ret
  exact ⟨rfl, rfl⟩

end Go.Proofs.Ytmdcpigobfhckaa
