/- The walks of the laws' own helpers: toPart, toPartS, eqPart, eqPartS, szPartS. -/
import Derived.Test.YtcllgpfnojncoaaRows
import Derived.Test.YtcllgpfnojncoaaPA
import Derived.WalkKit
import Derived.WalkSpells
import Derived.WalkLawsBesides
import Derived.Lib.Hide
import Derived.IntWalk
import Derived.Deep.QuietTactic
import Derived.BigQuiet
import Derived.Deep.RegionHeld3
import Derived.Laws.MakeOwn
namespace Go.Proofs.Ytcllgpfnojncoaa
open Go.RowKit

set_option maxHeartbeats 400000 in
theorem toPart_any (a : Int) (b : Int) (w : World) :
    Calls Try.prog 53 #[.agg #[.int .i64 a, .int .i64 b]] w fun e w' => e = .returned (.agg #[.int .i64 a, .int .i64 b]) ∧ Below w.heap.size w w' := by
  go_enter Try.func53, Try.ntmps53
  go_wp2
  exact bodyPost_ret (v := .agg #[.int .i64 a, .int .i64 b]) (by simp [results, Try.results53, go_sem]) rfl ⟨rfl, (((Below.refl _ _).alloc (Nat.le_refl _) _).alloc (by simp) _).alloc (by simp; omega) _⟩

def eqBPt (a : Int) (b : Int) (a' : Int) (b' : Int) : Bool := (a == a') && (b == b')

set_option maxHeartbeats 400000 in
theorem eqPart_any (a : Int) (b : Int) (a' : Int) (b' : Int) (w : World) :
    Calls Try.prog 55 #[.agg #[.int .i64 a, .int .i64 b], .agg #[.int .i64 a', .int .i64 b']] w fun e w' => e = .returned (.bool (eqBPt a b a' b')) ∧ Below w.heap.size w w' := by
  go_enter Try.func55, Try.ntmps55
  go_wp2
  all_goals
    go_ret
    exact ⟨by simp_all [eqBPt], ((Below.refl _ _).alloc (Nat.le_refl _) _).alloc (by simp) _⟩

/-- The loop of toPartS. -/
def ToPtRel (l : List Pt) (w : World) (i : Value) (wr : World) : Prop :=
  ∃ k : Nat, k ≤ l.length ∧ i = .int .i64 k ∧ PtAt wr w.heap.size 0 (l.take k) ∧ Room wr w.heap.size (l.length * 2) ∧ Below w.heap.size w wr ∧ w.heap.size < wr.heap.size

set_option maxHeartbeats 400000 in
theorem toPartS_any (v : Value) (l : List Pt) (w : World) (hv : PtIn w v l) (hl : l.length ≤ 1048576) :
    Calls Try.prog 18 #[v] w (NewPt l w) := by
  obtain ⟨a, cap, rfl, hcap, ha⟩ := hv
  clear hcap
  obtain ⟨i0, hi, hz0, hz1, hz2⟩ := info_parts infoPt
  have hmk := fun W => run_make_rowN (P := Try.prog) 25 57 i0 _ Try.underlying25 hi hz0 .i64 .i64 l.length l.length (Nat.le_refl _) (by rw [hz2]; omega) (by omega) W
  rw [hz1] at hmk
  go_enter Try.func18, Try.ntmps18
  go_wp2
  go_loopw [4] (fun i wr => ToPtRel l w i wr) (fun i _ => l.length - (intOf i).toNat)
  case atStart =>
    refine ⟨0, Nat.zero_le _, rfl, ?_, Room.made _ _ _ _ (by simp), (Below.refl _ _).alloc (Nat.le_refl _) _, by simp⟩
    intro i hi; simp at hi
  case round =>
    obtain ⟨k, hk, rfl, hrow, ⟨hroom, hfz⟩, hbel, hsz⟩ := hrel
    by_cases hlt : k < l.length
    · obtain ⟨b, o, rfl, hb, hrw⟩ := ha (by intro h; simp [h] at hlt)
      obtain ⟨c0, c1⟩ := hrw k hlt
      have d0 : wr.cell? ⟨b, o + k * 2, none⟩ = some (.int .i64 (l.getD k pt0).a) := by rw [hbel.cell (p := ⟨b, o + k * 2, none⟩) hb]; exact c0
      have d1 : wr.cell? ⟨b, o + k * 2 + 1, none⟩ = some (.int .i64 (l.getD k pt0).b) := by rw [hbel.cell (p := ⟨b, o + k * 2 + 1, none⟩) hb]; exact c1
      have Hrow := Lib.hid hrow; clear hrow
      have Hroom := Lib.hid (And.intro hroom hfz)
      have Ha := Lib.hid ha; clear ha
      have Hrw := Lib.hid hrw; clear hrw c0 c1
      have hr0 := hroom (k * 2) (by omega)
      have hr1 := hroom (k * 2 + 1) (by omega)
      clear hroom
      go_wp2_with (go_at_call 53; refine (toPart_any _ _ _).mono ?_; rintro e w1 ⟨rfl, hb1⟩; obtain ⟨hc1, hf1⟩ := bcell hb1; obtain ⟨u0, e0⟩ := hr0; obtain ⟨u1, e1⟩ := hr1)
      have hx := Pt.getD_eq l hlt
      refine ⟨⟨k + 1, hlt, by go_num, PtAt.push hlt (Nat.le_refl _) (Hrow.out.below hb1 hsz) (Room.below Hroom.out hb1 hsz) (by rw [hx]) (by rw [hx]), (((Room.below Hroom.out hb1 hsz).setCell _ _).setCell _ _), (((hbel.trans (hb1.mono (Nat.le_of_lt hsz))).setCell (Nat.le_refl _) _).setCell (Nat.le_refl _) _), ?_⟩, by simp [intOf]; omega⟩
      simp only [World.size_setCell]
      exact Nat.lt_of_lt_of_le hsz hb1.size
    · obtain rfl : k = l.length := by omega
      have Hrow := Lib.hid hrow; clear hrow
      have Hroom := Lib.hid (And.intro hroom hfz); clear hroom hfz
      have Ha := Lib.hid ha; clear ha
      go_wp2
      go_ret
      refine ⟨_, rfl, Nat.le_refl _, hsz, ?_, Hroom.out, hbel⟩
      have := Hrow.out
      rwa [List.take_length] at this

theorem eqBPt_iff (r s : Pt) : eqBPt r.a r.b s.a s.b = true ↔ r = s := by
  cases r; cases s; simp [eqBPt, and_assoc]

/-- The first k pairs are equal. -/
def eqPtTo (l l' : List Pt) (k : Nat) : Prop := ∀ i, i < k → l.getD i pt0 = l'.getD i pt0

theorem eqPtTo_all {l l' : List Pt} (h : l.length = l'.length) (he : eqPtTo l l' l.length) : l = l' := by
  refine List.ext_getElem h fun i h1 h2 => ?_
  have := he i h1
  rwa [Pt.getD_eq l h1, Pt.getD_eq l' h2] at this

def EqPtRel (l l' : List Pt) (w : World) (i : Value) (wr : World) : Prop := ∃ k : Nat, k ≤ l.length ∧ i = .int .i64 k ∧ eqPtTo l l' k ∧ Below w.heap.size w wr

set_option maxHeartbeats 400000 in
theorem eqPartS_any (v v' : Value) (l l' : List Pt) (w : World) (hv : PtIn w v l) (hv' : PtIn w v' l') (hl : l.length ≤ 1048576) :
    Calls Try.prog 20 #[v, v'] w (EqPOut (l = l') w) := by
  obtain ⟨a, cap, rfl, hcap, ha⟩ := hv
  obtain ⟨a', cap', rfl, hcap', ha'⟩ := hv'
  clear hcap hcap'
  by_cases hle : l.length = l'.length
  · have Ha := Lib.hid ha; clear ha
    have Ha' := Lib.hid ha'; clear ha'
    have h1 : ((l.length : Int) != (l'.length : Int)) = false := by simp [hle]
    have Hle := Lib.hid hle; clear hle
    go_enter Try.func20, Try.ntmps20
    go_wp2
    clear h1
    go_loopw [5] (fun i wr => EqPtRel l l' w i wr) (fun i _ => l.length - (intOf i).toNat)
    case atStart => exact ⟨0, Nat.zero_le _, rfl, fun i hi => by omega, Below.refl _ _⟩
    case round =>
      obtain ⟨k, hk, rfl, heq, hbel⟩ := hrel
      have Heq := Lib.hid heq; clear heq
      by_cases hlt : k < l.length
      · have hlt' : k < l'.length := Hle.out ▸ hlt
        obtain ⟨b, o, rfl, hb, hrw⟩ := Ha.out (by intro h; simp [h] at hlt)
        obtain ⟨b', o', rfl, hb', hrw'⟩ := Ha'.out (by intro h; simp [h] at hlt')
        obtain ⟨c0, c1⟩ := (hrw.below hbel hb) k hlt
        obtain ⟨c0', c1'⟩ := (hrw'.below hbel hb') k hlt'
        have Hrw := Lib.hid hrw; clear hrw
        have Hrw' := Lib.hid hrw'; clear hrw'
        have hk0 : (0 : Int) ≤ (k : Int) := Int.natCast_nonneg _
        have hk1 : (k : Int) < (l.length : Int) := by omega
        have hk1' : (k : Int) < (l'.length : Int) := by omega
        have hbr : b < wr.heap.size := Nat.lt_of_lt_of_le hb hbel.size
        have hbr' : b' < wr.heap.size := Nat.lt_of_lt_of_le hb' hbel.size
        go_wp2_with fail
        go_region_held3 (fun w' => w'.cell? ⟨b, o + k * 2, none⟩ = some (.int .i64 (l.getD k pt0).a) ∧ w'.cell? ⟨b, o + k * 2 + 1, none⟩ = some (.int .i64 (l.getD k pt0).b) ∧ w'.cell? ⟨b', o' + k * 2, none⟩ = some (.int .i64 (l'.getD k pt0).a) ∧ w'.cell? ⟨b', o' + k * 2 + 1, none⟩ = some (.int .i64 (l'.getD k pt0).b)) (first | (go_keep; done) | (go_split_ands; refine ⟨keepCell hb1 ?_, keepCell hb1 ?_, keepCell hb1 ?_, keepCell hb1 ?_⟩ <;> assumption))
          (first | (go_at_call 55; refine (eqPart_any _ _ _ _ _).mono ?_; rintro e w1 ⟨rfl, hb1⟩))
        go_wp2
        · have e1 := Pt.getD_eq l hlt
          have e2 := Pt.getD_eq l' hlt'
          have hq : eqBPt l[k].a l[k].b l'[k].a l'[k].b = false := by simpa using ‹(!eqBPt l[k].a l[k].b l'[k].a l'[k].b) = true›
          go_ret
          refine ⟨⟨false, rfl, ?_⟩, hbel.drew.trans (hb1.mono hbel.drew.size)⟩
          simp only [Bool.false_eq_true, false_iff]
          rintro rfl
          rw [(eqBPt_iff l[k] l[k]).2 rfl] at hq
          cases hq
        · have e1 := Pt.getD_eq l hlt
          have e2 := Pt.getD_eq l' hlt'
          have hq : eqBPt l[k].a l[k].b l'[k].a l'[k].b = true := by simpa using ‹(!eqBPt l[k].a l[k].b l'[k].a l'[k].b) = false›
          have hq' := (eqBPt_iff _ _).1 hq
          refine ⟨⟨k + 1, hlt, by go_num, fun i hi => ?_, hbel.drew.trans (hb1.mono hbel.drew.size)⟩, by simp [intOf]; omega⟩
          by_cases hik : i = k
          · subst hik; rw [e1, e2]; exact hq'
          · exact Heq.out i (by omega)
      · obtain rfl : k = l.length := by omega
        go_wp2
        go_ret
        exact ⟨⟨true, rfl, by simp only [true_iff]; exact eqPtTo_all Hle.out Heq.out⟩, hbel⟩
  · have h1 : ((l.length : Int) != (l'.length : Int)) = true := by simp; omega
    have Hle := Lib.hid hle; clear hle
    have Ha := Lib.hid ha; clear ha
    have Ha' := Lib.hid ha'; clear ha'
    go_enter Try.func20, Try.ntmps20
    go_wp2
    go_ret
    exact ⟨⟨false, rfl, by simp; rintro rfl; exact Hle.out rfl⟩, Below.refl _ _⟩

set_option maxHeartbeats 400000 in
theorem szPartS_yes (v : Value) (l : List Pt) (w : World) (hv : PtIn w v l) (hl : l.length ≤ 1048576) :
    Calls Try.prog 16 #[v, .int .i64 1048576] w fun e w' => e = .returned (.int .i64 (1048576 - (l.length : Int))) ∧ w = w' := by
  obtain ⟨a, cap, rfl, hcap, ha⟩ := hv
  clear hcap
  have Ha := Lib.hid ha; clear ha
  go_enter Try.func16, Try.ntmps16
  go_wp2
  go_ret
  exact ⟨rfl, rfl⟩

set_option maxHeartbeats 400000 in
theorem szPartS_no (v : Value) (l : List Pt) (w : World) (hv : PtIn w v l) (hl : l.length ≤ maxLen) (hl' : ¬ l.length ≤ 1048576) :
    Calls Try.prog 16 #[v, .int .i64 1048576] w fun e w' => e = .returned (.int .i64 (-1)) ∧ w = w' := by
  obtain ⟨a, cap, rfl, hcap, ha⟩ := hv
  clear hcap
  unfold maxLen at hl
  have Ha := Lib.hid ha; clear ha
  go_enter Try.func16, Try.ntmps16
  go_wp2
  go_ret
  exact ⟨rfl, rfl⟩

end Go.Proofs.Ytcllgpfnojncoaa
