/- Slices of ints: memory; the laws' helpers toIntS, eqIntS, markIntS, heldIntS. -/
import Derived.Test.YtmdcpigobfhckaaRows
import Derived.Test.YtmdcpigobfhckaaM
import Derived.WalkKit
import Derived.WalkSpells
import Derived.WalkLawsBesides
import Derived.Lib.Hide
import Derived.IntWalk
import Derived.Deep.QuietTactic
import Derived.BigQuiet
import Derived.Laws.MakeOwn
namespace Go.Proofs.Ytmdcpigobfhckaa
open Go.RowKit

/-- The numbers l lie in w from ⟨b, o⟩ on. -/
def IntAt (w : World) (b o : Nat) (l : List Int) : Prop := ∀ i, i < l.length → w.cell? ⟨b, o + i, none⟩ = some (.int .i64 (l.getD i 0))

theorem IntAt.below {w w' : World} {b o : Nat} {l : List Int} (h : IntAt w b o l) {B : Nat} (hb : Below B w w') (hlt : b < B) : IntAt w' b o l := fun i hi => by
  rw [hb.cell (p := ⟨b, o + i, none⟩) hlt]; exact h i hi

/-- The slice value v reads in w as the numbers l. -/
def IntsIn (w : World) (v : Value) (l : List Int) : Prop :=
  ∃ (a : Option Addr) (cap : Nat), v = .slice a l.length cap ∧ l.length ≤ cap ∧ (l ≠ [] → ∃ b o, a = some ⟨b, o, none⟩ ∧ b < w.heap.size ∧ IntAt w b o l)

theorem IntsIn.below {w w' : World} {v : Value} {l : List Int} (h : IntsIn w v l) (hb : Below w.heap.size w w') : IntsIn w' v l := by
  obtain ⟨a, cap, rfl, hc, ha⟩ := h
  refine ⟨a, cap, rfl, hc, fun hl => ?_⟩
  obtain ⟨b, o, rfl, hlt, hr⟩ := ha hl
  exact ⟨b, o, rfl, Nat.lt_of_lt_of_le hlt hb.size, hr.below hb hlt⟩

theorem IntsIn.row {w : World} {b cap : Nat} {l : List Int} (hb : b < w.heap.size) (hc : l.length ≤ cap) (h : IntAt w b 0 l) : IntsIn w (.slice (some ⟨b, 0, none⟩) l.length cap) l :=
  ⟨_, _, rfl, hc, fun _ => ⟨b, 0, rfl, hb, h⟩⟩

def IntWf (l : List Int) : Prop := ∀ x ∈ l, W64 x

theorem getI (l : List Int) {i : Nat} (h : i < l.length) : l.getD i 0 = l[i] := by simp [List.getD, h]

/-- One more number is stored behind those that lie there. -/
theorem IntAt.push {w : World} {b n : Nat} {l : List Int} {k : Nat} (hk : k < l.length) (hn : l.length ≤ n) (h : IntAt w b 0 (l.take k)) (hr : Room w b n) {x : Int} (hx : x = l.getD k 0) :
    IntAt (w.setCell ⟨b, k, none⟩ (.int .i64 x)) b 0 (l.take (k + 1)) := by
  subst hx
  intro i hi
  simp only [List.length_take] at hi
  by_cases hik : i = k
  · subst hik
    have e : (l.take (i + 1)).getD i 0 = l.getD i 0 := by simp [List.getD]
    rw [e]
    simp only [Nat.zero_add]
    obtain ⟨u, hu⟩ := hr.1 i (by omega)
    exact World.cell?_setCell_same _ _ _ hu
  · have e : (l.take (k + 1)).getD i 0 = (l.take k).getD i 0 := by simp [List.getD, show i < k by omega, show i < k + 1 by omega]
    rw [e]
    have h0 := h i (by simp; omega)
    simp only [Nat.zero_add] at h0 ⊢
    rw [World.cell?_setCell_other _ _ _ _ (by intro e; injection e; omega)]
    exact h0

theorem Try.info3 : (Try.prog.info? 3).map (fun i => (i.zero, i.size, i.bytes)) = some (some (.int .i64 0), 1, 8) := by kernel_rfl

/-- A new row of its own, which reads as l. -/
def NewInts (l : List Int) (w : World) (e : Ending) (w' : World) : Prop :=
  ∃ b, e = .returned (.slice (some ⟨b, 0, none⟩) l.length l.length) ∧ w.heap.size ≤ b ∧ b < w'.heap.size ∧ IntAt w' b 0 l ∧ Room w' b l.length ∧ Below w.heap.size w w'

def ToIRel (l : List Int) (w : World) (i : Value) (wr : World) : Prop :=
  ∃ k : Nat, k ≤ l.length ∧ i = .int .i64 k ∧ IntAt wr w.heap.size 0 (l.take k) ∧ Room wr w.heap.size l.length ∧ Below w.heap.size w wr ∧ w.heap.size < wr.heap.size


def eqITo (l l' : List Int) (k : Nat) : Prop := ∀ i, i < k → l.getD i 0 = l'.getD i 0

theorem eqITo_all {l l' : List Int} (h : l.length = l'.length) (he : eqITo l l' l.length) : l = l' := by
  refine List.ext_getElem h fun i h1 h2 => ?_
  have := he i h1
  rwa [getI l h1, getI l' h2] at this

/-- A bool that says whether the two are one. -/
def EqIOut (p : Prop) (w : World) (e : Ending) (w' : World) : Prop := (∃ x : Bool, e = .returned (.bool x) ∧ (x = true ↔ p)) ∧ Below w.heap.size w w'

def EqIRel (l l' : List Int) (w : World) (i : Value) (wr : World) : Prop := ∃ k : Nat, k ≤ l.length ∧ i = .int .i64 k ∧ eqITo l l' k ∧ Below w.heap.size w wr

set_option maxHeartbeats 400000 in
theorem eqIntS_any (v v' : Value) (l l' : List Int) (w : World) (hv : IntsIn w v l) (hv' : IntsIn w v' l') (hl : l.length ≤ 1048576) :
    Calls Try.prog 28 #[v, v'] w (EqIOut (l = l') w) := by
  obtain ⟨a, cap, rfl, hcap, ha⟩ := hv
  clear hcap
  obtain ⟨a', cap', rfl, hcap', ha'⟩ := hv'
  clear hcap'
  by_cases hle : l.length = l'.length
  · have Ha := Lib.hid ha; clear ha
    have Ha' := Lib.hid ha'; clear ha'
    have h1 : ((l.length : Int) != (l'.length : Int)) = false := by simp [hle]
    have Hle := Lib.hid hle; clear hle
    go_enter Try.func28, Try.ntmps28
    go_wp2
    clear h1
    go_loopw [5] (fun i wr => EqIRel l l' w i wr) (fun i _ => l.length - (intOf i).toNat)
    case atStart => exact ⟨0, Nat.zero_le _, rfl, fun i hi => by omega, Below.refl _ _⟩
    case round =>
      obtain ⟨k, hk, rfl, heq, hbel⟩ := hrel
      have Heq := Lib.hid heq; clear heq
      by_cases hlt : k < l.length
      · have hlt' : k < l'.length := Hle.out ▸ hlt
        obtain ⟨b, o, rfl, hb, hrw⟩ := Ha.out (by intro h; simp [h] at hlt)
        obtain ⟨b', o', rfl, hb', hrw'⟩ := Ha'.out (by intro h; simp [h] at hlt')
        have c0 := (hrw.below hbel hb) k hlt
        have c0' := (hrw'.below hbel hb') k hlt'
        have Hrw := Lib.hid hrw; clear hrw
        have Hrw' := Lib.hid hrw'; clear hrw'
        have hk0 : (0 : Int) ≤ (k : Int) := Int.natCast_nonneg _
        have hk1 : (k : Int) < (l.length : Int) := by omega
        have hk1' : (k : Int) < (l'.length : Int) := by omega
        generalize hx : l.getD k 0 = x at *
        generalize hy : l'.getD k 0 = y at *
        have Hx := Lib.hid hx; clear hx
        have Hy := Lib.hid hy; clear hy
        by_cases hq : (x != y) = true
        · go_wp2
          go_quiet (fail)
          go_wp2
          go_ret
          refine ⟨⟨false, rfl, ?_⟩, hbel.drewN _⟩
          simp only [Bool.false_eq_true, false_iff]
          rintro rfl
          rw [← Hx.out, ← Hy.out] at hq
          simp at hq
        · have hq' : (x != y) = false := by simpa using hq
          clear hq
          go_wp2
          go_quiet (fail)
          go_wp2
          refine ⟨⟨k + 1, hlt, by go_num, fun i hi => ?_, hbel.drewN _⟩, by simp [intOf]; omega⟩
          by_cases hik : i = k
          · subst hik; rw [Hx.out, Hy.out]; simpa using hq'
          · exact Heq.out i (by omega)
      · obtain rfl : k = l.length := by omega
        go_wp2
        go_ret
        exact ⟨⟨true, rfl, by simp only [true_iff]; exact eqITo_all Hle.out Heq.out⟩, hbel⟩
  · have h1 : ((l.length : Int) != (l'.length : Int)) = true := by simp; omega
    have Hle := Lib.hid hle; clear hle
    have Ha := Lib.hid ha; clear ha
    have Ha' := Lib.hid ha'; clear ha'
    go_enter Try.func28, Try.ntmps28
    go_wp2
    go_ret
    exact ⟨⟨false, rfl, by simp; rintro rfl; exact Hle.out rfl⟩, Below.refl _ _⟩

end Go.Proofs.Ytmdcpigobfhckaa

