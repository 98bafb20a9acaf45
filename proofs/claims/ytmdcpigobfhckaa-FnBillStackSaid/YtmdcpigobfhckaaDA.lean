/- Draws: the reader, and what it picks. -/
import Derived.Test.YtmdcpigobfhckaaDO
import Derived.Test.YtmdcpigobfhckaaTC
import Derived.WalkKit
import Derived.WalkSpells
import Derived.WalkLawsBesides
import Derived.Lib.Hide
import Derived.IntWalk
import Derived.Deep.QuietTactic
import Derived.BigQuiet
import Derived.Laws.BitsAllLaws
import Derived.Laws.BitsLemmas
import Derived.Laws.AppendOwn
import Derived.Outline
namespace Go.Proofs.Ytmdcpigobfhckaa
open Go.RowKit

/-- The reader at block g: it has picked p times out of the bytes l. -/
def Reader (w : World) (g : Nat) (l : List Int) (p : Nat) : Prop :=
  ∃ v, Whole w g 119 #[v, .int .i64 (p : Int)] ∧ BytesIn w v l ∧ l.length ≤ 2000 ∧ ∀ a cap, v = .slice (some a) l.length cap → l ≠ [] → a.block < g

set_option maxHeartbeats 400000 in
theorem l6Open_any (v : Value) (l : List Int) (w : World) (hv : BytesIn w v l) (hm : l.length ≤ 1048576) :
    Calls Try.prog 95 #[v] w fun e w' => e = .returned (.pointer (some ⟨w.heap.size, 0, none⟩)) ∧ (∃ l', Reader w' w.heap.size l' 0) ∧ Below w.heap.size w w' ∧ w'.heap.size = w.heap.size + 1 := by
  obtain ⟨a, cap, rfl, hc, hx, ha⟩ := hv
  have Ha := Lib.hid ha; clear ha
  have Hx := Lib.hid hx; clear hx
  by_cases h2 : l.length ≤ 2000
  · go_enter Try.func95, Try.ntmps95
    go_wp2
    go_ret
    have hb : Below w.heap.size w (w.alloc (.cells #[.slice a l.length cap, .int .i64 0] 119)) := (Below.refl _ _).alloc (Nat.le_refl _) _
    refine ⟨rfl, ⟨l, _, Whole.made _ _ _, BytesIn.below ⟨a, cap, rfl, hc, Hx.out, Ha.out⟩ hb, h2, fun ad c he hne => ?_⟩, hb, by simp⟩
    obtain ⟨b, o, rfl, hlt, _⟩ := Ha.out hne
    cases he
    exact hlt
  · have hll : (l.take 2000).length = 2000 := by simp; omega
    go_enter Try.func95, Try.ntmps95
    go_wp2
    go_ret
    have hb : Below w.heap.size w (w.alloc (.cells #[.slice a 2000 cap, .int .i64 0] 119)) := (Below.refl _ _).alloc (Nat.le_refl _) _
    refine ⟨rfl, ⟨l.take 2000, _, Whole.made _ _ _, BytesIn.below ⟨a, cap, by rw [hll], by rw [hll]; omega, fun x hx => Hx.out x (List.mem_of_mem_take hx), fun hne => ?_⟩ hb, by rw [hll]; omega, fun ad c he hne => ?_⟩, hb, by simp⟩
    · obtain ⟨b, o, rfl, hlt, hr⟩ := Ha.out (by rintro rfl; simp at h2)
      refine ⟨b, o, rfl, hlt, fun i hi => ?_⟩
      rw [hll] at hi
      rw [hr i (by omega)]
      simp [List.getD, hi]
    · obtain ⟨b, o, rfl, hlt, _⟩ := Ha.out (by rintro rfl; simp at h2)
      injection he with h1 _ _
      injection h1 with h1
      subst h1
      exact hlt

theorem getI' (l : List Int) {i : Nat} (h : i < l.length) : l.getD i 0 = l[i] := by simp [List.getD, h]

theorem ofInt_nat (a : Nat) (ha : a < 9223372036854775808) : (BitVec.ofInt 64 (a : Int)).toNat = a := by
  rw [BitVec.ofInt_natCast, BitVec.toNat_ofNat]; exact Nat.mod_eq_of_lt (by omega)

theorem xor_ok (x : Int) (h0 : 0 ≤ x) (h1 : x ≤ 100000000) : ∃ u : Int, bits .xor .i64 x (x / 64) = u ∧ 0 ≤ u := by
  obtain ⟨m, rfl⟩ : ∃ m : Nat, x = m := ⟨x.toNat, by omega⟩
  refine ⟨_, rfl, ?_⟩
  have e : (m : Int) / 64 = ((m / 64 : Nat) : Int) := by omega
  rw [e]
  show 0 ≤ IntKind.i64.wrap ((BitVec.ofInt 64 ((m : Nat) : Int) ^^^ BitVec.ofInt 64 ((m / 64 : Nat) : Int)).toNat : Int)
  rw [BitVec.toNat_xor, ofInt_nat m (by omega), ofInt_nat (m / 64) (by omega)]
  have hx : m ^^^ (m / 64) < 2 ^ 63 := Nat.xor_lt_two_pow (by omega) (by omega)
  rw [IntKind.wrap_i64]
  omega

theorem Reader.belowB {w w' : World} {g B : Nat} {l : List Int} {p : Nat} (h : Reader w g l p) (hb : Below B w w') (hg : g < B) : Reader w' g l p := by
  obtain ⟨v, hw, ⟨a, cap, rfl, hcap, hx, ha⟩, h2, hne⟩ := h
  refine ⟨_, hw.below hb hg, ⟨a, cap, rfl, hcap, hx, fun hl => ?_⟩, h2, hne⟩
  obtain ⟨b, o, rfl, hlt, hr⟩ := ha hl
  have hbg : b < g := hne _ cap rfl hl
  exact ⟨b, o, rfl, Nat.lt_of_lt_of_le hlt hb.size, fun i hi => by rw [hb.cell (p := ⟨b, o + i, none⟩) (Nat.lt_trans hbg hg)]; exact hr i hi⟩

theorem Reader.lt {w : World} {g : Nat} {l : List Int} {p : Nat} (h : Reader w g l p) : g < w.heap.size := by
  obtain ⟨v, hw, _⟩ := h
  exact hw.lt

theorem Reader.drewN {w : World} {g : Nat} {l : List Int} {p : Nat} (h : Reader w g l p) (n : Nat) : Reader (w.drewN n) g l p := h

/-- What a pick leaves. -/
def PickOut (g : Nat) (l : List Int) (p : Nat) (n : Int) (w : World) (e : Ending) (w' : World) : Prop :=
  (∃ x : Int, e = .returned (.int .i64 x) ∧ 0 ≤ x ∧ x < max n 1) ∧ Reader w' g l (p + 1) ∧ w.grownBy w' (some g)

theorem grown_drewR {a w : World} {row : Option Nat} (h : a.grownBy w row) (n : Nat) : a.grownBy (w.drewN n) row := ⟨h.os, h.tape, h.output, h.size, h.block⟩
theorem grown_cell {w : World} {g : Nat} (o : Nat) (v : Value) : w.grownBy (w.setCell ⟨g, o, none⟩ v) (some g) :=
  ⟨rfl, rfl, rfl, by simp [World.setCell], fun i _ hne => Below.heap_setCell _ _ _ _ (fun e => hne (by rw [e]))⟩

theorem Reader.picked {w w' : World} {g : Nat} {l : List Int} {p : Nat} (h : Reader w g l p) (hg : w.grownBy w' (some g)) (hc : ∀ v, Whole w g 119 #[v, .int .i64 (p : Int)] → Whole w' g 119 #[v, .int .i64 ((p + 1 : Nat) : Int)]) : Reader w' g l (p + 1) := by
  obtain ⟨v, hw, ⟨a, cap, rfl, hcap, hx, ha⟩, h2, hne⟩ := h
  refine ⟨_, hc _ hw, ⟨a, cap, rfl, hcap, hx, fun hl => ?_⟩, h2, hne⟩
  obtain ⟨b, o, rfl, hlt, hr⟩ := ha hl
  have hbg : b ≠ g := Nat.ne_of_lt (hne _ cap rfl hl)
  refine ⟨b, o, rfl, Nat.lt_of_lt_of_le hlt hg.size, fun i hi => ?_⟩
  rw [World.cell?_of_block (a := ⟨b, o + i, none⟩) (hg.block b hlt (fun e => hbg (by injection e)))]
  exact hr i hi

set_option maxRecDepth 100000 in
set_option maxHeartbeats 1000000 in
theorem pick_any (g : Nat) (l : List Int) (p : Nat) (n : Int) (w : World) (h : Reader w g l p) (hp : p ≤ 1000000) (hn : n ≤ 1000000) :
    Calls Try.prog 96 #[.pointer (some ⟨g, 0, none⟩), .int .i64 n] w (PickOut g l p n w) := by
  have H := Lib.hid h
  obtain ⟨v, hw, ⟨a, cap, rfl, hcap, hx, ha⟩, h2, hne⟩ := h
  have Ha := Lib.hid ha; clear ha
  have Hx := Lib.hid hx; clear hx
  have Hne := Lib.hid hne; clear hne
  have c0 := hw.cell (i := 0) rfl
  have c1 := hw.cell (i := 1) rfl
  have f1 := hw.free 1
  have hp0 : (0 : Int) ≤ (p : Int) := Int.natCast_nonneg _
  have hW : ∀ v', Whole w g 119 #[v', .int .i64 (p : Int)] → Whole (w.setCell ⟨g, 1, none⟩ (.int .i64 ((p : Int) + 1))) g 119 #[v', .int .i64 ((p + 1 : Nat) : Int)] := fun v' hv' => hv'.set 1 _
  have HW := Lib.hid hW; clear hW hw
  have hG : w.grownBy (w.setCell ⟨g, 1, none⟩ (.int .i64 ((p : Int) + 1))) (some g) := grown_cell 1 _
  have HG := Lib.hid hG; clear hG
  have hR := H.out.picked HG.out HW.out
  have HR := Lib.hid hR; clear hR
  by_cases hn1 : n < 1
  · go_enter Try.func96, Try.ntmps96
    go_wp2
    go_ret
    exact ⟨⟨0, rfl, by omega, by omega⟩, HR.out, HG.out⟩
  · by_cases hl : l.length = 0
    · have hl' : ((l.length : Int) == 0) = true := by rw [hl]; rfl
      have Hl := Lib.hid hl; clear hl
      go_enter Try.func96, Try.ntmps96
      go_wp2
      go_ret
      exact ⟨⟨0, rfl, by omega, by omega⟩, HR.out, HG.out⟩
    · have hl' : ((l.length : Int) == 0) = false := by simp; rintro rfl; exact hl rfl
      obtain ⟨b, o, rfl, hlt, hr⟩ := Ha.out (by rintro rfl; exact hl rfl)
      have hbg : b ≠ g := Nat.ne_of_lt (Hne.out _ cap rfl (by rintro rfl; exact hl rfl))
      have hcells : ∀ i, i < l.length → (w.setCell ⟨g, 1, none⟩ (.int .i64 ((p : Int) + 1))).cell? ⟨b, o + i, none⟩ = some (.int .u8 (l.getD i 0)) := fun i hi => by
        rw [World.cell?_setCell_other _ _ _ _ (by intro e; injection e with e; exact hbg e.symm)]; exact hr i hi
      have hbytes : ∀ i, i < l.length → 0 ≤ l.getD i 0 ∧ l.getD i 0 ≤ 255 := fun i hi => by rw [getI' l hi]; exact Hx.out _ (List.getElem_mem hi)
      have hlp : (0 : Int) < (l.length : Int) := by omega
      have Hl := Lib.hid hl; clear hl hr
      by_cases hk : p < l.length
      · have d0 := hcells p hk
        obtain ⟨y0, y1⟩ := hbytes p hk
        generalize l.getD p 0 = y at *
        have hk' : (p : Int) < (l.length : Int) := by omega
        clear hcells hbytes
        have hn0 : 0 < n := by omega
        have hm0 := Int.emod_nonneg y (show n ≠ 0 by omega)
        have hm1 := Int.emod_lt_of_pos y hn0
        go_enter Try.func96, Try.ntmps96
        go_wp2
        go_ret
        exact ⟨⟨y % n, rfl, hm0, by omega⟩, HR.out, HG.out⟩
      · obtain ⟨r1, e1, r10, r11, y, d1, y0, y1⟩ : ∃ r1 : Int, (p : Int) % (l.length : Int) = r1 ∧ 0 ≤ r1 ∧ r1 < (l.length : Int) ∧ ∃ y : Int, (w.setCell ⟨g, 1, none⟩ (.int .i64 ((p : Int) + 1))).cell? ⟨b, o + r1.toNat, none⟩ = some (.int .u8 y) ∧ 0 ≤ y ∧ y ≤ 255 := by
          have h0 := Int.emod_nonneg (p : Int) (show (l.length : Int) ≠ 0 by omega)
          have h1 := Int.emod_lt_of_pos (p : Int) hlp
          have hi := hbytes ((p : Int) % (l.length : Int)).toNat (by omega)
          exact ⟨_, rfl, h0, h1, _, hcells _ (by omega), hi.1, hi.2⟩
        obtain ⟨r2, e2, r20, r21, z, d2, z0, z1⟩ : ∃ r1 : Int, ((p : Int) * 7 + 3) % (l.length : Int) = r1 ∧ 0 ≤ r1 ∧ r1 < (l.length : Int) ∧ ∃ y : Int, (w.setCell ⟨g, 1, none⟩ (.int .i64 ((p : Int) + 1))).cell? ⟨b, o + r1.toNat, none⟩ = some (.int .u8 y) ∧ 0 ≤ y ∧ y ≤ 255 := by
          have h0 := Int.emod_nonneg ((p : Int) * 7 + 3) (show (l.length : Int) ≠ 0 by omega)
          have h1 := Int.emod_lt_of_pos ((p : Int) * 7 + 3) hlp
          have hi := hbytes (((p : Int) * 7 + 3) % (l.length : Int)).toNat (by omega)
          exact ⟨_, rfl, h0, h1, _, hcells _ (by omega), hi.1, hi.2⟩
        have hk' : ¬ (p : Int) < (l.length : Int) := by omega
        have q0 : 0 ≤ (p : Int) / (l.length : Int) := Int.ediv_nonneg hp0 (by omega)
        have q1 : (p : Int) / (l.length : Int) ≤ (p : Int) := Int.ediv_le_self _ hp0
        clear hcells hbytes
        have hE : 0 ≤ y * 131 + z * 1117 + (p : Int) * 29 + (p : Int) / (l.length : Int) * 53 ∧ y * 131 + z * 1117 + (p : Int) * 29 + (p : Int) / (l.length : Int) * 53 ≤ 100000000 := by omega
        have HE := Lib.hid hE; clear hE
        have hn0 : 0 < n := by omega
        go_enter Try.func96, Try.ntmps96
        go_wp2
        go_quiet (fail)
        generalize y * 131 + z * 1117 + (p : Int) * 29 + (p : Int) / (l.length : Int) * 53 = x at *
        obtain ⟨x0, x1⟩ := HE.out
        obtain ⟨u, hu, u0⟩ := xor_ok x x0 x1
        have hm0 := Int.emod_nonneg u (show n ≠ 0 by omega)
        have hm1 := Int.emod_lt_of_pos u hn0
        clear e1 e2 r10 r11 r20 r21 d1 d2 y0 y1 z0 z1 q0 q1
        go_wp2
        go_ret
        exact ⟨⟨u % n, rfl, hm0, by omega⟩, HR.out.drewN _, grown_drewR HG.out _⟩

end Go.Proofs.Ytmdcpigobfhckaa
