/- BillTurn of the model and of the program. -/
import Derived.Test.YtmdcpigobfhckaaFEB
import Derived.Test.YtmdcpigobfhckaaFM
import Derived.Test.YtmdcpigobfhckaaFW
namespace Go.Proofs.Ytmdcpigobfhckaa
open Go.RowKit

def turnX (n : Int) (l : List Fr) : List Fr := if validF n l = true then trnF n l else []
theorem turnX_no {n : Int} {l : List Fr} (h : validF n l = false) : turnX n l = [] := by simp [turnX, h]
theorem turnX_yes {n : Int} {l : List Fr} (h : validF n l = true) : turnX n l = trnF n l := by simp [turnX, h]
theorem turnX_short (n : Int) (l : List Fr) : (turnX n l).length ≤ 1048576 := by
  unfold turnX
  split
  · rename_i h; have := (headF_iff.1 (valid_head h)).2; rw [trnF_len]; omega
  · simp
theorem FrRow.row {w w' : World} {B : Nat} {v : Value} {xs : List Fr} (ok : Bool) (h : RowFr w' B v xs) (hB : w.heap.size ≤ B) (hb : Below w.heap.size w w') : FrRow xs ok w (.returned (.tuple #[v, .bool ok])) w' := ⟨_, rfl, h.mono hB, hb⟩

def Tn9Rel (n : Int) (l : List Fr) (w : World) (u i : Value) (wr : World) : Prop :=
  ∃ k : Nat, k ≤ l.length ∧ i = .int .i64 k ∧ RowFr wr w.heap.size u ((trnF n l).take k) ∧ Below w.heap.size w wr

set_option maxRecDepth 100000 in
set_option maxHeartbeats 2000000 in
theorem turn1_any (n : Int) (v : Value) (l : List Fr) (w : World) (wn : W64 n) (hv : FrIn w v l) (hl : l.length ≤ 1048576) :
    Calls Try.prog 50 #[.int .i64 n, v] w (FrRow (turnX n l) (validF n l) w) := by
  obtain ⟨i0, hi0, hz0, hz1, hz2⟩ := info_parts infoFr
  have HV := Lib.hid (fun w' (h : Below w.heap.size w w') => bill1_any n v l w' wn (hv.below h) (by omega))
  obtain ⟨a, cap, rfl, hcap, ha⟩ := hv
  clear hcap
  have Ha := Lib.hid ha; clear ha
  cases hz : validF n l with
  | false =>
    rw [turnX_no hz]
    rw [hz] at HV
    clear hz
    go_enter Try.func50, Try.ntmps50
    go_wp2
    go_loopw [6, 7] (fun u i wr => i = .int .i64 0 ∧ RowFr wr w.heap.size u [] ∧ Below w.heap.size w wr) (fun _ _ _ => 0)
    case atStart => exact ⟨rfl, RowFr.made w _ (Nat.le_refl _), (Below.refl _ _).alloc (Nat.le_refl _) _⟩
    case round =>
      obtain ⟨rfl, hrow, hbel⟩ := hrel
      have HB := Lib.hid hbel
      have HR := Lib.hid hrow
      clear hbel hrow
      by_cases hn : (0 : Int) < (l.length : Int)
      · go_wp2_with fail
        refine (HV.out _ HB.out).mono ?_; rintro e w1 ⟨rfl, hb1⟩
        have HB1 := Lib.hid (HB.out.trans (hb1.mono HB.out.size))
        have HR1 := Lib.hid (HR.out.below hb1)
        clear hb1
        go_wp2_with fail
        refine (HV.out _ HB1.out).mono ?_; rintro e w2 ⟨rfl, hb2⟩
        have HB2 := Lib.hid (HB1.out.trans (hb2.mono HB1.out.size))
        have HR2 := Lib.hid (HR1.out.below hb2)
        clear hb2
        go_wp2
        go_ret2
        exact FrRow.row false HR2.out (Nat.le_refl _) HB2.out
      · go_wp2_with fail
        refine (HV.out _ HB.out).mono ?_; rintro e w1 ⟨rfl, hb1⟩
        have HB1 := Lib.hid (HB.out.trans (hb1.mono HB.out.size))
        have HR1 := Lib.hid (HR.out.below hb1)
        clear hb1
        go_wp2
        go_ret2
        exact FrRow.row false HR1.out (Nat.le_refl _) HB1.out
  | true =>
    have Hx := Lib.hid (turnX_yes hz)
    obtain ⟨⟨hn1, hn7⟩, hl12⟩ := headF_iff.1 (valid_head hz)
    have Ho := Lib.hid (valid_ok hz)
    rw [hz] at HV
    clear hz
    go_enter Try.func50, Try.ntmps50
    go_wp2
    go_loopw [6, 7] (fun u i wr => Tn9Rel n l w u i wr) (fun _ i _ => l.length - (intOf i).toNat)
    case atStart => exact ⟨0, Nat.zero_le _, rfl, RowFr.made w _ (Nat.le_refl _), (Below.refl _ _).alloc (Nat.le_refl _) _⟩
    case round =>
      obtain ⟨k, hk, rfl, hrow, hbel⟩ := hrel
      have HB := Lib.hid hbel
      have HR := Lib.hid hrow
      clear hbel hrow
      by_cases hlt : k < l.length
      · have hki : (k : Int) < (l.length : Int) := by omega
        have hk0 : (0 : Int) ≤ (k : Int) := Int.natCast_nonneg _
        go_wp2_with fail
        refine (HV.out _ HB.out).mono ?_; rintro e w1 ⟨rfl, hb1⟩
        have HB1 := Lib.hid (HB.out.trans (hb1.mono HB.out.size))
        have HR1 := Lib.hid (HR.out.below hb1)
        clear hb1
        obtain ⟨b, o, rfl, hb0, hrw⟩ := Ha.out (by intro h; simp [h] at hlt)
        obtain ⟨c0, c1, c2⟩ := (hrw.below HB1.out hb0) k hlt
        have Hst := Lib.hid (trnF_snoc (n := n) hlt)
        have hlk : ((trnF n l).take k).length = k := by rw [List.length_take, trnF_len]; omega
        have hown := HR1.out
        unfold RowFr at hown
        rw [hlk] at hown
        have Hlk := Lib.hid hlk
        obtain ⟨⟨a0, a1, a2⟩, m0, m1⟩ := okF_iff.1 (okFs_at Ho.out hlt)
        have hsz := HB1.out.size
        have hbs := Nat.lt_of_lt_of_le hb0 HB1.out.size
        unfold trn1 at Hst
        clear hrw hlk
        generalize (l.getD k fr0).a = xa at *
        generalize (l.getD k fr0).b = xb at *
        generalize (l.getD k fr0).m = xm at *
        generalize hys : (trnF n l).take k = ys at *
        have hw1 : IntKind.i64.wrap (n - xb) = n - xb := IntWalk.i64_in _ (by omega)
        have hw2 : IntKind.i64.wrap (n - xa) = n - xa := IntWalk.i64_in _ (by omega)
        go_wp2_with fail
        go_region_law (first | (refine step_append_lies _ (by rfl) _ _ _ (by rfl) w.heap.size 41 i0 _ 3 24 Try.underlying25 hi0 hz0 hz1 hz2 rfl (by omega) u6 k (encFr ys) (by rfl) (by first | exact (hown.drew).alloc _ | exact (hown.alloc _).drew) ⟨w1.heap.size, 0, none⟩ 1 1 [.int .i64 (n - xb), .int .i64 (n - xa), .int .i64 xm] (by rfl) (by rfl) (by first | exact news1 w1.drew #[.int .i64 (n - xb), .int .i64 (n - xa), .int .i64 xm] 41 | exact news1 w1 #[.int .i64 (n - xb), .int .i64 (n - xa), .int .i64 xm] 41) (by simp [Value.oneCell']) (by omega) (by unfold maxLen; omega) (by omega) (by simp; omega) (w1.heap.size + 1) (by simp) ?_; intro gg cap2 w4 hown4 hgrow hat hlt4))
        all_goals
          have HB4 := Lib.hid ((HB1.out.alloc hsz (.cells #[.int .i64 (n - xb), .int .i64 (n - xa), .int .i64 xm] 41)).drew.grown hgrow (by simp; omega) (fun j hj => (hown.lt j hj).1))
          have HR4 := Lib.hid (show RowFr w4 w.heap.size (.slice (some ⟨gg, 0, none⟩) (k + 1) cap2) ((trnF n l).take (k + 1)) by
            rw [Hst.out]; exact RowFr.snoc (by rw [Hlk.out]; exact hown4))
          clear hown4 hgrow hat hlt4 hown
          go_wp2
          exact ⟨⟨k + 1, hlt, by go_num, HR4.out, HB4.out⟩, by simp [intOf]; omega⟩
      · obtain rfl : k = l.length := by omega
        have Htk := Lib.hid (show (trnF n l).take l.length = turnX n l by rw [Hx.out, List.take_of_length_le (by rw [trnF_len]; exact Nat.le_refl _)])
        rw [Htk.out] at HR
        go_wp2_with fail
        refine (HV.out _ HB.out).mono ?_; rintro e w1 ⟨rfl, hb1⟩
        have HB1 := Lib.hid (HB.out.trans (hb1.mono HB.out.size))
        have HR1 := Lib.hid (HR.out.below hb1)
        clear hb1
        go_wp2
        go_ret2
        exact FrRow.row true HR1.out (Nat.le_refl _) HB1.out

set_option maxRecDepth 100000 in
set_option maxHeartbeats 2000000 in
theorem turn2_any (n : Int) (v : Value) (l : List Fr) (w : World) (hv : FrIn w v l) (hl : l.length ≤ 1048576) :
    Calls Try.prog 51 #[.int .i64 n, v] w (FrRow (turnX n l) (validF n l) w) := by
  obtain ⟨i0, hi0, hz0, hz1, hz2⟩ := info_parts infoFr
  have HV := Lib.hid (bill2_any n v l w hv (by omega))
  obtain ⟨a, cap, rfl, hcap, ha⟩ := hv
  clear hcap
  have Ha := Lib.hid ha; clear ha
  cases hz : validF n l with
  | false =>
    rw [turnX_no hz]
    rw [hz] at HV
    clear hz
    go_enter Try.func51, Try.ntmps51
    go_wp2_with fail
    refine HV.out.mono ?_; rintro e w1 ⟨rfl, hb1⟩
    have HB1 := Lib.hid hb1
    clear hb1
    go_wp2
    go_ret2
    exact FrRow.no HB1.out.size HB1.out
  | true =>
    have Hx := Lib.hid (turnX_yes hz)
    obtain ⟨⟨hn1, hn7⟩, hl12⟩ := headF_iff.1 (valid_head hz)
    have Ho := Lib.hid (valid_ok hz)
    rw [hz] at HV
    clear hz
    go_enter Try.func51, Try.ntmps51
    go_wp2_with fail
    refine HV.out.mono ?_; rintro e w1 ⟨rfl, hb1⟩
    have HB1 := Lib.hid hb1
    clear hb1
    have hs1 := HB1.out.size
    go_wp2
    go_loopw [6, 17] (fun u i wr => Tn9Rel n l w u i wr) (fun _ i _ => l.length - (intOf i).toNat)
    case atStart => exact ⟨0, Nat.zero_le _, rfl, RowFr.made w1 _ hs1, HB1.out.alloc hs1 _⟩
    case round =>
      obtain ⟨k, hk, rfl, hrow, hbel⟩ := hrel
      have HB := Lib.hid hbel
      have HR := Lib.hid hrow
      clear hbel hrow
      by_cases hlt : k < l.length
      · have hki : (k : Int) < (l.length : Int) := by omega
        have hk0 : (0 : Int) ≤ (k : Int) := Int.natCast_nonneg _
        obtain ⟨b, o, rfl, hb0, hrw⟩ := Ha.out (by intro h; simp [h] at hlt)
        obtain ⟨c0, c1, c2⟩ := (hrw.below HB.out hb0) k hlt
        have Hst := Lib.hid (trnF_snoc (n := n) hlt)
        have hlk : ((trnF n l).take k).length = k := by rw [List.length_take, trnF_len]; omega
        have hown := HR.out
        unfold RowFr at hown
        rw [hlk] at hown
        have Hlk := Lib.hid hlk
        obtain ⟨⟨a0, a1, a2⟩, m0, m1⟩ := okF_iff.1 (okFs_at Ho.out hlt)
        have hsz := HB.out.size
        have hbs := Nat.lt_of_lt_of_le hb0 HB.out.size
        unfold trn1 at Hst
        clear hrw hlk
        generalize (l.getD k fr0).a = xa at *
        generalize (l.getD k fr0).b = xb at *
        generalize (l.getD k fr0).m = xm at *
        generalize hys : (trnF n l).take k = ys at *
        have hw1 : IntKind.i64.wrap (n - xb) = n - xb := IntWalk.i64_in _ (by omega)
        have hw2 : IntKind.i64.wrap (n - xa) = n - xa := IntWalk.i64_in _ (by omega)
        go_wp2_with (at_builtin; refine wpList_append_own _ rfl _ _ 25 rfl w.heap.size 41 i0 _ 3 24 Try.underlying25 hi0 hz0 hz1 hz2 rfl (by omega) _ _ (encFr ys) rfl ((hown.alloc _).alloc _) ⟨wr.heap.size + 1, 0, none⟩ 1 1 [.int .i64 (n - xb), .int .i64 (n - xa), .int .i64 xm] rfl rfl (by exact news2 wr _ #[.int .i64 (n - xb), .int .i64 (n - xa), .int .i64 xm] 41) (by simp [Value.oneCell']) (by unfold maxLen; omega) (by omega) (by simp; omega) ?_; intro v8 w8 hown8 hgrow _)
        have HB8 := Lib.hid (((HB.out.alloc hsz (.cells #[.int .i64 xa, .int .i64 xb, .int .i64 xm] 41)).alloc (by simp; omega) (.cells #[.int .i64 (n - xb), .int .i64 (n - xa), .int .i64 xm] 41)).grown hgrow (by simp; omega) (fun j hj => (hown.lt j hj).1))
        have HR8 := Lib.hid (show RowFr w8 w.heap.size v8 ((trnF n l).take (k + 1)) by
          rw [Hst.out]; exact RowFr.snoc (by rw [Hlk.out]; exact hown8))
        clear hown8 hgrow hown
        go_wp2
        exact ⟨⟨k + 1, hlt, by go_num, HR8.out, HB8.out⟩, by simp [intOf]; omega⟩
      · obtain rfl : k = l.length := by omega
        have Htk := Lib.hid (show (trnF n l).take l.length = turnX n l by rw [Hx.out, List.take_of_length_le (by rw [trnF_len]; exact Nat.le_refl _)])
        rw [Htk.out] at HR
        go_wp2
        go_ret2
        exact FrRow.row true HR.out (Nat.le_refl _) HB.out

theorem turn1_out (n : Int) (v : Value) (l : List Fr) (w : World) (wn : W64 n) (hv : FrIn w v l) (hl : l.length ≤ 1048576) :
    Calls Try.prog 50 #[.int .i64 n, v] w (FrOut (turnX n l) (validF n l) w) := (turn1_any n v l w wn hv hl).mono fun _ _ h => h.out
theorem turn2_out (n : Int) (v : Value) (l : List Fr) (w : World) (hv : FrIn w v l) (hl : l.length ≤ 1048576) :
    Calls Try.prog 51 #[.int .i64 n, v] w (FrOut (turnX n l) (validF n l) w) := (turn2_any n v l w hv hl).mono fun _ _ h => h.out

end Go.Proofs.Ytmdcpigobfhckaa
