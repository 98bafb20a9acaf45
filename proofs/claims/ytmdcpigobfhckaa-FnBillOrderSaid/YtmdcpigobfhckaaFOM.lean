/- The model's BillOrder. -/
import Derived.Test.YtmdcpigobfhckaaFOP
import Derived.Test.YtmdcpigobfhckaaFTN
namespace Go.Proofs.Ytmdcpigobfhckaa
open Go.RowKit

def rowsF (l : List Fr) (is : List Nat) : List Fr := is.map fun i => l.getD i fr0
theorem rowsF_app (l : List Fr) (a b : List Nat) : rowsF l (a ++ b) = rowsF l a ++ rowsF l b := by simp [rowsF]
theorem rowsF_len (l : List Fr) (a : List Nat) : (rowsF l a).length = a.length := by simp [rowsF]

def O9aRel (l : List Fr) (N : Nat) (w : World) (u i : Value) (wr : World) : Prop :=
  ∃ f : Nat, f ≤ N ∧ i = .int .i64 f ∧ RowFr wr w.heap.size u (rowsF l (fromsF l N f)) ∧ Below w.heap.size w wr
def O9bRel (l : List Fr) (N f : Nat) (w : World) (u i : Value) (wr : World) : Prop :=
  ∃ j : Nat, f + j ≤ N ∧ i = .int .i64 ((N : Int) - j) ∧ RowFr wr w.heap.size u (rowsF l (fromsF l N f ++ tosF l N f j)) ∧ Below w.heap.size w wr
def O9cRel (l : List Fr) (f : Nat) (t : Int) (xs : List Nat) (w : World) (u i : Value) (wr : World) : Prop :=
  ∃ k : Nat, k ≤ l.length ∧ i = .int .i64 k ∧ RowFr wr w.heap.size u (rowsF l (xs ++ pickF l f t k)) ∧ Below w.heap.size w wr

set_option maxRecDepth 100000 in
set_option maxHeartbeats 4000000 in
theorem order1_any (n : Int) (v : Value) (l : List Fr) (w : World) (wn : W64 n) (hv : FrIn w v l) (hl : l.length ≤ 1048576) :
    Calls Try.prog 46 #[.int .i64 n, v] w (FrRow (orderX n l) (validF n l) w) := by
  obtain ⟨i0, hi0, hz0, hz1, hz2⟩ := info_parts infoFr
  have HV := Lib.hid (fun w' (h : Below w.heap.size w w') => bill1_any n v l w' wn (hv.below h) (by omega))
  obtain ⟨a, cap, rfl, hcap, ha⟩ := hv
  clear hcap
  have Ha := Lib.hid ha; clear ha
  cases hz : validF n l with
  | false =>
    rw [orderX_no hz]
    rw [hz] at HV
    clear hz
    go_enter Try.func46, Try.ntmps46
    go_wp2
    go_loopw [6, 7] (fun u i wr => i = .int .i64 0 ∧ RowFr wr w.heap.size u [] ∧ Below w.heap.size w wr) (fun _ _ _ => 0)
    case atStart => exact ⟨rfl, RowFr.made w _ (Nat.le_refl _), (Below.refl _ _).alloc (Nat.le_refl _) _⟩
    case round =>
      obtain ⟨rfl, hrow, hbel⟩ := hrel
      have HB := Lib.hid hbel
      have HR := Lib.hid hrow
      clear hbel hrow
      by_cases hn : (0 : Int) < n
      · go_wp2_with fail
        refine (HV.out _ HB.out).mono ?_; rintro e w1 ⟨rfl, hb1⟩
        have HB1 := Lib.hid (HB.out.trans (hb1.mono HB.out.size))
        have HR1 := Lib.hid (HR.out.below hb1)
        clear hb1
        go_wp2_with fail
        refine (HV.out _ HB1.out).mono ?_; rintro e w2 ⟨rfl, hb2⟩
        have HB2 := Lib.hid (HB1.out.trans (hb2.mono HB1.out.size))
        have HR2 := Lib.hid (HR1.out.below hb2)
        clear hb2
        go_wp2
        go_ret2
        exact FrRow.row false HR2.out (Nat.le_refl _) HB2.out
      · go_wp2_with fail
        refine (HV.out _ HB.out).mono ?_; rintro e w1 ⟨rfl, hb1⟩
        have HB1 := Lib.hid (HB.out.trans (hb1.mono HB.out.size))
        have HR1 := Lib.hid (HR.out.below hb1)
        clear hb1
        go_wp2
        go_ret2
        exact FrRow.row false HR1.out (Nat.le_refl _) HB1.out
  | true =>
    have hx := orderX_yes hz
    obtain ⟨⟨hn1, hn7⟩, hl12⟩ := headF_iff.1 (valid_head hz)
    have Ho := Lib.hid (valid_ok hz)
    rw [hz] at HV
    obtain ⟨N, rfl⟩ : ∃ N : Nat, n = N := ⟨n.toNat, by omega⟩
    rw [Int.toNat_natCast] at hx
    have Hx := Lib.hid hx
    clear hz hx
    have hN7 : N ≤ 7 := by omega
    go_enter Try.func46, Try.ntmps46
    go_wp2
    go_loopw [6, 7] (fun u i wr => O9aRel l N w u i wr) (fun _ i _ => N - (intOf i).toNat)
    case atStart => exact ⟨0, Nat.zero_le _, rfl, RowFr.made w _ (Nat.le_refl _), (Below.refl _ _).alloc (Nat.le_refl _) _⟩
    case round =>
      obtain ⟨f, hf, rfl, hrow, hbel⟩ := hrel
      have HB := Lib.hid hbel
      have HR := Lib.hid hrow
      clear hbel hrow
      by_cases hlt : f < N
      · have hfi : (f : Int) < (N : Int) := by omega
        have hf0 : (0 : Int) ≤ (f : Int) := Int.natCast_nonneg _
        go_wp2_with fail
        refine (HV.out _ HB.out).mono ?_; rintro e w1 ⟨rfl, hb1⟩
        have HB1 := Lib.hid (HB.out.trans (hb1.mono HB.out.size))
        have HR1 := Lib.hid (HR.out.below hb1)
        clear hb1 HB HR
        have hfl := fromsF_len (l := l) (n := N) hl12 hN7 f
        have Hfn := Lib.hid (show fromsF l N (f + 1) = fromsF l N f ++ tosF l N f (N - f) from rfl)
        go_wp2
        go_loopw [6, 8] (fun u i wr => O9bRel l N f w u i wr) (fun _ i _ => (intOf i).toNat - f)
        case atStart => exact ⟨0, by omega, by simp, by simpa [tosF] using HR1.out, HB1.out⟩
        case round =>
          clear HB1 HR1
          obtain ⟨j, hj, rfl, hrow, hbel⟩ := hrel
          have HB := Lib.hid hbel
          have HR := Lib.hid hrow
          clear hbel hrow
          by_cases hlt : f + j < N
          · have hji : (f : Int) < (N : Int) - j := by omega
            have hjn : (N : Int) - j ≤ 7 := by omega
            have htl := tosF_len (l := l) (n := N) (f := (f : Int)) hl12 j
            have Htn := Lib.hid (show tosF l N f (j + 1) = tosF l N f j ++ pickF l f ((N : Int) - j) l.length from rfl)
            obtain ⟨t, ht⟩ : ∃ t : Int, (N : Int) - j = t := ⟨_, rfl⟩
            obtain ⟨xs, hxs⟩ : ∃ xs, fromsF l N f ++ tosF l N f j = xs := ⟨_, rfl⟩
            have hxl : xs.length ≤ 2000 := by rw [← hxs, List.length_append]; omega
            rw [ht] at Htn hji hjn ⊢
            rw [hxs] at HR
            have Hxs := Lib.hid hxs
            have Ht := Lib.hid ht
            clear hxs ht
            go_wp2
            go_loopw [6, 9] (fun u i wr => O9cRel l f t xs w u i wr) (fun _ i _ => l.length - (intOf i).toNat)
            case atStart => exact ⟨0, Nat.zero_le _, rfl, by simpa [pickF] using HR.out, HB.out⟩
            case round =>
              clear HB HR
              obtain ⟨k, hk, rfl, hrow, hbel⟩ := hrel
              have HB := Lib.hid hbel
              have HR := Lib.hid hrow
              clear hbel hrow
              by_cases hlt : k < l.length
              · have hki : (k : Int) < (l.length : Int) := by omega
                have hk0 : (0 : Int) ≤ (k : Int) := Int.natCast_nonneg _
                obtain ⟨b, o, rfl, hb0, hrw⟩ := Ha.out (by intro h; simp [h] at hlt)
                obtain ⟨c0, c1, c2⟩ := (hrw.below HB.out hb0) k hlt
                clear hrw
                have hpk : pickF l f t (k + 1) = if (l.getD k fr0).a = (f : Int) ∧ (l.getD k fr0).b = t then pickF l f t k ++ [k] else pickF l f t k := rfl
                have hno : ¬ ((l.getD k fr0).a = (f : Int) ∧ (l.getD k fr0).b = t) → RowFr wr w.heap.size u6 (rowsF l (xs ++ pickF l f t (k + 1))) := fun h => by rw [hpk, if_neg h]; exact HR.out
                have Hno := Lib.hid hno
                clear hno
                by_cases q1 : (l.getD k fr0).a = (f : Int)
                · by_cases q2 : (l.getD k fr0).b = t
                  · have hsz := HB.out.size
                    have hpl := pickF_len (l := l) (f := (f : Int)) (t := t) k
                    rw [if_pos ⟨q1, q2⟩] at hpk
                    have Hrow := Lib.hid (show rowsF l (xs ++ pickF l f t (k + 1)) = rowsF l (xs ++ pickF l f t k) ++ [⟨(f : Int), t, (l.getD k fr0).m⟩] by
                      rw [hpk, ← List.append_assoc, rowsF_app l (xs ++ pickF l f t k)]
                      have e : l.getD k fr0 = ⟨(l.getD k fr0).a, (l.getD k fr0).b, (l.getD k fr0).m⟩ := rfl
                      rw [q1, q2] at e
                      simp only [rowsF, List.map_cons, List.map_nil, ← e])
                    have hown := HR.out
                    unfold RowFr at hown
                    have hz : (rowsF l (xs ++ pickF l f t k)).length ≤ 3000 := by rw [rowsF_len, List.length_append]; omega
                    obtain ⟨ys, hys⟩ : ∃ ys, rowsF l (xs ++ pickF l f t k) = ys := ⟨_, rfl⟩
                    rw [hys] at hown hz Hrow
                    obtain ⟨z, hzz⟩ : ∃ z, ys.length = z := ⟨_, rfl⟩
                    rw [hzz] at hown hz
                    have Hz := Lib.hid hzz
                    rw [q1] at c0
                    rw [q2] at c1
                    clear hpk hys hzz Hno q1 q2
                    generalize (l.getD k fr0).m = xm at *
                    have e1 : ((f : Int) == (f : Int)) = true := by simp
                    have e2 : (t == t) = true := by simp
                    go_wp2_with (at_builtin; refine wpList_append_own _ rfl _ _ 25 rfl w.heap.size 41 i0 _ 3 24 Try.underlying25 hi0 hz0 hz1 hz2 rfl (by omega) _ _ (encFr ys) rfl (hown.alloc _) ⟨wr.heap.size, 0, none⟩ 1 1 [.int .i64 f, .int .i64 t, .int .i64 xm] rfl rfl (by exact news1 wr #[.int .i64 f, .int .i64 t, .int .i64 xm] 41) (by simp [Value.oneCell']) (by unfold maxLen; omega) (by omega) (by simp; omega) ?_; intro v8 w8 hown8 hgrow _)
                    have HB8 := Lib.hid ((HB.out.alloc hsz (.cells #[.int .i64 f, .int .i64 t, .int .i64 xm] 41)).grown hgrow (by simp; omega) (fun j hj => (hown.lt j hj).1))
                    have HR8 := Lib.hid (show RowFr w8 w.heap.size v8 (rowsF l (xs ++ pickF l f t (k + 1))) by
                      rw [Hrow.out]; exact RowFr.snoc (by rw [Hz.out]; exact hown8))
                    clear hown8 hgrow hown
                    go_wp2
                    exact ⟨⟨k + 1, hlt, by go_num, HR8.out, HB8.out⟩, by simp [intOf]; omega⟩
                  · have HR2 := Lib.hid (Hno.out (fun h => q2 h.2))
                    rw [q1] at c0
                    have e1 : ((f : Int) == (f : Int)) = true := by simp
                    have e2 : ((l.getD k fr0).b == t) = false := by simpa using q2
                    clear hpk q1 q2 Hno
                    generalize (l.getD k fr0).b = xb at *
                    generalize (l.getD k fr0).m = xm at *
                    go_wp2
                    exact ⟨⟨k + 1, hlt, by go_num, HR2.out, HB.out⟩, by simp [intOf]; omega⟩
                · have HR2 := Lib.hid (Hno.out (fun h => q1 h.1))
                  have e1 : ((l.getD k fr0).a == (f : Int)) = false := by simpa using q1
                  clear hpk q1 Hno
                  generalize (l.getD k fr0).a = xa at *
                  generalize (l.getD k fr0).b = xb at *
                  generalize (l.getD k fr0).m = xm at *
                  go_wp2
                  exact ⟨⟨k + 1, hlt, by go_num, HR2.out, HB.out⟩, by simp [intOf]; omega⟩
              · obtain rfl : k = l.length := by omega
                have HR2 := Lib.hid (show RowFr wr w.heap.size u6 (rowsF l (fromsF l N f ++ tosF l N f (j + 1))) by
                  have h := HR.out
                  rw [← Hxs.out, List.append_assoc, ← Htn.out] at h
                  exact h)
                have htn : t - 1 = (N : Int) - ((j + 1 : Nat) : Int) := by have := Ht.out; omega
                have ht0 : f < t.toNat := by omega
                have Htn2 := Lib.hid htn
                go_wp2
                exact ⟨⟨j + 1, by omega, by rw [← Htn2.out]; go_num, HR2.out, HB.out⟩, by simp [intOf]; omega⟩
          · obtain rfl : j = N - f := by omega
            have hnn : ¬ ((f : Int) < (N : Int) - ((N - f : Nat) : Int)) := by omega
            have HR2 := Lib.hid (show RowFr wr w.heap.size u6 (rowsF l (fromsF l N (f + 1))) by rw [Hfn.out]; exact HR.out)
            obtain ⟨t, ht⟩ : ∃ t : Int, (N : Int) - ((N - f : Nat) : Int) = t := ⟨_, rfl⟩
            rw [ht] at hnn ⊢
            clear ht
            go_wp2
            exact ⟨⟨f + 1, by omega, by go_num, HR2.out, HB.out⟩, by simp [intOf]; omega⟩
      · obtain rfl : f = N := by omega
        go_wp2_with fail
        refine (HV.out _ HB.out).mono ?_; rintro e w1 ⟨rfl, hb1⟩
        have HB1 := Lib.hid (HB.out.trans (hb1.mono HB.out.size))
        have HR1 := Lib.hid (show RowFr w1 w.heap.size u6 (orderX f l) by rw [Hx.out]; exact HR.out.below hb1)
        clear hb1
        go_wp2
        go_ret2
        exact FrRow.row true HR1.out (Nat.le_refl _) HB1.out

theorem order1_out (n : Int) (v : Value) (l : List Fr) (w : World) (wn : W64 n) (hv : FrIn w v l) (hl : l.length ≤ 1048576) :
    Calls Try.prog 46 #[.int .i64 n, v] w (FrOut (orderX n l) (validF n l) w) := (order1_any n v l w wn hv hl).mono fun _ _ h => h.out

end Go.Proofs.Ytmdcpigobfhckaa
