/- The stack at a stop, and behind a stop. -/
import Derived.Test.YtmdcpigobfhckaaFR
import Derived.IntWalk
namespace Go.Proofs.Ytmdcpigobfhckaa
open Go.RowKit

/-- All packets of a way-bill. -/
def pksF (l : List Fr) : List Pk := (List.range l.length).map (pkF l)
theorem pksF_len (l : List Fr) : (pksF l).length = l.length := by simp [pksF]
theorem pksF_at {l : List Fr} {k : Nat} (h : k < l.length) : (pksF l).getD k pk0 = pkF l k := by simp [pksF, List.getD, h]

/-- The way-bill in memory: what lies below X. -/
structure WbK (w : World) (W X : Nat) (pv lv : Value) (l : List Fr) : Prop where
  st : Whole w W 80 #[pv, lv]
  own : OwnK w 0 pv (pksF l)
  lt : W < X
  blk : ∀ g, pv.ownBlock = some g → g < X
theorem WbK.below {w w' : World} {W X : Nat} {pv lv : Value} {l : List Fr} (h : WbK w W X pv lv l) (hb : Below X w w') : WbK w' W X pv lv l := by
  refine ⟨h.st.below hb h.lt, ?_, h.lt, h.blk⟩
  obtain ⟨h1, h2⟩ := h.own
  refine ⟨h1, ?_⟩
  rcases h2 with h0 | ⟨g, cap, cur, e, hg, hh, r⟩
  · exact .inl h0
  · exact .inr ⟨g, cap, cur, e, hg, (hb.block g (h.blk g (by rw [e]; rfl))).trans hh, r⟩

def StopOut (F2 X : Nat) (l : List Fr) (x : List Nat × Nat) (w : World) (e : Ending) (w' : World) : Prop :=
  e = .returned (.tuple #[]) ∧ ∃ v', StK w' X F2 v' (x.1.map (pkF l)) x.2 ∧ Below X w w'

def StARel (F2 X : Nat) (l : List Fr) (s : Nat) (x : List Nat × Nat) (w : World) (i : Value) (wr : World) : Prop :=
  ∃ (k : Nat) (v' : Value), i = .int .i64 k ∧ k ≤ l.length ∧ StK wr X F2 v' ((outsF l s k x).1.map (pkF l)) ((outsF l s k x).2 : Nat) ∧ Below X w wr
def StBRel (F2 X : Nat) (l : List Fr) (s : Nat) (y : List Nat) (mv : Nat) (w : World) (i : Value) (wr : World) : Prop :=
  ∃ (k : Nat) (v' : Value), i = .int .i64 k ∧ k ≤ l.length ∧ StK wr X F2 v' ((putsF l s k y).map (pkF l)) (mv : Nat) ∧ Below X w wr

theorem TkS.below {w w' : World} {X F2 : Nat} {v : Value} {l : List Pk} {mv : Int} (h : Touch (TkS X v) w w') (hs : StK w X F2 v l mv) (hX : X < F2) : Below X w w' :=
  h.below (fun j hj => by
    rcases hj with e | e
    · omega
    · have := (hs.own.blk e).1; omega) (Nat.le_of_lt hs.st.lt)

set_option maxRecDepth 100000 in
set_option maxHeartbeats 4000000 in
theorem stopAt_any (n : Int) (W X F2 : Nat) (pv lv vs : Value) (l : List Fr) (s : Nat) (x : List Nat × Nat) (w : World) (hw : WbK w W X pv lv l) (hs : StK w X F2 vs (x.1.map (pkF l)) (x.2 : Nat)) (ho : okFs n l l.length = true) (hi : OutInv l s 0 x.1) (hl : l.length ≤ 12) (hx : x.1.length ≤ 96) (hm : x.2 ≤ 12000) (hXF : X < F2) (hF : F2 ≤ w.heap.size) :
    Calls Try.prog 101 #[.pointer (some ⟨W, 0, none⟩), .int .i64 s, .pointer (some ⟨X, 0, none⟩)] w (StopOut F2 X l (stopF l s x) w) := by
  have HW := Lib.hid hw
  have HS := Lib.hid hs
  have Hi := Lib.hid (fun k (hk : k ≤ l.length) => outs_inv ho hi hk)
  have Ho := Lib.hid ho
  obtain ⟨ad, cap, rfl⟩ := hw.own.slice
  have x0 := hw.st.cell (i := 0) rfl
  simp only [pksF_len] at x0
  clear hw hs hi ho
  go_enter Try.func101, Try.ntmps101
  go_wp2
  go_loopw [15] (fun i wr => StARel F2 X l s x w i wr) (fun i _ => l.length - (intOf i).toNat)
  case atStart => exact ⟨0, vs, rfl, Nat.zero_le _, HS.out, Below.refl _ _⟩
  case round =>
    obtain ⟨k, v', rfl, hk, hst, hb⟩ := hrel
    have Hst := Lib.hid hst
    have Hb := Lib.hid hb
    clear hst hb
    by_cases hlt : k < l.length
    · have hwb := HW.out.below Hb.out
      obtain ⟨g, cap2, e, hrow⟩ := hwb.own.row (by rw [pksF_len]; omega)
      injection e with e1 e2 e3
      subst e1 e3
      obtain ⟨c0, c1, c2, c3⟩ := hrow.cells (i := k) (by rw [pksF_len]; omega)
      rw [pksF_at hlt] at c0 c1 c2 c3
      have hsz := Hb.out.size
      have hsw : F2 ≤ wr.heap.size := by omega
      clear hwb hrow e2
      have hb2 : Below wr.heap.size wr (wr.alloc (.cells (celK (pkF l k)) 93)) := (Below.refl _ _).alloc (Nat.le_refl _) _
      have Hst2 := Lib.hid (Hst.out.below hb2)
      have Hb2 := Lib.hid (Hb.out.trans (hb2.mono (by omega)))
      clear hb2
      have hk0 : (0 : Int) ≤ (k : Int) := Int.natCast_nonneg _
      have hk1 : (k : Int) < (l.length : Int) := by omega
      by_cases q : (l.getD k fr0).b = (s : Int)
      · have hst1 : outsF l s (k + 1) x = ((outsF l s k x).1.erase k, (outsF l s k x).2 + ((outsF l s k x).1.length - 1 - (outsF l s k x).1.idxOf k)) := by simp only [outsF]; rw [if_pos q]
        have hin := Hi.out k hk
        obtain ⟨pre, post, hsp, hp, hq, her, hln, _⟩ := split_at hin.nd (hin.has Ho.out hlt q)
        have hol := outs_len (l := l) (s := s) (x := x) k
        have hmv := outs_mv (l := l) (s := s) (x := x) k
        have hmv2 : k * x.1.length ≤ 12 * 96 := mul_bd (by omega) hx
        rw [hsp] at hol
        have Hst3 := Lib.hid (by have h := Hst2.out; rw [hsp, List.map_append, List.map_cons] at h; exact h)
        have hst4 : (stopF l s x) = stopF l s x := rfl
        have Hst1 := Lib.hid (show outsF l s (k + 1) x = (pre ++ post, (outsF l s k x).2 + post.length) by rw [hst1, her, hln])
        have Hq := Lib.hid (show ∀ p ∈ post.map (pkF l), p.i ≠ (pkF l k).i from fun p hp => by
          rw [List.mem_map] at hp
          obtain ⟨j, hj, rfl⟩ := hp
          intro e
          have : (j : Int) = (k : Int) := e
          have : j = k := by omega
          subst this; exact hq hj)
        have hpl : pre.length + post.length + 1 ≤ 96 := by simp at hol; omega
        have eb : (pkF l k).b = (s : Int) := q
        have ei : (pkF l k).i = (k : Int) := rfl
        have hmv3 : (outsF l s k x).2 ≤ 100000 := by omega
        have hcel : celK (pkF l k) = #[.int .i64 (pkF l k).a, .int .i64 s, .int .i64 k, .int .i64 (pkF l k).m] := by unfold celK; rw [eb, ei]
        rw [hcel] at Hst3 Hb2
        clear hst1 hin hsp hp hq her hln hol hst4 hmv2 Hst Hst2 hcel hmv
        go_wp2_with fail
        refine (takeOut_any F2 X v' (pre.map (pkF l)) (post.map (pkF l)) (pkF l k) _ _ Hst3.out Hq.out (by simp; omega) hXF (by simp; omega) (Int.natCast_nonneg _) (by omega)).mono ?_; rintro e w2 ⟨rfl, v2, hs2, _, ht2⟩
        have hb2 := TkS.below ht2 Hst3.out hXF
        have hst2 : StK w2 X F2 v2 ((outsF l s (k + 1) x).1.map (pkF l)) ((outsF l s (k + 1) x).2 : Nat) := by
          rw [Hst1.out, List.map_append]
          simpa using hs2
        have Hst2 := Lib.hid hst2
        have Hb3 := Lib.hid (Hb2.out.trans hb2)
        clear hs2 ht2 hb2 hst2
        go_wp2
        exact ⟨⟨k + 1, v2, by go_num, hlt, Hst2.out, Hb3.out⟩, by simp [intOf]; omega⟩
      · have Hst1 := Lib.hid (show outsF l s (k + 1) x = outsF l s k x by simp only [outsF]; rw [if_neg q])
        have eb : ((pkF l k).b == (s : Int)) = false := by rw [beq_eq_false_iff_ne]; exact q
        clear q
        unfold celK at Hst2 Hb2
        go_wp2
        exact ⟨⟨k + 1, v', by go_num, hlt, by rw [Hst1.out]; exact Hst2.out, Hb2.out⟩, by simp [intOf]; omega⟩
    · obtain rfl : k = l.length := by omega
      have hwb := HW.out.below Hb.out
      have x0 := hwb.st.cell (i := 0) rfl
      simp only [pksF_len] at x0
      obtain ⟨y, hy⟩ : ∃ y, outsF l s l.length x = y := ⟨_, rfl⟩
      have hyl : y.1.length ≤ 96 := by
        have := outs_len (l := l) (s := s) (x := x) l.length
        rw [hy] at this; omega
      have Hy := Lib.hid (show stopF l s x = (putsF l s l.length y.1, y.2) by unfold stopF; rw [hy])
      rw [hy] at Hst
      clear hwb hy Hi
      go_wp2
      go_loopw [34] (fun i wr => StBRel F2 X l s y.1 y.2 w i wr) (fun i _ => l.length - (intOf i).toNat)
      case atStart => exact ⟨0, v', rfl, Nat.zero_le _, Hst.out, Hb.out⟩
      case round =>
        clear Hst Hb
        obtain ⟨k, v', rfl, hk, hst, hb⟩ := hrel
        have Hst := Lib.hid hst
        have Hb := Lib.hid hb
        clear hst hb
        by_cases hlt : k < l.length
        · have hwb := HW.out.below Hb.out
          obtain ⟨g, cap2, e, hrow⟩ := hwb.own.row (by rw [pksF_len]; omega)
          injection e with e1 e2 e3
          subst e1 e3
          obtain ⟨c0, c1, c2, c3⟩ := hrow.cells (i := k) (by rw [pksF_len]; omega)
          rw [pksF_at hlt] at c0 c1 c2 c3
          have hsz := Hb.out.size
          have hsw : F2 ≤ wr.heap.size := by omega
          clear hwb hrow e2
          have hb2 : Below wr.heap.size wr (wr.alloc (.cells (celK (pkF l k)) 93)) := (Below.refl _ _).alloc (Nat.le_refl _) _
          have Hst2 := Lib.hid (Hst.out.below hb2)
          have Hb2 := Lib.hid (Hb.out.trans (hb2.mono (by omega)))
          clear hb2
          have hk0 : (0 : Int) ≤ (k : Int) := Int.natCast_nonneg _
          have hk1 : (k : Int) < (l.length : Int) := by omega
          by_cases q : (l.getD k fr0).a = (s : Int)
          · have Hst1 := Lib.hid (show putsF l s (k + 1) y.1 = putsF l s k y.1 ++ [k] by simp only [putsF]; rw [if_pos q])
            have hpl := puts_len (l := l) (s := s) (st := y.1) k
            have ea : (pkF l k).a = (s : Int) := q
            have hcel : celK (pkF l k) = #[.int .i64 s, .int .i64 (pkF l k).b, .int .i64 (pkF l k).i, .int .i64 (pkF l k).m] := by unfold celK; rw [ea]
            have Hpk := Lib.hid (show pkF l k = ⟨s, (pkF l k).b, (pkF l k).i, (pkF l k).m⟩ by
              have : pkF l k = ⟨(pkF l k).a, (pkF l k).b, (pkF l k).i, (pkF l k).m⟩ := rfl
              rwa [ea] at this)
            rw [hcel] at Hst2 Hb2
            clear hcel Hst
            go_wp2_with fail
            refine (put_any F2 X v' ((putsF l s k y.1).map (pkF l)) s (pkF l k).b (pkF l k).i (pkF l k).m _ _ Hst2.out (by simp; omega) hXF (by simp; omega)).mono ?_; rintro e w2 ⟨rfl, v2, hs2, _, ht2⟩
            have hb2 := TkS.below (X := X) (F2 := F2) (w' := w2) ht2 Hst2.out hXF
            have hst2 : StK w2 X F2 v2 ((putsF l s (k + 1) y.1).map (pkF l)) (y.2 : Nat) := by
              rw [Hst1.out, List.map_append, List.map_cons, List.map_nil, Hpk.out]
              exact hs2
            have Hst3 := Lib.hid hst2
            have Hb3 := Lib.hid (Hb2.out.trans hb2)
            clear hs2 ht2 hb2 hst2
            go_wp2
            exact ⟨⟨k + 1, v2, by go_num, hlt, Hst3.out, Hb3.out⟩, by simp [intOf]; omega⟩
          · have Hst1 := Lib.hid (show putsF l s (k + 1) y.1 = putsF l s k y.1 by simp only [putsF]; rw [if_neg q])
            have ea : ((pkF l k).a == (s : Int)) = false := by rw [beq_eq_false_iff_ne]; exact q
            clear q
            unfold celK at Hst2 Hb2
            go_wp2
            exact ⟨⟨k + 1, v', by go_num, hlt, by rw [Hst1.out]; exact Hst2.out, Hb2.out⟩, by simp [intOf]; omega⟩
        · obtain rfl : k = l.length := by omega
          have HF := Lib.hid (show StopOut F2 X l (stopF l s x) w (.returned (.tuple #[])) wr from ⟨rfl, v', by rw [Hy.out]; exact Hst.out, Hb.out⟩)
          clear Hst Hb Hy
          go_wp2
          go_end0
          exact HF.out

def BehindOut (l : List Fr) (s : Nat) (w : World) (e : Ending) (w' : World) : Prop :=
  ∃ v', e = .returned (.pointer (some ⟨w.heap.size, 0, none⟩)) ∧ StK w' w.heap.size (w.heap.size + 1) v' ((runF l s).1.map (pkF l)) ((runF l s).2 : Nat) ∧ Below w.heap.size w w'

set_option maxRecDepth 100000 in
set_option maxHeartbeats 4000000 in
theorem behind_any (n : Int) (W : Nat) (pv lv : Value) (l : List Fr) (s : Nat) (w : World) (hw : WbK w W w.heap.size pv lv l) (ho : okFs n l l.length = true) (hl : l.length ≤ 12) (hs : s ≤ 7) :
    Calls Try.prog 79 #[.pointer (some ⟨W, 0, none⟩), .int .i64 s] w (BehindOut l (s + 1) w) := by
  have HW := Lib.hid hw
  have Ho := Lib.hid ho
  have hs0 : (0 : Int) ≤ (s : Int) := Int.natCast_nonneg _
  have hs7 : (s : Int) ≤ 7 := by omega
  have h1 : StK (w.alloc (.cells #[.slice none 0 0, .int .i64 0] 89)) w.heap.size (w.heap.size + 1) (.slice none 0 0) ((runF l 0).1.map (pkF l)) ((runF l 0).2 : Nat) := ⟨Whole.made _ _ _, OwnK.nil⟩
  have H1 := Lib.hid h1
  have Hb1 := Lib.hid (show Below w.heap.size w (w.alloc (.cells #[.slice none 0 0, .int .i64 0] 89)) from (Below.refl _ _).alloc (Nat.le_refl _) _)
  clear h1 hw ho
  go_enter Try.func79, Try.ntmps79
  go_wp2
  go_loopw [11] (fun i wr => ∃ (k : Nat) (v' : Value), i = .int .i64 k ∧ k ≤ s + 1 ∧ StK wr w.heap.size (w.heap.size + 1) v' ((runF l k).1.map (pkF l)) ((runF l k).2 : Nat) ∧ Below w.heap.size w wr) (fun i _ => s + 1 - (intOf i).toNat)
  case atStart => exact ⟨0, _, rfl, Nat.zero_le _, H1.out, Hb1.out⟩
  case round =>
    clear H1 Hb1
    obtain ⟨k, v', rfl, hk, hst, hb⟩ := hrel
    have Hst := Lib.hid hst
    have Hb := Lib.hid hb
    clear hst hb
    by_cases hlt : k < s + 1
    · have hlen := run_len hl k
      have hmv := run_mv hl k (by omega)
      have Hc := Lib.hid (stopAt_any n W w.heap.size (w.heap.size + 1) pv lv v' l k (runF l k) wr (HW.out.below Hb.out) Hst.out Ho.out (run_inv Ho.out k) hl (by omega) (by omega) (by omega) (by have := Hst.out.st.lt; omega))
      have Hr := Lib.hid (show runF l (k + 1) = stopF l k (runF l k) from rfl)
      have hk0 : (0 : Int) ≤ (k : Int) := Int.natCast_nonneg _
      have hk1 : (k : Int) < (s : Int) + 1 := by omega
      clear hlen hmv
      go_wp2_with fail
      refine Hc.out.mono ?_; rintro e w2 ⟨rfl, v2, hs2, hb2⟩
      have Hst2 := Lib.hid (show StK w2 w.heap.size (w.heap.size + 1) v2 ((runF l (k + 1)).1.map (pkF l)) ((runF l (k + 1)).2 : Nat) by rw [Hr.out]; exact hs2)
      have Hb2 := Lib.hid (Hb.out.trans hb2)
      clear hs2 hb2
      go_wp2
      exact ⟨⟨k + 1, v2, by go_num, by omega, Hst2.out, Hb2.out⟩, by simp [intOf]; omega⟩
    · obtain rfl : k = s + 1 := by omega
      have HF := Lib.hid (show BehindOut l (s + 1) w (.returned (.pointer (some ⟨w.heap.size, 0, none⟩))) wr from ⟨v', rfl, Hst.out, Hb.out⟩)
      have hnn : ¬ (((s + 1 : Nat) : Int) < (s : Int) + 1) := by omega
      clear Hst Hb
      go_wp2
      go_ret
      exact HF.out

end Go.Proofs.Ytmdcpigobfhckaa
