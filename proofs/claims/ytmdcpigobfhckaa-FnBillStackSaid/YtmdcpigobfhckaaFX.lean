/- Results of way-bills; the program's BillRoom, BillPound, BillLoads, BillMoves, BillNested, BillStack. -/
import Derived.Test.YtmdcpigobfhckaaFW
import Derived.Test.YtmdcpigobfhckaaIO
namespace Go.Proofs.Ytmdcpigobfhckaa
open Go.RowKit

def roomX (n : Int) (l : List Fr) (a b : Int) : Int := if (validF n l && fitF n a b) = true then roomF l l.length a b else -1
def poundX (n : Int) (l : List Fr) : Int := if validF n l = true then poundF l else -1
def loadsX (n : Int) (l : List Fr) : List Int := if validF n l = true then loadsL l n.toNat l.length else []
def movesX (n : Int) (l : List Fr) : Int := if validF n l = true then ((runF l (n.toNat + 1)).2 : Nat) else -1
def stackOk (n : Int) (l : List Fr) (s : Int) : Bool := validF n l && (decide (0 ≤ s) && decide (s ≤ n))
def stackX (n : Int) (l : List Fr) (s : Int) : List Int := if stackOk n l s = true then (runF l (s.toNat + 1)).1.map fun (i : Nat) => (i : Int) else []
theorem loadsX_no {n : Int} {l : List Fr} (h : validF n l = false) : loadsX n l = [] := by unfold loadsX; rw [h]; rfl
theorem loadsX_yes {n : Int} {l : List Fr} (h : validF n l = true) : loadsX n l = loadsL l n.toNat l.length := by unfold loadsX; rw [h]; rfl
theorem loadsX_short (n : Int) (l : List Fr) : (loadsX n l).length ≤ 1048576 := by
  unfold loadsX
  split
  · rename_i h
    have := headF_iff.1 (valid_head h)
    rw [loadsL_len]; omega
  · simp
theorem stackX_no {n : Int} {l : List Fr} {s : Int} (h : stackOk n l s = false) : stackX n l s = [] := by unfold stackX; rw [h]; rfl
theorem stackX_short (n : Int) (l : List Fr) (s : Int) : (stackX n l s).length ≤ 1048576 := by
  unfold stackX
  split
  · rename_i h
    simp only [stackOk, Bool.and_eq_true, decide_eq_true_eq] at h
    have h1 := headF_iff.1 (valid_head h.1)
    have := run_len h1.2 (s.toNat + 1)
    rw [List.length_map]; omega
  · simp

theorem WayK.wb {w : World} {W F1 L n : Nat} {pv : Value} {l : List Fr} (h : WayK w W F1 L n pv l l.length) : WbK w W w.heap.size pv (.slice (some ⟨L, 0, none⟩) n n) l :=
  ⟨h.st, h.own.mono (Nat.zero_le _), h.st.lt, fun g hg => (h.own.blk hg).2⟩

theorem row_of_whole {w : World} {B L : Nat} {xs : List Int} (h : Whole w L 3 (xs.map (Value.int .i64)).toArray) (hB : B ≤ L) (hm : xs.length ≤ maxLen) : RowI w B (.slice (some ⟨L, 0, none⟩) xs.length xs.length) xs :=
  ⟨by simp, .inr ⟨L, xs.length, _, rfl, hB, h, Nat.le_refl _, hm, by simp, by simp [List.take_of_length_le]⟩⟩

set_option maxHeartbeats 1000000 in
theorem room2_any (n : Int) (v : Value) (l : List Fr) (a b : Int) (w : World) (hv : FrIn w v l) (hl : l.length ≤ 1048577) :
    Calls Try.prog 33 #[.int .i64 n, v, .int .i64 a, .int .i64 b] w (Gives (.int .i64 (roomX n l a b)) w) := by
  have Hc := Lib.hid (billOf_any n v l w hv hl)
  clear hv
  go_enter Try.func33, Try.ntmps33
  go_wp2_with fail
  refine Hc.out.mono ?_; rintro e w1 ⟨hb, hno, hyes⟩
  cases hz : validF n l with
  | false =>
    obtain rfl := hno hz
    have Hb := Lib.hid hb
    have Hx := Lib.hid (show roomX n l a b = -1 by unfold roomX; rw [hz]; rfl)
    clear hno hyes hb
    go_wp2
    go_ret
    exact ⟨ret_int Hx.out.symm, Hb.out⟩
  | true =>
    obtain ⟨W, L, pv, rfl, hk⟩ := hyes hz
    have hh := headF_iff.1 (valid_head hz)
    have Hk := Lib.hid hk
    have Hb := Lib.hid hb
    have hN : ((n.toNat : Nat) : Int) = n := by omega
    have hr := room_any W w.heap.size L n.toNat pv l l.length a b w1 hk (by omega) (by omega) (by rw [hN]; exact valid_ok hz)
    rw [hN] at hr
    have Hr := Lib.hid hr
    clear hno hyes hb hk hr
    go_wp2_with fail
    refine Hr.out.mono ?_; rintro e w2 ⟨rfl, hb2⟩
    have Hb2 := Lib.hid (Hb.out.trans (hb2.mono Hb.out.size))
    clear hb2
    cases hf : fitF n a b with
    | false =>
      have Hx := Lib.hid (show roomX n l a b = -1 by unfold roomX; rw [hf, hz]; rfl)
      go_wp2
      go_ret
      exact ⟨ret_int Hx.out.symm, Hb2.out⟩
    | true =>
      have Hx := Lib.hid (show roomX n l a b = roomF l l.length a b by unfold roomX; rw [hf, hz]; rfl)
      go_wp2
      go_ret
      exact ⟨ret_int Hx.out.symm, Hb2.out⟩

set_option maxHeartbeats 1000000 in
theorem loads2_any (n : Int) (v : Value) (l : List Fr) (w : World) (hv : FrIn w v l) (hl : l.length ≤ 1048577) :
    Calls Try.prog 27 #[.int .i64 n, v] w (IntsOk (loadsX n l) (validF n l) w) := by
  have Hc := Lib.hid (billOf_any n v l w hv hl)
  clear hv
  go_enter Try.func27, Try.ntmps27
  go_wp2_with fail
  refine Hc.out.mono ?_; rintro e w1 ⟨hb, hno, hyes⟩
  cases hz : validF n l with
  | false =>
    obtain rfl := hno hz
    have Hb := Lib.hid hb
    have Hx := Lib.hid (loadsX_no hz)
    clear hno hyes hb
    go_wp2
    go_ret2
    rw [Hx.out, hz]
    exact IntsOk.no Hb.out.size (by simp) (Hb.out.alloc Hb.out.size _)
  | true =>
    obtain ⟨W, L, pv, rfl, hk⟩ := hyes hz
    have Hk := Lib.hid hk
    have Hb := Lib.hid hb
    have Hx := Lib.hid (loadsX_yes hz)
    have hlen := loadsL_len l n.toNat l.length
    have hh := headF_iff.1 (valid_head hz)
    have hrow := row_of_whole hk.ld hk.lo.2.1 (by rw [hlen]; unfold maxLen; omega)
    rw [hlen] at hrow
    have Hrow := Lib.hid hrow
    have x1 := hk.st.cell (i := 1) rfl
    clear hno hyes hb hk hrow
    go_wp2
    go_ret2
    rw [Hx.out, hz]
    exact IntsOk.row true Hrow.out (Nat.le_refl _) Hb.out

set_option maxHeartbeats 1000000 in
theorem moves2_any (n : Int) (v : Value) (l : List Fr) (w : World) (hv : FrIn w v l) (hl : l.length ≤ 1048577) :
    Calls Try.prog 43 #[.int .i64 n, v] w (Gives (.int .i64 (movesX n l)) w) := by
  have Hc := Lib.hid (billOf_any n v l w hv hl)
  clear hv
  go_enter Try.func43, Try.ntmps43
  go_wp2_with fail
  refine Hc.out.mono ?_; rintro e w1 ⟨hb, hno, hyes⟩
  cases hz : validF n l with
  | false =>
    obtain rfl := hno hz
    have Hb := Lib.hid hb
    have Hx := Lib.hid (show movesX n l = -1 by unfold movesX; rw [hz]; rfl)
    clear hno hyes hb
    go_wp2
    go_ret
    exact ⟨ret_int Hx.out.symm, Hb.out⟩
  | true =>
    obtain ⟨W, L, pv, rfl, hk⟩ := hyes hz
    have hh := headF_iff.1 (valid_head hz)
    have Hb := Lib.hid hb
    have hN : ((n.toNat : Nat) : Int) = n := by omega
    have hr := behind_any n W pv _ l n.toNat w1 hk.wb (valid_ok hz) hh.2 (by omega)
    rw [hN] at hr
    have Hr := Lib.hid hr
    have Hx := Lib.hid (show movesX n l = ((runF l (n.toNat + 1)).2 : Nat) by unfold movesX; rw [hz]; rfl)
    clear hno hyes hb hk hr
    go_wp2_with fail
    refine Hr.out.mono ?_; rintro e w2 ⟨v', rfl, hst, hb2⟩
    have Hb2 := Lib.hid (Hb.out.trans (hb2.mono Hb.out.size))
    have x1 := hst.st.cell (i := 1) rfl
    clear hb2 hst
    go_wp2
    go_ret
    exact ⟨ret_int Hx.out.symm, Hb2.out⟩

set_option maxHeartbeats 1000000 in
theorem nested2_any (n : Int) (v : Value) (l : List Fr) (w : World) (hv : FrIn w v l) (hl : l.length ≤ 1048577) :
    Calls Try.prog 45 #[.int .i64 n, v] w (Gives (.bool (movesX n l == 0)) w) := by
  have Hc := Lib.hid (moves2_any n v l w hv hl)
  clear hv
  generalize movesX n l = x at *
  go_enter Try.func45, Try.ntmps45
  go_wp2_with fail
  refine Hc.out.mono ?_; rintro e w1 ⟨rfl, hb⟩
  have Hb := Lib.hid hb
  clear hb
  go_wp2
  go_ret
  exact ⟨rfl, Hb.out⟩

set_option maxHeartbeats 1000000 in
theorem length_any (a b : Int) (w : World) (h : W64 (b - a)) :
    Calls Try.prog 85 #[.agg #[.int .i64 a, .int .i64 b]] w (Gives (.int .i64 (b - a)) w) := by
  have hs : IntKind.i64.wrap (b - a) = b - a := IntWalk.i64_in _ h
  have Hb := Lib.hid (((Below.refl w.heap.size w).alloc (Nat.le_refl _) (.cells #[.int .i64 a, .int .i64 b] 84)))
  go_enter Try.func85, Try.ntmps85
  go_wp2
  go_ret
  exact ⟨ret_int (by first | exact hs | rfl), Hb.out⟩

def Po2Rel (l : List Fr) (w : World) (xv i : Value) (wr : World) : Prop :=
  ∃ k : Nat, i = .int .i64 k ∧ k ≤ l.length ∧ xv = .int .i64 (poundTo l k) ∧ Below w.heap.size w wr

theorem wayB_row {w wr : World} {W F1 L n : Nat} {pv : Value} {l : List Fr} (h : WayK w W F1 L n pv l l.length) (hb : Below w.heap.size w wr) {k : Nat} (hk : k < l.length) {ad : Option Addr} {c : Nat} (hp : pv = .slice ad l.length c) :
    ∃ g, ad = some ⟨g, 0, none⟩ ∧ wr.cell? ⟨g, k * 4, none⟩ = some (.int .i64 (pkF l k).a) ∧ wr.cell? ⟨g, k * 4 + 1, none⟩ = some (.int .i64 (pkF l k).b) ∧ wr.cell? ⟨g, k * 4 + 2, none⟩ = some (.int .i64 (pkF l k).i) ∧ wr.cell? ⟨g, k * 4 + 3, none⟩ = some (.int .i64 (pkF l k).m) := by
  subst hp
  obtain ⟨g, cap2, e, hrow⟩ := (h.below hb).own.row (by simp; omega)
  injection e with e1 e2 e3
  obtain ⟨c0, c1, c2, c3⟩ := hrow.cells (i := k) (by simp; exact hk)
  have e4 : (List.map (pkF l) (List.range l.length)).getD k pk0 = pkF l k := pksF_at hk
  rw [e4] at c0 c1 c2 c3
  exact ⟨g, e1, c0, c1, c2, c3⟩

set_option maxRecDepth 100000 in
set_option maxHeartbeats 2000000 in
theorem pound2_any (n : Int) (v : Value) (l : List Fr) (w : World) (hv : FrIn w v l) (hl : l.length ≤ 1048577) :
    Calls Try.prog 49 #[.int .i64 n, v] w (Gives (.int .i64 (poundX n l)) w) := by
  have Hc := Lib.hid (billOf_any n v l w hv hl)
  clear hv
  go_enter Try.func49, Try.ntmps49
  go_wp2_with fail
  refine Hc.out.mono ?_; rintro e w1 ⟨hb, hno, hyes⟩
  cases hz : validF n l with
  | false =>
    obtain rfl := hno hz
    have Hb := Lib.hid hb
    have Hx := Lib.hid (show poundX n l = -1 by unfold poundX; rw [hz]; rfl)
    clear hno hyes hb
    go_wp2
    go_ret
    exact ⟨ret_int Hx.out.symm, Hb.out⟩
  | true =>
    obtain ⟨W, L, pv, rfl, hk⟩ := hyes hz
    have hh := headF_iff.1 (valid_head hz)
    have ho := valid_ok hz
    have Hb := Lib.hid hb
    have Hx := Lib.hid (show poundX n l = poundTo l l.length by unfold poundX; rw [hz]; rfl)
    obtain ⟨ad, c, hp⟩ := hk.own.slice
    rw [List.length_map, List.length_range] at hp
    have Hrow := Lib.hid (fun wr (hbr : Below w1.heap.size w1 wr) k (hlt : k < l.length) => wayB_row hk hbr hlt hp)
    subst hp
    have x0 := hk.st.cell (i := 0) rfl
    have Ho := Lib.hid ho
    clear hno hyes hb hk ho
    go_wp2
    go_loopw [7, 23] (fun xv i wr => Po2Rel l w1 xv i wr) (fun _ i _ => l.length - (intOf i).toNat)
    case atStart => exact ⟨0, rfl, Nat.zero_le _, rfl, Below.refl _ _⟩
    case round =>
      obtain ⟨k, rfl, hk, rfl, hb⟩ := hrel
      have Hbk := Lib.hid hb
      clear hb x0
      by_cases hlt : k < l.length
      · obtain ⟨g, rfl, c0, c1, c2, c3⟩ := Hrow.out wr Hbk.out k hlt
        have hok := okFs_at Ho.out hlt
        obtain ⟨⟨a0, a1, a2⟩, m0, m1⟩ := okF_iff.1 hok
        have hpb := pound_bd (n := n) (l := l) (j := k) (by omega) (by have := Ho.out; exact okFs_mk fun i hi => okFs_at this (by omega))
        have hob := one_bd (by omega) hok
        have hs : poundTo l (k + 1) = poundTo l k + (l.getD k fr0).m * ((l.getD k fr0).b - (l.getD k fr0).a) := rfl
        have Hs := Lib.hid hs
        change wr.cell? _ = some (.int .i64 (l.getD k fr0).a) at c0
        change wr.cell? _ = some (.int .i64 (l.getD k fr0).b) at c1
        change wr.cell? _ = some (.int .i64 (k : Int)) at c2
        change wr.cell? _ = some (.int .i64 (l.getD k fr0).m) at c3
        generalize (l.getD k fr0).a = xa at *
        generalize (l.getD k fr0).b = xb at *
        generalize (l.getD k fr0).m = xm at *
        generalize poundTo l k = y at *
        have hk0 : (0 : Int) ≤ (k : Int) := Int.natCast_nonneg _
        have hk1 : (k : Int) < (l.length : Int) := by omega
        have hw1 : IntKind.i64.wrap (xm * (xb - xa)) = xm * (xb - xa) := IntWalk.i64_in _ (by omega)
        have hw2 : IntKind.i64.wrap (y + xm * (xb - xa)) = y + xm * (xb - xa) := IntWalk.i64_in _ (by omega)
        have hsz := Hbk.out.size
        have Hb2 := Lib.hid (Hbk.out.alloc hsz (.cells #[.int .i64 xa, .int .i64 xb, .int .i64 k, .int .i64 xm] 93))
        have Hsz0 := Lib.hid (show (wr.alloc (.cells #[.int .i64 xa, .int .i64 xb, .int .i64 k, .int .i64 xm] 93)).heap.size = wr.heap.size + 1 by simp)
        have e0 : (wr.alloc (.cells #[.int .i64 xa, .int .i64 xb, .int .i64 k, .int .i64 xm] 93)).cell? ⟨wr.heap.size, 0, none⟩ = some (.int .i64 xa) := by go_simp
        have e1 : (wr.alloc (.cells #[.int .i64 xa, .int .i64 xb, .int .i64 k, .int .i64 xm] 93)).cell? ⟨wr.heap.size, 1, none⟩ = some (.int .i64 xb) := by go_simp
        have e3 : (wr.alloc (.cells #[.int .i64 xa, .int .i64 xb, .int .i64 k, .int .i64 xm] 93)).cell? ⟨wr.heap.size, 3, none⟩ = some (.int .i64 xm) := by go_simp
        clear hs hok
        go_wp2_with fail
        generalize wr.alloc (.cells #[.int .i64 xa, .int .i64 xb, .int .i64 k, .int .i64 xm] 93) = w0 at *
        have hwl : w0.heap.size = wr.heap.size + 1 := Hsz0.out
        go_region_held3 (fun w' => w'.cell? ⟨wr.heap.size, 0, none⟩ = some (.int .i64 xa) ∧ w'.cell? ⟨wr.heap.size, 1, none⟩ = some (.int .i64 xb) ∧ w'.cell? ⟨wr.heap.size, 3, none⟩ = some (.int .i64 xm)) (first | (go_keep; done) | (go_split_ands; refine ⟨keepCell hb1 ?_, keepCell hb1 ?_, keepCell hb1 ?_⟩ <;> first | assumption | (go_simp; done)))
          (first | (go_at_call 85; refine (length_any xa xb _ (by unfold W64; omega)).mono ?_; rintro e w1 ⟨rfl, hb1⟩))
        have Hb4 := Lib.hid (Hb2.out.drew.trans (hb1.mono Hb2.out.drew.size))
        go_wp2
        exact ⟨⟨k + 1, by go_num, hlt, by rw [Hs.out], Hb4.out⟩, by simp [intOf]; omega⟩
      · obtain rfl : k = l.length := by omega
        have HF := Lib.hid (Hb.out.trans (Hbk.out.mono Hb.out.size))
        go_wp2
        go_ret
        exact ⟨ret_int Hx.out.symm, HF.out⟩

theorem rows_apart {w : World} {B F : Nat} {u v : Value} {l : List Int} {xs : List Pk} (h : RowI w B u l) (k : OwnK w F v xs) : ∀ g, v.ownBlock = some g → u.ownBlock ≠ some g := fun g hv hu => by
  obtain ⟨_, h⟩ := h
  obtain ⟨_, k⟩ := k
  rcases h with ⟨rfl, _⟩ | ⟨g1, c1, cur1, rfl, _, e1, _⟩
  · cases hu
  · rcases k with ⟨rfl, _⟩ | ⟨g2, c2, cur2, rfl, _, e2, _⟩
    · cases hv
    · injection hu with hu
      injection hv with hv
      subst hu hv
      rw [e1] at e2
      injection e2 with e2
      injection e2 with _ e3
      revert e3
      decide
theorem OwnK.grow {wa w1 : World} {F : Nat} {v : Value} {l : List Pk} {ow : Option Nat} (h : OwnK wa F v l) (hg : wa.grownBy w1 ow) (hne : ∀ g, v.ownBlock = some g → ow ≠ some g) : OwnK w1 F v l := by
  obtain ⟨h1, h2⟩ := h
  refine ⟨h1, ?_⟩
  rcases h2 with h0 | ⟨g, cap, cur, rfl, hb, hh, r⟩
  · exact .inl h0
  · exact .inr ⟨g, cap, cur, rfl, hb, (hg.block g (Array.getElem?_eq_some_iff.1 hh).1 (fun e => hne g rfl e.symm)).trans hh, r⟩

def St2Rel (xs : List Pk) (F B : Nat) (v' : Value) (w1 : World) (u i : Value) (wr : World) : Prop :=
  ∃ k : Nat, i = .int .i64 k ∧ k ≤ xs.length ∧ RowI wr B u ((xs.take k).map Pk.i) ∧ OwnK wr F v' xs ∧ Below B w1 wr

set_option maxRecDepth 100000 in
set_option maxHeartbeats 2000000 in
theorem stack2_any (n : Int) (v : Value) (l : List Fr) (s : Int) (w : World) (hv : FrIn w v l) (hl : l.length ≤ 1048577) :
    Calls Try.prog 41 #[.int .i64 n, v, .int .i64 s] w (IntsOk (stackX n l s) (stackOk n l s) w) := by
  obtain ⟨i0, hi, hz0, hz1, hz2⟩ := info_parts Try.info3
  have Hc := Lib.hid (billOf_any n v l w hv hl)
  clear hv
  go_enter Try.func41, Try.ntmps41
  go_wp2_with fail
  refine Hc.out.mono ?_; rintro e w1 ⟨hb, hno, hyes⟩
  have Hb := Lib.hid hb
  have HNO := Lib.hid (show stackOk n l s = false → IntsOk (stackX n l s) (stackOk n l s) w (.returned (.tuple #[.slice (some ⟨w1.heap.size, 0, none⟩) 0 0, .bool false])) (w1.alloc (.cells #[] 3)) from fun h => by
    rw [stackX_no h, h]
    exact IntsOk.no Hb.out.size (by simp) (Hb.out.alloc Hb.out.size _))
  cases hz : validF n l with
  | false =>
    obtain rfl := hno hz
    have HF := Lib.hid (HNO.out (by unfold stackOk; rw [hz]; rfl))
    clear hno hyes hb
    go_wp2
    go_ret2
    exact HF.out
  | true =>
    obtain ⟨W, L, pv, rfl, hk⟩ := hyes hz
    by_cases q1 : s < 0
    · have HF := Lib.hid (HNO.out (by unfold stackOk; rw [decide_eq_false (by omega), Bool.false_and, Bool.and_false]))
      clear hno hyes hb
      go_wp2
      go_ret2
      exact HF.out
    · by_cases q2 : n < s
      · have HF := Lib.hid (HNO.out (by unfold stackOk; rw [show decide (s ≤ n) = false by simp only [decide_eq_false_iff_not]; omega, Bool.and_false, Bool.and_false]))
        clear hno hyes hb
        have d1 : ¬ s < 0 := q1
        go_wp2
        go_ret2
        exact HF.out
      · obtain ⟨S, rfl⟩ : ∃ S : Nat, s = S := ⟨s.toNat, by omega⟩
        have hh := headF_iff.1 (valid_head hz)
        have hok : stackOk n l (S : Int) = true := by unfold stackOk; rw [hz, decide_eq_true (by omega), decide_eq_true (by omega)]; rfl
        have hx : stackX n l (S : Int) = ((runF l (S + 1)).1.map (pkF l)).map Pk.i := by
          unfold stackX; rw [if_pos hok, Int.toNat_natCast, List.map_map]; rfl
        have hlen := run_len hh.2 (S + 1)
        have hlen2 : ((runF l (S + 1)).1.map (pkF l)).length = (runF l (S + 1)).1.length := by simp
        have hb0 : Below w1.heap.size w1 (w1.alloc (.cells #[] 3)) := (Below.refl _ _).alloc (Nat.le_refl _) _
        have hkb := hk.below hb0
        have Hc2 := Lib.hid (behind_any n W pv _ l S _ hkb.wb (valid_ok hz) hh.2 (by omega))
        have Hrow := Lib.hid (RowI.made w1 w1.heap.size (Nat.le_refl _))
        have Hb0 := Lib.hid hb0
        have Hx := Lib.hid hx
        have Hok := Lib.hid hok
        have d1 : ¬ (S : Int) < 0 := by omega
        have d2 : ¬ n < (S : Int) := q2
        clear hno hyes hb hk hx hok hb0 hkb HNO
        have hszA : (w1.alloc (.cells #[] 3)).heap.size = w1.heap.size + 1 := by simp
        go_wp2_with fail
        refine Hc2.out.mono ?_; rintro e w2 ⟨v', rfl, hst, hb2⟩
        rw [hszA] at hst hb2
        have hb3 : Below w1.heap.size w1 w2 := Hb0.out.trans (hb2.mono (by omega))
        have hrow2 : RowI w2 w1.heap.size (.slice (some ⟨w1.heap.size, 0, none⟩) 0 0) [] := Hrow.out.below (by rw [hszA]; exact hb2)
        obtain ⟨xs, hxs⟩ : ∃ xs, (runF l (S + 1)).1.map (pkF l) = xs := ⟨_, rfl⟩
        rw [hxs] at hst Hx hlen2
        obtain ⟨ad, c, hp⟩ := hst.own.slice
        have x0 := hst.st.cell (i := 0) rfl
        have hstl := hst.st.lt
        have Hown := Lib.hid hst.own
        have Hst0 := Lib.hid (show St2Rel xs (w1.heap.size + 1 + 1) w1.heap.size v' w1 (.slice (some ⟨w1.heap.size, 0, none⟩) 0 0) (.int .i64 (0 : Nat)) w2 from ⟨0, rfl, Nat.zero_le _, hrow2, hst.own, hb3⟩)
        have Hb3 := Lib.hid hb3
        subst hp
        clear hst hb2 hb3 hrow2 hxs Hrow Hb0
        rw [hszA]
        go_wp2
        go_loopw [10, 39] (fun u i wr => St2Rel xs (w1.heap.size + 1 + 1) w1.heap.size (.slice ad xs.length c) w1 u i wr) (fun _ i _ => xs.length - (intOf i).toNat)
        case atStart => exact Hst0.out
        case round =>
          clear Hst0 x0
          obtain ⟨k, rfl, hk, hrow, hxo, hbr⟩ := hrel
          have Hbr := Lib.hid hbr
          by_cases hlt : k < xs.length
          · obtain ⟨g, cap2, e, hr⟩ := hxo.row (by omega)
            injection e with e1 e2 e3
            subst e1 e3
            obtain ⟨c0, c1, c2, c3⟩ := hr.cells (i := k) hlt
            have hsz := hbr.size
            have hown := hrow
            unfold RowI at hown
            have hlk : ((xs.take k).map Pk.i).length = k := by simp; omega
            rw [hlk] at hown
            have hsn : (xs.take (k + 1)).map Pk.i = (xs.take k).map Pk.i ++ [(xs.getD k pk0).i] := by
              rw [List.take_succ_eq_append_getElem hlt, List.map_append, List.map_singleton]; congr 2; simp [List.getD, hlt]
            have Hsn := Lib.hid hsn
            have Hap := Lib.hid (rows_apart hrow hxo)
            have Hxo := Lib.hid hxo
            have hk0 : (0 : Int) ≤ (k : Int) := Int.natCast_nonneg _
            have hk1 : (k : Int) < (xs.length : Int) := by omega
            have hk2 : k ≤ 1000 := by omega
            clear hrow hxo hr hsn e2 hbr
            generalize (xs.getD k pk0).a = p0 at *
            generalize (xs.getD k pk0).b = p1 at *
            generalize (xs.getD k pk0).i = p2 at *
            generalize (xs.getD k pk0).m = p3 at *
            go_wp2_with (at_builtin; refine wpList_append_own _ rfl _ _ 29 rfl w1.heap.size 3 i0 (.int .i64 0) 1 8 Try.underlying29 hi hz0 hz1 hz2 rfl (by decide) _ _ _ rfl ((hown.alloc _).alloc _) ⟨wr.heap.size + 1, 0, none⟩ 1 1 [.int .i64 p2] rfl rfl (by have h := cell_one_new (wr.alloc (.cells #[.int .i64 p0, .int .i64 p1, .int .i64 p2, .int .i64 p3] 93)) (.int .i64 p2) 3; simpa using h) (by simp [Value.oneCell']) (by simp only [maxLen]; omega) (by omega) (by simp; omega) ?_; intro v8 w8 hown8 hgrow _)
            have HX8 := Lib.hid (((Hxo.out.below ((Below.refl _ _).alloc (Nat.le_refl _) (.cells #[.int .i64 p0, .int .i64 p1, .int .i64 p2, .int .i64 p3] 93))).below ((Below.refl _ _).alloc (Nat.le_refl _) (.cells #[.int .i64 p2] 3))).grow hgrow Hap.out)
            have HB8 := Lib.hid (((Hbr.out.alloc (by omega) (.cells #[.int .i64 p0, .int .i64 p1, .int .i64 p2, .int .i64 p3] 93)).alloc (by simp; omega) (.cells #[.int .i64 p2] 3)).grown hgrow (by simp; omega) (fun j hj => (hown.lt j hj).1))
            have HR8 := Lib.hid (show RowI w8 w1.heap.size v8 ((xs.take (k + 1)).map Pk.i) by
              rw [Hsn.out]; exact RowI.snoc (by rw [hlk]; exact hown8))
            clear hown8 hgrow hown
            go_wp2
            exact ⟨⟨k + 1, by go_num, hlt, HR8.out, HX8.out, HB8.out⟩, by simp [intOf]; omega⟩
          · obtain rfl : k = xs.length := by omega
            rw [List.take_length] at hrow
            have HF := Lib.hid (fun u (h : RowI wr w1.heap.size u (xs.map Pk.i)) => IntsOk.row (w := w) true h Hb.out.size (Hb.out.trans (Hbr.out.mono Hb.out.size)))
            have HR := Lib.hid hrow
            clear hrow hxo hbr
            go_wp2
            go_ret2
            rw [Hx.out, Hok.out]
            exact HF.out _ HR.out

end Go.Proofs.Ytmdcpigobfhckaa
