/- The model's l9Run. -/
import Derived.Test.YtmdcpigobfhckaaFF
import Derived.Test.YtmdcpigobfhckaaIO
import Derived.Test.YtmdcpigobfhckaaAP
import Derived.Test.YtmdcpigobfhckaaHD
import Derived.Test.YtmdcpigobfhckaaI
import Derived.Test.YtmdcpigobfhckaaQW
namespace Go.Proofs.Ytmdcpigobfhckaa
open Go.RowKit
set_option linter.unusedVariables false
set_option linter.unusedSimpArgs false

def castS (st : List Nat) : List Int := st.map fun (i : Nat) => (i : Int)
theorem castS_len (st : List Nat) : (castS st).length = st.length := by simp [castS]
theorem RowI.mono {w : World} {B C : Nat} {v : Value} {l : List Int} (h : RowI w B v l) (hC : C ≤ B) : RowI w C v l := by
  obtain ⟨h1, h2⟩ := h
  refine ⟨h1, ?_⟩
  rcases h2 with h0 | ⟨g, cap, cur, rfl, hg, r⟩
  · exact .inl h0
  · exact .inr ⟨g, cap, cur, rfl, by omega, r⟩

/-- The address behind the first f numbers of a slice, as s[f:] has it. -/
def tailI (b cap f : Nat) : Addr := if cap = f then ⟨b, 0, none⟩ else ⟨b, f, none⟩
theorem tailI_is (b n cap f : Nat) : sliced (some ⟨b, 0, none⟩) f n cap 1 = .slice (some (tailI b cap f)) (n - f) (cap - f) := by
  unfold sliced tailI
  by_cases h : cap = f
  · rw [if_pos h, if_pos h]
  · rw [if_neg h, if_neg h]
    simp only [Nat.mul_one, Option.map_some, addr_add0]
theorem headI_is (b cap f : Nat) : sliced (some ⟨b, 0, none⟩) 0 f cap 1 = .slice (some ⟨b, 0, none⟩) f cap := by
  unfold sliced
  split <;> simp [Addr.add]
theorem valsI_one (l : List Int) : ∀ u ∈ l.map (Value.int .i64), u.oneCell' = true := fun u hu => by
  rw [List.mem_map] at hu
  obtain ⟨x, _, rfl⟩ := hu
  rfl
theorem headI_news {w : World} {b B : Nat} {l : List Int} (h : IntAt w b 0 l) (hb : b < B) {k : Nat} (hk : k ≤ l.length) : ∀ w', Below B w w' → ∀ j u, ((l.take k).map (Value.int .i64))[j]? = some u → w'.cell? ((⟨b, 0, none⟩ : Addr).add j) = some u := fun w' hbe j u hj => by
  rw [addr_add0, hbe.cell (p := ⟨b, j, none⟩) hb]
  have hj2 : j < k := by
    rcases Nat.lt_or_ge j k with h | h
    · exact h
    · rw [List.getElem?_eq_none (by simp; omega)] at hj; cases hj
  have h0 := h j (by omega)
  rw [Nat.zero_add] at h0
  rw [h0]
  simp only [List.getElem?_map, List.getElem?_take, if_pos hj2] at hj
  rw [List.getElem?_eq_getElem (by omega)] at hj
  simp only [Option.map_some] at hj
  rw [← hj]; simp [List.getD, show j < l.length by omega]
theorem tailI_news {w : World} {b B cap : Nat} {l : List Int} (h : IntAt w b 0 l) (hb : b < B) (hc : l.length ≤ cap) {f : Nat} (hf : f ≤ l.length) : ∀ w', Below B w w' → ∀ j u, ((l.drop f).map (Value.int .i64))[j]? = some u → w'.cell? ((tailI b cap f).add j) = some u := fun w' hbe j u hj => by
  by_cases e : cap = f
  · rw [List.drop_eq_nil_of_le (by omega)] at hj; simp at hj
  · unfold tailI
    rw [if_neg e]
    have e2 : ((⟨b, f, none⟩ : Addr).add j) = ⟨b, f + j, none⟩ := by
      unfold Addr.add
      split
      · rename_i h; subst h; rfl
      · simp
    rw [e2, hbe.cell (p := ⟨b, f + j, none⟩) hb]
    have hj2 : f + j < l.length := by
      rcases Nat.lt_or_ge (f + j) l.length with h | h
      · exact h
      · rw [List.getElem?_eq_none (by simp; omega)] at hj; cases hj
    have h0 := h (f + j) hj2
    rw [Nat.zero_add] at h0
    rw [h0]
    simp only [List.getElem?_map, List.getElem?_drop] at hj
    rw [List.getElem?_eq_getElem hj2] at hj
    simp only [Option.map_some] at hj
    rw [← hj]; simp [List.getD, hj2]

def R9aRel (l : List Fr) (S B : Nat) (w : World) (u m i : Value) (wr : World) : Prop :=
  ∃ s : Nat, i = .int .i64 s ∧ s ≤ S ∧ m = .int .i64 ((runF l s).2 : Nat) ∧ RowI wr B u (castS (runF l s).1) ∧ Below B w wr
def R9bRel (l : List Fr) (s B : Nat) (x : List Nat × Nat) (w : World) (u m i : Value) (wr : World) : Prop :=
  ∃ k : Nat, i = .int .i64 k ∧ k ≤ l.length ∧ (m = .int .i64 ((outsF l s k x).2 : Nat) ∧ RowI wr B u (castS (outsF l s k x).1)) ∧ Below B w wr
def R9cRel (p : Nat) (w : World) (i : Value) (wr : World) : Prop := ∃ a : Nat, i = .int .i64 a ∧ a ≤ p ∧ wr = w
def R9dRel (l : List Fr) (s B : Nat) (y : List Nat) (w : World) (u i : Value) (wr : World) : Prop :=
  ∃ k : Nat, i = .int .i64 k ∧ k ≤ l.length ∧ RowI wr B u (castS (putsF l s k y)) ∧ Below B w wr

def Run9Out (l : List Fr) (s : Nat) (w : World) (e : Ending) (w' : World) : Prop :=
  ∃ u, e = .returned (.tuple #[u, .int .i64 ((runF l s).2 : Nat)]) ∧ RowI w' w.heap.size u (castS (runF l s).1) ∧ Below w.heap.size w w'

set_option maxRecDepth 100000 in
set_option maxHeartbeats 8000000 in
theorem run1_any (n : Int) (v : Value) (l : List Fr) (S : Nat) (w : World) (hv : FrIn w v l) (ho : okFs n l l.length = true) (hl : l.length ≤ 12) (hS : S ≤ 7) :
    Calls Try.prog 78 #[v, .int .i64 S] w (Run9Out l (S + 1) w) := by
  obtain ⟨i0, hi0, hz0, hz1, hz2⟩ := info_parts Try.info3
  obtain ⟨a, cap0, rfl, _, ha⟩ := hv
  have Ha := Lib.hid ha; clear ha
  have Ho := Lib.hid ho; clear ho
  have hS0 : (0 : Int) ≤ (S : Int) := Int.natCast_nonneg _
  go_enter Try.func78, Try.ntmps78
  go_wp2
  go_loopw [6, 7, 8] (fun u m i wr => R9aRel l (S + 1) w.heap.size w u m i wr) (fun _ _ i _ => S + 1 - (intOf i).toNat)
  case atStart => exact ⟨0, rfl, Nat.zero_le _, rfl, RowI.made w _ (Nat.le_refl _), (Below.refl _ _).alloc (Nat.le_refl _) _⟩
  case round =>
    obtain ⟨s, rfl, hs, rfl, hrow, hb⟩ := hrel
    have Hrow0 := Lib.hid hrow
    have Hb0 := Lib.hid hb
    clear hrow hb
    have hs0 : (0 : Int) ≤ (s : Int) := Int.natCast_nonneg _
    by_cases hlt : s < S + 1
    · have hsi : (s : Int) ≤ (S : Int) := by omega
      have hrl := run_len hl s
      have hrm := run_mv hl s (by omega)
      have Hi := Lib.hid (fun k (hk : k ≤ l.length) => outs_inv Ho.out (run_inv Ho.out s) hk)
      have Hnx := Lib.hid (show runF l (s + 1) = stopF l s (runF l s) from rfl)
      generalize runF l s = x at *
      go_wp2
      go_loopw [6, 7, 9] (fun u m i wr => R9bRel l s w.heap.size x w u m i wr) (fun _ _ i _ => l.length - (intOf i).toNat)
      case atStart => exact ⟨0, rfl, Nat.zero_le _, ⟨rfl, Hrow0.out⟩, Hb0.out⟩
      case round =>
        clear Hrow0 Hb0
        obtain ⟨k, rfl, hk, ⟨rfl, hrow⟩, hb⟩ := hrel
        have Hrow1 := Lib.hid hrow
        have Hb := Lib.hid hb
        clear hrow hb
        have hk0 : (0 : Int) ≤ (k : Int) := Int.natCast_nonneg _
        by_cases hlt : k < l.length
        · obtain ⟨bb, oo, rfl, hb0, hrw⟩ := Ha.out (by intro h; simp [h] at hlt)
          obtain ⟨c0, c1, c2⟩ := (hrw.below Hb.out hb0) k hlt
          have hki : (k : Int) < (l.length : Int) := by omega
          clear hrw
          by_cases q0 : (l.getD k fr0).b = (s : Int)
          · have hst1 : outsF l s (k + 1) x = ((outsF l s k x).1.erase k, (outsF l s k x).2 + ((outsF l s k x).1.length - 1 - (outsF l s k x).1.idxOf k)) := by simp only [outsF]; rw [if_pos q0]
            have hin := Hi.out k hk
            obtain ⟨pre, post, hsp, hp, hq, her, hln, _⟩ := split_at hin.nd (hin.has Ho.out hlt q0)
            have hol := outs_len (l := l) (s := s) (x := x) k
            have hmv := outs_mv (l := l) (s := s) (x := x) k
            have hmv2 : k * x.1.length ≤ 12 * 96 := mul_bd (by omega) (by omega)
            rw [hsp, List.length_append, List.length_cons] at hol
            rw [her, hln] at hst1
            rw [hsp] at Hrow1
            have Hst1 := Lib.hid hst1
            obtain ⟨ad, cap, rfl, hcap, hown, hin2⟩ := Hrow1.out.row
            rw [castS_len, List.length_append, List.length_cons] at hcap
            obtain ⟨b, rfl, hbl, hat, _⟩ := hown (by simp [castS])
            have hat2 : ∀ i, i < pre.length + (post.length + 1) → wr.cell? ⟨b, i, none⟩ = some (.int .i64 ((pre ++ k :: post).getD i 0 : Nat)) := fun i hi => by
              have h0 := hat i (by rw [castS_len]; simpa using hi)
              rw [Nat.zero_add] at h0
              rw [h0]
              have hi2 : i < (pre ++ k :: post).length := by simpa using hi
              simp only [castS, List.getD, List.getElem?_map, List.getElem?_eq_getElem hi2]; rfl
            have Hat2 := Lib.hid hat2
            have Hpre := Lib.hid (show ∀ i, i < pre.length → ((pre ++ k :: post).getD i 0 : Nat) ≠ k from fun i hi => by
              have : (pre ++ k :: post).getD i 0 = pre[i] := by simp [List.getD, List.getElem?_append, hi]
              rw [this]; exact fun e => hp (e ▸ List.getElem_mem hi))
            have Hk := Lib.hid (show ((pre ++ k :: post).getD pre.length 0 : Nat) = k by simp [List.getD])
            obtain ⟨p, hpp⟩ : ∃ p, pre.length = p := ⟨_, rfl⟩
            obtain ⟨q, hqq⟩ : ∃ q, post.length = q := ⟨_, rfl⟩
            obtain ⟨xp, hxp⟩ : ∃ xp, (castS pre).map (Value.int .i64) = xp := ⟨_, rfl⟩
            obtain ⟨xq, hxq⟩ : ∃ xq, (castS post).map (Value.int .i64) = xq := ⟨_, rfl⟩
            have htk : (castS (pre ++ k :: post)).take p = castS pre := by unfold castS; rw [← List.map_take, ← hpp, List.take_left]
            have hdr : (castS (pre ++ k :: post)).drop (p + 1) = castS post := by unfold castS; rw [← List.map_drop, ← hpp, ← List.drop_drop, List.drop_left]; rfl
            have hlc : (castS (pre ++ k :: post)).length = p + (q + 1) := by rw [castS_len, List.length_append, List.length_cons, hpp, hqq]
            have Hlp := Lib.hid (show xp.length = p by rw [← hxp, List.length_map, castS_len, hpp])
            have Hlq := Lib.hid (show xq.length = q by rw [← hxq, List.length_map, castS_len, hqq])
            have H1p := Lib.hid (show ∀ u ∈ xp, u.oneCell' = true by rw [← hxp]; exact valsI_one _)
            have H1q := Lib.hid (show ∀ u ∈ xq, u.oneCell' = true by rw [← hxq]; exact valsI_one _)
            have Hna := Lib.hid (fun w' hb => by have h := headI_news hat hbl (k := p) (by omega) w' hb; rw [htk, hxp] at h; exact h)
            have Hnb := Lib.hid (fun w' hb => by have h := tailI_news (cap := cap) hat hbl (by rw [hlc, ← hpp, ← hqq]; exact hcap) (f := p + 1) (by omega) w' hb; rw [hdr, hxq] at h; exact h)
            have Hmv := Lib.hid (show ∀ u wz, RowI wz wr.heap.size u (castS (pre ++ post)) → (Value.int .i64 (((outsF l s k x).2 : Int) + ((p : Int) + ((q : Int) + 1)) - 1 - (p : Int)) = .int .i64 ((outsF l s (k + 1) x).2 : Nat) ∧ RowI wz w.heap.size u (castS (outsF l s (k + 1) x).1)) from fun u wz h => by
              rw [Hst1.out]
              exact ⟨by rw [hqq]; congr 1; simp only; omega, h.mono Hb.out.size⟩)
            rw [hpp, hqq] at hol hcap
            rw [hpp] at Hpre Hk
            rw [hpp, hqq] at Hat2
            have hrw9 := Hst1.out
            obtain ⟨mv, hmvv⟩ : ∃ mv, (outsF l s k x).2 = mv := ⟨_, rfl⟩
            rw [hmvv] at Hmv hmv ⊢
            have hmvb : mv ≤ 100000 := by omega
            have Hrow := Lib.hid (show ∀ v w', (∀ v' n' xs', some (v, 0 + p + q, [] ++ xp ++ xq) = some (v', n', xs') → w'.ownsRow wr.heap.size 3 1 v' n' xs') → RowI w' wr.heap.size v (castS (pre ++ post)) from fun v w' h => by
              have h1 := h _ _ _ rfl
              rw [Nat.zero_add, List.nil_append, ← hxp, ← hxq] at h1
              unfold RowI
              rw [castS_len, List.length_append, hpp, hqq]
              unfold castS at h1 ⊢
              rw [List.map_append, List.map_append]
              exact h1)
            have Hst2 := Lib.hid (castS_len (pre ++ k :: post))
            have hlst : (castS (pre ++ k :: post)).length = p + (q + 1) := hlc
            rw [hlst]
            generalize (pre ++ post) = st' at *
            clear hst1 hin hsp hp hq her hln hmv2 hown hin2 hat hat2 htk hdr hlc hxp hxq hpp hqq Hst1 hrw9 hmvv Hst2 hlst Hrow1
            generalize (pre ++ k :: post) = st at *
            generalize (l.getD k fr0).a = xa at *
            generalize (l.getD k fr0).m = xm at *
            rw [q0] at c1
            have hd : ((s : Int) != (s : Int)) = false := by simp
            have hq0 : (0 : Int) ≤ (q : Int) := Int.natCast_nonneg _
            have hp0 : (0 : Int) ≤ (p : Int) := Int.natCast_nonneg _
            have hcapI : (p : Int) + ((q : Int) + 1) ≤ (cap : Int) := by omega
            clear q0
            go_wp2
            go_loopw [10] (fun i wr' => R9cRel p wr i wr') (fun i _ => p + 1 - (intOf i).toNat)
            case atStart => exact ⟨0, rfl, Nat.zero_le _, rfl⟩
            case round =>
              obtain ⟨e, rfl, hep, rfl⟩ := hrel
              have y0 := Hat2.out e (by omega)
              have he0 : (0 : Int) ≤ (e : Int) := Int.natCast_nonneg _
              have hei : (e : Int) < (p : Int) + ((q : Int) + 1) := by omega
              by_cases hlt2 : e < p
              · have hne := Hpre.out e hlt2
                have hneb : (((st.getD e 0 : Nat) : Int) != (k : Int)) = true := by simpa using (by omega : ¬ ((st.getD e 0 : Nat) : Int) = (k : Int))
                generalize (st.getD e 0 : Nat) = z at *
                go_wp2
                exact ⟨⟨e + 1, by go_num, by omega, rfl⟩, by simp [intOf]; omega⟩
              · obtain rfl : p = e := by omega
                rw [Hk.out] at y0
                have hkb : ((k : Int) != (k : Int)) = false := by simp
                have HK0 := Lib.hid (Mk.start wr.drew wr.heap.size 3 1 (Nat.le_refl _))
                have Hbw := Lib.hid (Hb.out.drew)
                have Hna := Lib.hid (fun w' (h : Below wr.heap.size wr.drew w') => Hna.out w' ((Below.refl _ wr).drew.trans h))
                have Hnb := Lib.hid (fun w' (h : Below wr.heap.size wr.drew w') => Hnb.out w' ((Below.refl _ wr).drew.trans h))
                have hsa : ∀ wx, (Instr.slice 29 (.slice (some ⟨b, 0, none⟩) (p + (q + 1)) cap) none (some (.int .i64 (p : Int))) none).run Try.prog wx = .ok (.slice (some ⟨b, 0, none⟩) p cap) wx := fun wx => by
                  rw [run_slice_h wx 29 (some ⟨b, 0, none⟩) (p + (q + 1)) cap rfl .i64 (p : Int) (by omega) (by omega), ← headI_is]; rfl
                have hsb : ∀ wx, (Instr.slice 29 (.slice (some ⟨b, 0, none⟩) (p + (q + 1)) cap) (some (.int .i64 ((p : Int) + 1))) none none).run Try.prog wx = .ok (.slice (some (tailI b cap (p + 1))) q (cap - (p + 1))) wx := fun wx => by
                  rw [run_slice_l wx 29 (some ⟨b, 0, none⟩) (p + (q + 1)) cap rfl .i64 ((p : Int) + 1) (by omega) (by omega)]
                  have := tailI_is b (p + (q + 1)) cap (p + 1)
                  rw [show p + (q + 1) - (p + 1) = q by omega] at this
                  rw [← this]; rfl
                have hwr : IntKind.i64.wrap ((p : Int) + 1) = (p : Int) + 1 := IntWalk.i64_in _ (by omega)
                generalize tailI b cap (p + 1) = at_ at *
                go_wp2
                refine wp_region_any (by kernel_rfl) ?_
                change wpAny _ _ _ _ 11 #[false, false, false, false, false, false, false, false, false, false, false] _ (World.drew _)
                refine with_Q (fun _ _ _ _ _ h => h) (fun Q hQ hN => ?_)
                generalize World.drew (wr) = w0 at *
                refine take_op (i := 1) (d := 47) (v := .slice (some ⟨b, 0, none⟩) (p + (q + 1)) cap) rfl rfl (by kernel_rfl) (by kernel_rfl) (by kernel_rfl) hQ (Or.inl ⟨by rfl, fun _ => by first | rfl | (go_simp; done) | (go_simp; rfl)⟩) ?_
                simp only [Act.put, List.setIfInBounds_toArray, List.set_cons_zero, List.set_cons_succ]
                refine take_op (i := 2) (d := 48) (v := .int .i64 (p : Nat)) rfl rfl (by kernel_rfl) (by kernel_rfl) (by kernel_rfl) hQ (Or.inl ⟨by rfl, fun _ => by first | rfl | (go_simp; done) | (go_simp; rfl)⟩) ?_
                simp only [Act.put, List.setIfInBounds_toArray, List.set_cons_zero, List.set_cons_succ]
                refine take_op (i := 3) (d := 49) (v := .slice (some ⟨b, 0, none⟩) p cap) rfl rfl (by kernel_rfl) (by kernel_rfl) (by kernel_rfl) hQ (Or.inl ⟨by rfl, fun _ => by first | rfl | (go_simp; done) | (go_simp; rfl)⟩) ?_
                simp only [Act.put, List.setIfInBounds_toArray, List.set_cons_zero, List.set_cons_succ]
                refine take_op (i := 5) (d := 51) (v := .slice (some ⟨b, 0, none⟩) (p + (q + 1)) cap) rfl rfl (by kernel_rfl) (by kernel_rfl) (by kernel_rfl) hQ (Or.inl ⟨by rfl, fun _ => by first | rfl | (go_simp; done) | (go_simp; rfl)⟩) ?_
                simp only [Act.put, List.setIfInBounds_toArray, List.set_cons_zero, List.set_cons_succ]
                refine take_op (i := 6) (d := 52) (v := .int .i64 (p : Nat)) rfl rfl (by kernel_rfl) (by kernel_rfl) (by kernel_rfl) hQ (Or.inl ⟨by rfl, fun _ => by first | rfl | (go_simp; done) | (go_simp; rfl)⟩) ?_
                simp only [Act.put, List.setIfInBounds_toArray, List.set_cons_zero, List.set_cons_succ]
                refine take_op (i := 7) (d := 53) (v := .int .i64 ((p : Int) + 1)) rfl rfl (by kernel_rfl) (by kernel_rfl) (by kernel_rfl) hQ (Or.inl ⟨by rfl, fun _ => by first | rfl | (go_simp; done) | (go_simp; rfl)⟩) ?_
                simp only [Act.put, List.setIfInBounds_toArray, List.set_cons_zero, List.set_cons_succ]
                refine take_op (i := 8) (d := 54) (v := .slice (some at_) q (cap - (p + 1))) rfl rfl (by kernel_rfl) (by kernel_rfl) (by kernel_rfl) hQ (Or.inl ⟨by rfl, fun _ => by first | rfl | (go_simp; done) | (go_simp; rfl)⟩) ?_
                simp only [Act.put, List.setIfInBounds_toArray, List.set_cons_zero, List.set_cons_succ]
                refine wpAny_ready (rs := [0]) (by kernel_rfl) (by simp) ?_
                refine AllReady.cons rfl (fun K hK => ?_) AllReady.nil
                go_simp
                refine hK _ _ ?_
                try simp only [Act.put, List.setIfInBounds_toArray, List.set_cons_zero, List.set_cons_succ]
                have hk1 := Mk.zero HK0.out
                generalize World.alloc w0 (.cells #[] 3) = wz1 at *
                clear hK K
                refine wpAny_ready (rs := [4]) (by kernel_rfl) (by simp) ?_
                refine AllReady.cons rfl (fun K hK => ?_) AllReady.nil
                refine step_app hk1 (by rfl) _ _ 29 (by rfl) i0 _ 8 Try.underlying29 hi0 hz0 hz1 hz2 rfl (by omega) (by rfl) ⟨b, 0, none⟩ p cap xp (by rfl) (by rw [Hlp.out]; omega) (Hna.out _ hk1.bel) (H1p.out) (by simp only [maxLen]; omega) (by omega) ?_
                intro va2 wz2 hk2 hn2
                change K (Act.put _ (some 50) va2) wz2
                refine hK _ _ ?_
                try simp only [Act.put, List.setIfInBounds_toArray, List.set_cons_zero, List.set_cons_succ]
                clear hK K
                refine wpAny_ready (rs := [9]) (by kernel_rfl) (by simp) ?_
                refine AllReady.cons rfl (fun K hK => ?_) AllReady.nil
                refine step_app hk2 (by rfl) _ _ 29 (by rfl) i0 _ 8 Try.underlying29 hi0 hz0 hz1 hz2 rfl (by omega) (by rfl) at_ q (cap - (p + 1)) xq (by rfl) (by rw [Hlq.out]; omega) (Hnb.out _ hk2.bel) (H1q.out) (by simp only [maxLen]; omega) (by omega) ?_
                intro va3 wz3 hk3 hn3
                change K (Act.put _ (some 55) va3) wz3
                refine hK _ _ ?_
                try simp only [Act.put, List.setIfInBounds_toArray, List.set_cons_zero, List.set_cons_succ]
                clear hK K
                refine take_op (i := 10) (d := 6) (v := va3) rfl rfl (by kernel_rfl) (by kernel_rfl) (by kernel_rfl) hQ (Or.inl ⟨by rfl, fun _ => by first | rfl | (go_simp; done) | (go_simp; rfl)⟩) ?_
                simp only [Act.put, List.setIfInBounds_toArray, List.set_cons_zero, List.set_cons_succ]
                refine wpAny_done (by kernel_rfl) (hN _ _ ?_) _
                have HF := Lib.hid (Hrow.out _ _ hk3.own)
                have HB2 := Lib.hid (Hbw.out.trans (hk3.bel.mono Hb.out.size))
                go_wp2
                exact ⟨⟨k + 1, by go_num, hlt, Hmv.out _ _ HF.out, HB2.out⟩, by simp [intOf]; omega⟩
          · have hst1 : outsF l s (k + 1) x = outsF l s k x := by simp only [outsF]; rw [if_neg q0]
            have Hst1 := Lib.hid hst1
            have hd : ((l.getD k fr0).b != (s : Int)) = true := by simpa using q0
            clear hst1 q0
            generalize (l.getD k fr0).a = xa at *
            generalize (l.getD k fr0).b = xb at *
            generalize (l.getD k fr0).m = xm at *
            go_wp2
            exact ⟨⟨k + 1, by go_num, hlt, ⟨by rw [Hst1.out], by rw [Hst1.out]; exact Hrow1.out⟩, Hb.out⟩, by simp [intOf]; omega⟩
        · obtain rfl : k = l.length := by omega
          obtain ⟨y, hy⟩ : ∃ y, outsF l s l.length x = y := ⟨_, rfl⟩
          have hyl : y.1.length ≤ 96 := by
            have := outs_len (l := l) (s := s) (x := x) l.length
            rw [hy] at this; omega
          have Hy := Lib.hid (show runF l (s + 1) = (putsF l s l.length y.1, y.2) by rw [Hnx.out]; unfold stopF; rw [hy])
          rw [hy] at Hrow1 ⊢
          clear hy Hi Hnx
          go_wp2
          go_loopw [6, 11] (fun u i wr => R9dRel l s w.heap.size y.1 w u i wr) (fun _ i _ => l.length - (intOf i).toNat)
          case atStart => exact ⟨0, rfl, Nat.zero_le _, Hrow1.out, Hb.out⟩
          case round =>
            clear Hrow1 Hb
            obtain ⟨k, rfl, hk, hrow, hb⟩ := hrel
            have Hrow2 := Lib.hid hrow
            have Hb := Lib.hid hb
            clear hrow hb
            have hk0 : (0 : Int) ≤ (k : Int) := Int.natCast_nonneg _
            by_cases hlt : k < l.length
            · obtain ⟨bb, oo, rfl, hb0, hrw⟩ := Ha.out (by intro h; simp [h] at hlt)
              obtain ⟨c0, c1, c2⟩ := (hrw.below Hb.out hb0) k hlt
              have hki : (k : Int) < (l.length : Int) := by omega
              have hsz := Hb.out.size
              clear hrw
              by_cases q0 : (l.getD k fr0).a = (s : Int)
              · have Hst1 := Lib.hid (show putsF l s (k + 1) y.1 = putsF l s k y.1 ++ [k] by simp only [putsF]; rw [if_pos q0])
                have hpl := puts_len (l := l) (s := s) (st := y.1) k
                have hd : ((s : Int) == (s : Int)) = true := by simp
                have hown := Hrow2.out
                unfold RowI at hown
                obtain ⟨z, hz⟩ : ∃ z, (castS (putsF l s k y.1)).length = z := ⟨_, rfl⟩
                have hzl : z ≤ 200 := by rw [← hz, castS_len]; omega
                have Hz := Lib.hid hz
                rw [hz] at hown
                rw [q0] at c0
                generalize (l.getD k fr0).b = xb at *
                generalize (l.getD k fr0).m = xm at *
                clear q0 hz
                go_wp2_with (at_builtin; refine wpList_append_own _ rfl _ _ 29 rfl w.heap.size 3 i0 (.int .i64 0) 1 8 Try.underlying29 hi0 hz0 hz1 hz2 rfl (by decide) _ _ _ rfl (hown.alloc _) ⟨wr.heap.size, 0, none⟩ 1 1 [.int .i64 k] rfl rfl (cell_one_new _ _ _) (by simp [Value.oneCell']) (by simp only [maxLen]; omega) (by omega) (by simp; omega) ?_; intro v8 w8 hown8 hgrow _)
                have HB8 := Lib.hid ((Hb.out.alloc hsz (.cells #[.int .i64 k] 3)).grown hgrow (by simp; omega) (fun j hj => (hown.lt j hj).1))
                have HR8 := Lib.hid (show RowI w8 w.heap.size v8 (castS (putsF l s (k + 1) y.1)) by
                  rw [Hst1.out]
                  unfold castS
                  rw [List.map_append]
                  exact RowI.snoc (by have h := hown8; rw [← Hz.out] at h; exact h))
                clear hown8 hgrow hown
                go_wp2
                exact ⟨⟨k + 1, by go_num, hlt, HR8.out, HB8.out⟩, by simp [intOf]; omega⟩
              · have Hst1 := Lib.hid (show putsF l s (k + 1) y.1 = putsF l s k y.1 by simp only [putsF]; rw [if_neg q0])
                have hd : ((l.getD k fr0).a == (s : Int)) = false := by simpa using q0
                clear q0
                generalize (l.getD k fr0).a = xa at *
                generalize (l.getD k fr0).b = xb at *
                generalize (l.getD k fr0).m = xm at *
                go_wp2
                exact ⟨⟨k + 1, by go_num, hlt, by rw [Hst1.out]; exact Hrow2.out, Hb.out⟩, by simp [intOf]; omega⟩
            · obtain rfl : k = l.length := by omega
              have HRf := Lib.hid (show ∀ u, RowI wr w.heap.size u (castS (putsF l s l.length y.1)) → RowI wr w.heap.size u (castS (runF l (s + 1)).1) from fun u h => by rw [Hy.out]; exact h)
              have Hmf := Lib.hid (show (Value.int .i64 (y.2 : Nat)) = .int .i64 ((runF l (s + 1)).2 : Nat) by rw [Hy.out])
              go_wp2
              exact ⟨⟨s + 1, by go_num, by omega, Hmf.out, HRf.out _ Hrow2.out, Hb.out⟩, by simp [intOf]; omega⟩
    · obtain rfl : s = S + 1 := by omega
      have HF := Lib.hid (fun u (h : RowI wr w.heap.size u (castS (runF l (S + 1)).1)) => (show Run9Out l (S + 1) w (.returned (.tuple #[u, .int .i64 ((runF l (S + 1)).2 : Nat)])) wr from ⟨u, rfl, h, Hb0.out⟩))
      have hnn : ¬ (((S + 1 : Nat) : Int) ≤ (S : Int)) := by omega
      go_wp2
      go_ret2
      exact HF.out _ Hrow0.out

end Go.Proofs.Ytmdcpigobfhckaa
