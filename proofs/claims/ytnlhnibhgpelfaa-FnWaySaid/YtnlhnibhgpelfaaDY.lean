/- Draws: roads and a way (DrawWayLength). -/
import Derived.Test.YtnlhnibhgpelfaaDS
import Derived.Test.YtnlhnibhgpelfaaAH
import Derived.Test.YtnlhnibhgpelfaaAC
namespace Go.Proofs.Ytnlhnibhgpelfaa
open Go.RowKit

/-- What is drawn, for a law: roads and a way. -/
def DrawnWy (w : World) (e : Ending) (w' : World) : Prop :=
  ∃ (n : Int) (ad : Option Addr) (cap : Nat) (xs : List Rd) (u : Value) (way : List Int), e = .returned (.tuple #[.int .i64 n, .slice ad xs.length cap, u]) ∧ 2 ≤ n ∧ n ≤ 6 ∧ xs.length ≤ cap ∧ xs.length ≤ 11 ∧ RdB xs ∧ OwnRz w' ad xs ∧ IntsIn w' u way ∧ way.length ≤ 10 ∧ IntWf way ∧ Below w.heap.size w w'

def DyRel (g : Nat) (l : List Int) (w w0 : World) (ad : Option Addr) (xs : List Rd) (av v iv : Value) (wr : World) : Prop :=
  ∃ (i : Nat) (at_ : Int) (way : List Int) (p' : Nat), i ≤ 6 ∧ iv = .int .i64 i ∧ av = .int .i64 at_ ∧ -1000 ≤ at_ ∧ at_ ≤ 1000 ∧ way.length ≤ i + 1 ∧ IntWf way ∧ wr.ownsRow w0.heap.size 3 1 v way.length (way.map (Value.int .i64)) ∧ OwnRz wr ad xs ∧ (∀ j, inBlk ad j → w0.heap.size ≤ j ∧ j < wr.heap.size) ∧ Reader wr g l p' ∧ p' ≤ 300 + i ∧ Below w.heap.size w wr ∧ Touch (fun j => j = g) w0 wr ∧ ∀ j, inBlk ad j → v.ownBlock ≠ some j

theorem wf_snocI {l : List Int} {x : Int} (h : IntWf l) (hx : W64 x) : IntWf (l ++ [x]) := by
  intro y hy
  simp only [List.mem_append, List.mem_singleton] at hy
  rcases hy with hy | rfl
  · exact h y hy
  · exact hx
theorem own_grown {w w' : World} {B g k : Nat} {v : Value} {xs : List Value} (h : w.ownsRow B 3 1 v k xs) (hg : w.grownBy w' (some g)) (hB : g < B) : w'.ownsRow B 3 1 v k xs := by
  obtain ⟨h1, h2⟩ := h
  refine ⟨h1, ?_⟩
  rcases h2 with h0 | ⟨b, cap, cur, rfl, hb, hh, r⟩
  · exact .inl h0
  · exact .inr ⟨b, cap, cur, rfl, hb, (hg.block b (Array.getElem?_eq_some_iff.1 hh).1 (fun e => by injection e with e; omega)).trans hh, r⟩
theorem own_ins {w : World} {B : Nat} {v : Value} {xs : List Int} (h : w.ownsRow B 3 1 v xs.length (xs.map (Value.int .i64))) : IntsIn w v xs := by
  by_cases hx : xs = []
  · subst hx
    obtain ⟨_, h2⟩ := h
    rcases h2 with ⟨rfl, _⟩ | ⟨g, cap, cur, rfl, hg, hh, hc, _⟩
    · exact ⟨none, 0, rfl, Nat.le_refl _, fun h => absurd rfl h⟩
    · exact ⟨_, cap, rfl, Nat.zero_le _, fun h => absurd rfl h⟩
  · obtain ⟨g, cap, rfl⟩ : ∃ g cap, v = .slice (some ⟨g, 0, none⟩) xs.length cap := by
      obtain ⟨_, h2⟩ := h
      rcases h2 with ⟨rfl, h0⟩ | ⟨g, cap, cur, rfl, _⟩
      · exact absurd (List.eq_nil_of_length_eq_zero h0) hx
      · exact ⟨g, cap, rfl⟩
    obtain ⟨o1, o2, o3, o4⟩ := own_out h
    exact o4.ints o1

theorem OwnRz.grownBy {w w' : World} {ad : Option Addr} {l : List Rz} {row : Option Nat} (h : OwnRz w ad l) (hg : w.grownBy w' row) (hne : ∀ j, inBlk ad j → row ≠ some j) : OwnRz w' ad l :=
  h.touch (S := fun j => row = some j) ⟨hg.os, hg.tape, hg.output, hg.size, fun j hj hs => hg.block j hj (fun e => hs e.symm)⟩ hne
theorem OwnRz.alloc2 {w : World} {ad : Option Addr} {l : List Rz} (h : OwnRz w ad l) (a b : Obj) : OwnRz ((w.alloc a).alloc b) ad l :=
  h.below (((Below.refl w.heap.size w).alloc (Nat.le_refl _) a).alloc (by simp) b)

set_option maxRecDepth 100000 in
set_option maxHeartbeats 3000000 in
theorem drawWay_any (v : Value) (l : List Int) (w : World) (hv : BytesIn w v l) (hm : l.length ≤ 1048576) :
    Calls Try.prog 30 #[v] w (DrawnWy w) := by
  obtain ⟨i0, hi, hz0, hz1, hz2⟩ := info_parts Try.info3
  have Hv := Lib.hid hv; clear hv
  go_enter Try.func30, Try.ntmps30
  go_wp2_with fail
  refine (l6Open_any _ l _ Hv.out hm).mono ?_; rintro e w1 ⟨rfl, ⟨l', hr⟩, hb, hs⟩
  have HB1 := Lib.hid hb
  have hg1 : w.heap.size < w1.heap.size := by omega
  clear hs hb
  generalize hgg : w.heap.size = g at *
  have Hgg := Lib.hid hgg; clear hgg
  go_wp2_with fail
  refine (roads91_any g l' 0 _ hr (by omega)).mono ?_; rintro e w2 ⟨n, ad, cap, xs, p1, rfl, hn2, hn6, hcap, h11, hbd, hown, hblk, hr1, hp1, ht1, _⟩
  have Hr1 := Lib.hid hr1; have HT1 := Lib.hid ht1; have HO := Lib.hid hown; have HB := Lib.hid hblk; have Hbd := Lib.hid hbd; have Hcap := Lib.hid hcap
  clear hr1 ht1 hown hblk hbd hcap hr
  have Hkeep := Lib.hid (show ∀ w2', Touch (fun j => j = g) w2 w2' → OwnRz w2' ad xs ∧ ∀ j, inBlk ad j → w1.heap.size ≤ j ∧ j < w2'.heap.size from fun w2' ht => ⟨HO.out.touch ht (fun j hj e => by have := (HB.out j hj).1; omega), fun j hj => ⟨(HB.out j hj).1, Nat.lt_of_lt_of_le (HB.out j hj).2 ht.size⟩⟩)
  go_wp2_with fail
  refine (town91_any g l' p1 n _ Hr1.out (by omega) hn2 hn6).mono ?_; rintro e w3 ⟨x, p3, rfl, hx0, hx1, hr3, hp3, ht3⟩
  have hs3 : w1.heap.size ≤ w3.heap.size := Nat.le_trans HT1.out.size ht3.size
  have ha3 : Below w3.heap.size w3 (w3.alloc (.cells #[.int .i64 x] 3)) := (Below.refl _ _).alloc (Nat.le_refl _) _
  have HK3 := Lib.hid (Hkeep.out _ (ht3.belowB (ha3.mono ht3.size)))
  have HK3x := Lib.hid (show ∀ j, inBlk ad j → j < w3.heap.size from fun j hj => (Hkeep.out _ ht3).2 j hj |>.2)
  have HT3 := Lib.hid (HT1.out.trans (ht3.belowB (ha3.mono ht3.size)))
  have HR3 := Lib.hid (hr3.belowB ha3 hr3.lt)
  have HW3 := Lib.hid (own_one w3 w1.heap.size x hs3)
  clear hr3 ht3 ha3
  go_wp2_with fail
  refine (pick_any g l' p3 6 _ HR3.out (by omega) (by omega)).mono ?_; rintro e w4 ⟨⟨k, rfl, hk0, hk1⟩, hr4, hg4⟩
  have hk6 : k < 6 := by omega
  have ht4 := Touch.grown (S := fun j => j = g) hg4 rfl
  have HK4 := Lib.hid (show OwnRz w4 ad xs ∧ ∀ j, inBlk ad j → w1.heap.size ≤ j ∧ j < w4.heap.size from ⟨HK3.out.1.touch ht4 (fun j hj e => by have := (HK3.out.2 j hj).1; omega), fun j hj => ⟨(HK3.out.2 j hj).1, Nat.lt_of_lt_of_le (HK3.out.2 j hj).2 ht4.size⟩⟩)
  have HT4 := Lib.hid (HT3.out.trans ht4)
  have HR4 := Lib.hid hr4
  have HW4 := Lib.hid (own_grown HW3.out hg4 hg1)
  clear hr4 hg4 ht4 hk1
  have hgw : ∀ j, j = g → g ≤ j := fun j h => by rw [h]; exact Nat.le_refl _
  have HBz := Lib.hid (show Below w.heap.size w w4 by rw [Hgg.out]; exact HB1.out.trans (HT4.out.below hgw (by omega)))
  go_wp2
  go_loopw [8, 9, 11] (fun av v iv wr => DyRel g l' w w1 ad xs av v iv wr) (fun _ _ i _ => 20 - (intOf i).toNat)
  case atStart => exact ⟨0, x, [x], p3 + 1, by omega, rfl, rfl, by omega, by omega, by simp, fun y hy => by (simp at hy; subst hy; unfold W64; omega), HW4.out, HK4.out.1, HK4.out.2, HR4.out, by omega, HBz.out, HT4.out, fun j hj e => by have := (HK4.out.2 j hj).2; have h2 := (HK3x.out j hj); simp [Value.ownBlock] at e; omega⟩
  case round =>
    obtain ⟨i, at_, way, p', hi6, rfl, rfl, hat0, hat1, hwl, hwf, hrow, hown, hblk, hrd, hp', hbel, htc, hne⟩ := hrel
    have Hne := Lib.hid hne; clear hne
    have Hrow := Lib.hid hrow; have Hown := Lib.hid hown; have Hblk := Lib.hid hblk; have Hrd := Lib.hid hrd; have Hbel := Lib.hid hbel; have Htc := Lib.hid htc; have Hwf := Lib.hid hwf
    clear hrow hown hblk hrd hbel htc hwf
    have Hend := Lib.hid (show ∀ wf u wy, IntsIn wf u wy → wy.length ≤ 10 → IntWf wy → Below w.heap.size w wf → OwnRz wf ad xs → DrawnWy w (.returned (.tuple #[.int .i64 n, .slice ad xs.length cap, u])) wf from fun wf u wy h1 h2 h3 h4 h5 => ⟨n, ad, cap, xs, u, wy, rfl, hn2, hn6, Hcap.out, h11, Hbd.out, h5, h1, h2, h3, h4⟩)
    by_cases hgo : (i : Int) < k ∧ 0 < xs.length
    · obtain ⟨hik, h0⟩ := hgo
      have hpos : ((xs.length : Nat) : Int) > 0 := by omega
      go_wp2_with fail
      refine (pick_any g l' p' (xs.length : Int) _ Hrd.out (by omega) (by omega)).mono ?_; rintro e w5 ⟨⟨d, rfl, hd0, hd1⟩, hr5, hg5⟩
      obtain ⟨q, rfl⟩ : ∃ q : Nat, d = (q : Int) := ⟨d.toNat, by omega⟩
      have hq : q < xs.length := by omega
      have hq' : (q : Int) < (xs.length : Int) := by omega
      have ht5 := Touch.grown (S := fun j => j = g) hg5 rfl
      have hown5 : OwnRz w5 ad xs := Hown.out.touch ht5 (fun j hj e => by have := (Hblk.out j hj).1; omega)
      obtain ⟨b, rfl, hb, hat, _⟩ := hown5 (by rintro rfl; simp at h0)
      obtain ⟨c0, c1, c2⟩ := hat q hq
      rw [Nat.zero_add] at c0 c1 c2
      have hbk := Hbd.out _ (List.getElem_mem hq)
      rw [← getD_eq xs hq] at hbk
      have HO5 := Lib.hid hown5
      have HT5 := Lib.hid (Htc.out.trans ht5)
      have HR5 := Lib.hid hr5
      have HW5 := Lib.hid (own_grown Hrow.out hg5 hg1)
      have HS5 := Lib.hid (Hbel.out.trans (ht5.below (B := w.heap.size) (fun j hj => by rw [hj, Hgg.out]; exact Nat.le_refl _) Hbel.out.size))
      have Hblk5 := Lib.hid (show ∀ j, inBlk (some ⟨b, 0, none⟩) j → w1.heap.size ≤ j ∧ j < w5.heap.size from fun j hj => ⟨(Hblk.out j hj).1, Nat.lt_of_lt_of_le (Hblk.out j hj).2 ht5.size⟩)
      have hs5 := HT5.out.size
      clear hd1 hr5 hg5 ht5 hown5 hat
      have Hb1 := Lib.hid hbk; clear hbk
      have hbk := Hb1.out
      generalize (xs.getD q rd0).a = ra at *
      generalize (xs.getD q rd0).b = rb at *
      generalize (xs.getD q rd0).m = rm at *
      have HBx := Lib.hid (show Below w5.heap.size w5 (w5.alloc (.cells #[.int .i64 ra, .int .i64 rb, .int .i64 rm] 30)) from (Below.refl _ _).alloc (Nat.le_refl _) _)
      have own6 := own_below HW5.out HBx.out
      have hfin := Lib.hid (show ∀ (wf : World) (vf : Value) (wy : List Int) (y : Int), (∀ j, inBlk (some ⟨b, 0, none⟩) j → vf.ownBlock ≠ some j) → wf.ownsRow w1.heap.size 3 1 vf wy.length (wy.map (Value.int .i64)) → Below w1.heap.size w5 wf → wy.length ≤ i + 1 + 1 → IntWf wy → -1000 ≤ y ∧ y ≤ 1000 → OwnRz wf (some ⟨b, 0, none⟩) xs → DyRel g l' w w1 (some ⟨b, 0, none⟩) xs (.int .i64 y) vf (.int .i64 ((i + 1 : Nat) : Int)) wf from fun wf vf wy y h0' h1 h2 h3 h4 h5 h6 =>
        ⟨i + 1, y, wy, p' + 1, by omega, rfl, rfl, h5.1, h5.2, h3, h4, h1, h6, fun j hj => ⟨(Hblk5.out j hj).1, Nat.lt_of_lt_of_le (Hblk5.out j hj).2 h2.size⟩, HR5.out.belowB h2 hg1, by omega, HS5.out.trans (h2.mono (by have := Hgg.out; omega)), HT5.out.belowB h2, h0'⟩)
      by_cases q1 : ra = at_
      · subst q1
        have qaa : (ra == ra) = true := by simp
        go_wp2_with (at_builtin; refine wpList_append_own_at _ rfl _ _ 37 rfl w1.heap.size 3 i0 (.int .i64 0) 1 8 Try.underlying37 hi hz0 hz1 hz2 rfl (by decide) _ _ _ rfl (own6.alloc _) ⟨w5.heap.size + 1, 0, none⟩ 1 1 [.int .i64 rb] rfl rfl (news2 w5 _ #[.int .i64 rb] 3) (by simp [Value.oneCell']) (by simp only [maxLen]; omega) (by omega) (by simp; omega) ?_; intro v' w8 hown8 hgrow _ hatb)
        have HB8 := Lib.hid (((((Below.refl w1.heap.size w5).alloc hs5 _).alloc (by simp; omega) _).grown hgrow (by simp; omega) (fun j hj => (own6.lt j hj).1)))
        have Hown8 := Lib.hid (show w8.ownsRow w1.heap.size 3 1 v' (way ++ [rb]).length ((way ++ [rb]).map (Value.int .i64)) by rw [List.map_append, List.length_append]; exact hown8)
        have HO8 := Lib.hid (OwnRz.grownBy (HO5.out.alloc2 _ _) hgrow Hne.out)
        have HN8 := Lib.hid (show ∀ j, inBlk (some ⟨b, 0, none⟩) j → v'.ownBlock ≠ some j from fun j hj e => by
          rcases hatb with h | h
          · exact Hne.out j hj (h.symm.trans e)
          · rw [h] at e; injection e with e; have := (Hblk5.out j hj).2; simp at e; omega)
        clear hown8 hgrow
        go_wp2
        exact ⟨hfin.out _ _ _ rb HN8.out Hown8.out HB8.out (by simp; omega) (wf_snocI Hwf.out (by unfold W64; omega)) (by omega) HO8.out, by simp [intOf]; omega⟩
      · have q1' : (ra == at_) = false := by simpa using q1
        by_cases q2 : rb = at_
        · subst q2
          have qbb : (rb == rb) = true := by simp
          go_wp2_with (at_builtin; refine wpList_append_own_at _ rfl _ _ 37 rfl w1.heap.size 3 i0 (.int .i64 0) 1 8 Try.underlying37 hi hz0 hz1 hz2 rfl (by decide) _ _ _ rfl (own6.alloc _) ⟨w5.heap.size + 1, 0, none⟩ 1 1 [.int .i64 ra] rfl rfl (news2 w5 _ #[.int .i64 ra] 3) (by simp [Value.oneCell']) (by simp only [maxLen]; omega) (by omega) (by simp; omega) ?_; intro v' w8 hown8 hgrow _ hatb)
          have HB8 := Lib.hid (((((Below.refl w1.heap.size w5).alloc hs5 _).alloc (by simp; omega) _).grown hgrow (by simp; omega) (fun j hj => (own6.lt j hj).1)))
          have Hown8 := Lib.hid (show w8.ownsRow w1.heap.size 3 1 v' (way ++ [ra]).length ((way ++ [ra]).map (Value.int .i64)) by rw [List.map_append, List.length_append]; exact hown8)
          have HO8 := Lib.hid (OwnRz.grownBy (HO5.out.alloc2 _ _) hgrow Hne.out)
          have HN8 := Lib.hid (show ∀ j, inBlk (some ⟨b, 0, none⟩) j → v'.ownBlock ≠ some j from fun j hj e => by
            rcases hatb with h | h
            · exact Hne.out j hj (h.symm.trans e)
            · rw [h] at e; injection e with e; have := (Hblk5.out j hj).2; simp at e; omega)
          clear hown8 hgrow
          go_wp2
          exact ⟨hfin.out _ _ _ ra HN8.out Hown8.out HB8.out (by simp; omega) (wf_snocI Hwf.out (by unfold W64; omega)) (by omega) HO8.out, by simp [intOf]; omega⟩
        · have q2' : (rb == at_) = false := by simpa using q2
          have Hown6 := Lib.hid own6; clear own6
          have HO6 := Lib.hid (HO5.out.below HBx.out)
          go_wp2
          exact ⟨hfin.out _ _ _ at_ Hne.out Hown6.out (HBx.out.mono hs5) (by omega) Hwf.out (by omega) HO6.out, by simp [intOf]; omega⟩
    · have hx : ¬ (i : Int) < k ∨ ((i : Int) < k ∧ ¬ 0 < xs.length) := by omega
      clear hgo
      rcases hx with h1 | ⟨h1, h2⟩
      all_goals
        go_wp2_with fail
        refine (pick_any g l' p' 12 _ Hrd.out (by omega) (by omega)).mono ?_; rintro e w5 ⟨⟨d, rfl, hd0, hd1⟩, hr5, hg5⟩
        have ht5 := Touch.grown (S := fun j => j = g) hg5 rfl
        have HO5 := Lib.hid (show OwnRz w5 ad xs from Hown.out.touch ht5 (fun j hj e => by have := (Hblk.out j hj).1; omega))
        have HW5 := Lib.hid (own_ins (own_grown Hrow.out hg5 hg1))
        have HS5 := Lib.hid (Hbel.out.trans (ht5.below (B := w.heap.size) (fun j hj => by rw [hj, Hgg.out]; exact Nat.le_refl _) Hbel.out.size))
        clear hr5 hg5 ht5 hd1
        by_cases q : d = 0
        · subst q
          go_wp2
          refine bodyPost_ret (v := .tuple #[.int .i64 n, .slice ad xs.length cap, .slice (some ⟨w5.heap.size, 0, none⟩) 0 0]) (by simp [results, Try.results30, go_sem]) rfl ?_
          have hbe : Below w5.heap.size w5 (w5.alloc (.cells #[] 3)) := (Below.refl _ _).alloc (Nat.le_refl _) _
          exact Hend.out _ _ [] ⟨_, 0, rfl, Nat.le_refl _, fun h => absurd rfl h⟩ (by simp) (fun y hy => by cases hy) (HS5.out.trans (hbe.mono HS5.out.size)) (HO5.out.below hbe)
        · have q' : (d == 0) = false := by simpa using q
          go_wp2
          refine bodyPost_ret (v := .tuple #[.int .i64 n, .slice ad xs.length cap, u9]) (by simp [results, Try.results30, go_sem]) rfl ?_
          exact Hend.out _ _ way HW5.out (by omega) Hwf.out HS5.out HO5.out

end Go.Proofs.Ytnlhnibhgpelfaa
