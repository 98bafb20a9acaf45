/- Stacks of packets: takeOut. -/
import Derived.Test.YtmdcpigobfhckaaFQ
import Derived.Deep.LoopGhost
import Derived.Deep.RegionWith
namespace Go.Proofs.Ytmdcpigobfhckaa
open Go.RowKit

theorem OwnK.touch {w w' : World} {F1 : Nat} {v : Value} {l : List Pk} {S : Nat → Prop} (h : OwnK w F1 v l) (ht : Touch S w w') (hS : ∀ g, v.ownBlock = some g → ¬ S g) : OwnK w' F1 v l := by
  obtain ⟨h1, h2⟩ := h
  refine ⟨h1, ?_⟩
  rcases h2 with h0 | ⟨g, cap, cur, rfl, hg, hh, r⟩
  · exact .inl h0
  · exact .inr ⟨g, cap, cur, rfl, hg, (ht.block g (Array.getElem?_eq_some_iff.1 hh).1 (hS g rfl)).trans hh, r⟩
theorem StK.touch {w w' : World} {X F1 : Nat} {v : Value} {l : List Pk} {mv : Int} {S : Nat → Prop} (h : StK w X F1 v l mv) (ht : Touch S w w') (hX : ¬ S X) (hS : ∀ g, v.ownBlock = some g → ¬ S g) : StK w' X F1 v l mv :=
  ⟨h.st.keptT ht hX, h.own.touch ht hS⟩
theorem OwnK.blk {w : World} {F1 : Nat} {v : Value} {l : List Pk} (h : OwnK w F1 v l) {g : Nat} (hg : v.ownBlock = some g) : F1 ≤ g ∧ g < w.heap.size := h.lt g hg
theorem OwnK.mono {w : World} {F1 F2 : Nat} {v : Value} {l : List Pk} (h : OwnK w F1 v l) (hF : F2 ≤ F1) : OwnK w F2 v l := by
  obtain ⟨h1, h2⟩ := h
  refine ⟨h1, ?_⟩
  rcases h2 with h0 | ⟨g, cap, cur, rfl, hg, r⟩
  · exact .inl h0
  · exact .inr ⟨g, cap, cur, rfl, by omega, r⟩

def TkS (X : Nat) (v : Value) : Nat → Prop := fun k => k = X ∨ v.ownBlock = some k

/-- While packets are moved away: those below, the one at hand, those moved. -/
structure AwayRel (X F1 : Nat) (v : Value) (l : List Pk) (n0 : Nat) (mv : Int) (w : World) (gk : Nat) (pv : Value) (wr : World) : Prop where
  ex : ∃ (A B : List Pk) (p : Pk) (pb : Nat) (vs va : Value), pv = .pointer (some ⟨pb, 0, none⟩) ∧ gk = A.length ∧ l = A ++ p :: B ∧ n0 ≤ A.length ∧
    Whole wr pb 93 (celK p) ∧ StK wr X F1 vs A (mv + B.length) ∧ StK wr w.heap.size (w.heap.size + 1) va B.reverse 0 ∧
    vs.ownBlock = v.ownBlock ∧ va.ownBlock ≠ some pb ∧ w.heap.size < pb
  t : Touch (TkS X v) w wr

/-- While packets are put back. -/
structure BackRel (X F1 : Nat) (v : Value) (pre post : List Pk) (mv : Int) (w : World) (gk : Nat) (wr : World) : Prop where
  ex : ∃ (A B : List Pk) (vs va : Value), gk = B.length ∧ post = A ++ B ∧ StK wr X F1 vs (pre ++ A) mv ∧ StK wr w.heap.size (w.heap.size + 1) va B.reverse 0 ∧
    (vs.ownBlock = v.ownBlock ∨ ∃ k, vs.ownBlock = some k ∧ w.heap.size ≤ k) ∧ (∀ k, va.ownBlock = some k → vs.ownBlock ≠ some k) ∧ vs.ownBlock ≠ some w.heap.size
  t : Touch (TkS X v) w wr

def OutOut (F1 X : Nat) (v : Value) (l : List Pk) (mv : Int) (w : World) (e : Ending) (w' : World) : Prop :=
  e = .returned (.tuple #[]) ∧ ∃ v', StK w' X F1 v' l mv ∧ (v'.ownBlock = v.ownBlock ∨ ∃ k, v'.ownBlock = some k ∧ w.heap.size ≤ k) ∧ Touch (TkS X v) w w'

theorem split_q {pre post A B : List Pk} {q p : Pk} (h : pre ++ q :: post = A ++ p :: B) (hn : pre.length ≤ A.length) : (A = pre ∧ p = q ∧ B = post) ∨ (p ∈ post ∧ pre.length < A.length) := by
  by_cases e : A.length = pre.length
  · obtain ⟨h1, h2⟩ := List.append_inj h e.symm
    injection h2 with h3 h4
    exact .inl ⟨h1.symm, h3.symm, h4.symm⟩
  · refine .inr ⟨?_, by omega⟩
    obtain ⟨A', rfl⟩ : ∃ A', A = pre ++ A' := by
      have h5 := congrArg (List.take pre.length) h
      rw [List.take_left, List.take_append_of_le_length hn] at h5
      exact ⟨A.drop pre.length, by conv => lhs; rw [← List.take_append_drop pre.length A, ← h5]⟩
    rw [List.append_assoc] at h
    have h6 := List.append_cancel_left h
    cases A' with
    | nil => simp at e
    | cons a r =>
      injection h6 with h7 h8
      rw [h8]; simp

set_option maxRecDepth 100000 in
set_option maxHeartbeats 4000000 in
theorem takeOut_any (F1 X : Nat) (v : Value) (pre post : List Pk) (q : Pk) (mv : Int) (w : World) (hs : StK w X F1 v (pre ++ q :: post) mv) (hq : ∀ p ∈ post, p.i ≠ q.i) (hl : (pre ++ q :: post).length ≤ 400) (hXF : X < F1) (hF : F1 ≤ w.heap.size) (hm0 : 0 ≤ mv) (hm1 : mv ≤ 100000) :
    Calls Try.prog 107 #[.pointer (some ⟨X, 0, none⟩), .int .i64 q.i] w (OutOut F1 X v (pre ++ post) (mv + post.length) w) := by
  have hXl := hs.st.lt
  obtain ⟨xs, hxs⟩ : ∃ xs, pre ++ q :: post = xs := ⟨_, rfl⟩
  obtain ⟨l0, p0, hl0⟩ : ∃ l0 p0, xs = l0 ++ [p0] := by
    rw [← hxs]
    exact ⟨(pre ++ q :: post).dropLast, (pre ++ q :: post).getLast (by simp), (List.dropLast_concat_getLast (by simp)).symm⟩
  have hn0 : pre.length ≤ l0.length := by
    have := congrArg List.length hxs
    rw [hl0] at this; simp at this; omega
  have hle : l0.length + 1 ≤ 400 := by rw [hxs, hl0] at hl; simpa using hl
  rw [hxs, hl0] at hs
  have hs2 := hs.below (w' := w.alloc (.cells #[.slice none 0 0, .int .i64 0] 89)) ((Below.refl _ _).alloc (Nat.le_refl _) _)
  have hA2 : StK (w.alloc (.cells #[.slice none 0 0, .int .i64 0] 89)) w.heap.size (w.heap.size + 1) (.slice none 0 0) [] 0 := ⟨Whole.made _ _ _, OwnK.nil⟩
  have Hvb := Lib.hid (show ∀ g, v.ownBlock = some g → F1 ≤ g ∧ g < w.heap.size from fun g hg => hs.own.blk hg)
  have hlx : xs.length ≤ 400 := by rw [← hxs]; exact hl
  have HS := Lib.hid hs2
  have HA := Lib.hid hA2
  have Hxs := Lib.hid hxs
  have Hq := Lib.hid hq
  clear hs hs2 hA2 hl hq hxs
  go_enter Try.func107, Try.ntmps107
  go_wp2_with fail
  refine (take_any F1 X v l0 p0 mv _ HS.out (by omega) hXF).mono ?_; rintro e w1 ⟨rfl, v1, hs1, hv1, ht1⟩
  have hA1 := HA.out.touch ht1 (by omega) (fun g hg => by cases hg)
  have hT1 : Touch (TkS X v) w w1 := (Touch.of_below (S := TkS X v) ((Below.refl w.heap.size w).alloc (Nat.le_refl _) (.cells #[.slice none 0 0, .int .i64 0] 89))).trans2 ht1 (fun j hj _ => .inl hj)
  have HS1 := Lib.hid hs1
  have HA1 := Lib.hid hA1
  have HT1 := Lib.hid hT1
  have HV1 := Lib.hid hv1
  have hsz1 : w.heap.size + 1 ≤ w1.heap.size := by have := ht1.size; simpa using this
  clear hs1 hA1 hT1 hv1 ht1 HS HA
  have hb1 : Below w1.heap.size w1 (w1.alloc (.cells (celK p0) 93)) := (Below.refl _ _).alloc (Nat.le_refl _) _
  have Hst0 : Hid (AwayRel X F1 v xs pre.length mv w l0.length (.pointer (some ⟨w1.heap.size, 0, none⟩)) (w1.alloc (.cells (celK p0) 93))) := Lib.hid
    { ex := ⟨l0, [], p0, w1.heap.size, v1, _, rfl, rfl, hl0, hn0, Whole.made _ _ _, by simpa using HS1.out.below hb1, by simpa using HA1.out.below hb1, HV1.out, (fun h => by cases h), by omega⟩,
      t := HT1.out.bel hb1 }
  clear hb1 HS1 HA1 HT1 HV1 hl0 hn0
  unfold celK at Hst0
  go_wp2
  go_loopg [5] l0.length (fun gk pv wr => AwayRel X F1 v xs pre.length mv w gk pv wr)
  case atStart => exact Hst0.out
  case round =>
    clear Hst0
    obtain ⟨⟨A, B, p, pb, vs, va, rfl, rfl, hsp, hn, hp, hst, haw, hvs, hva, hpb⟩, ht⟩ := hrel
    have c0 : wr.cell? ⟨pb, 0, none⟩ = some (.int .i64 p.a) := hp.cell (i := 0) rfl
    have c1 : wr.cell? ⟨pb, 1, none⟩ = some (.int .i64 p.b) := hp.cell (i := 1) rfl
    have c2 : wr.cell? ⟨pb, 2, none⟩ = some (.int .i64 p.i) := hp.cell (i := 2) rfl
    have c3 : wr.cell? ⟨pb, 3, none⟩ = some (.int .i64 p.m) := hp.cell (i := 3) rfl
    have hplt := hp.lt
    have Hst := Lib.hid hst
    have Haw := Lib.hid haw
    have Hp := Lib.hid hp
    have Hv := Lib.hid (And.intro hvs hva)
    have Ht := Lib.hid ht
    have hlen : A.length + B.length + 1 ≤ 401 := by
      have := congrArg List.length hsp; simp at this; omega
    clear hst haw hp hvs hva ht
    by_cases e : p.i = q.i
    · rcases split_q (Hxs.out.trans hsp) hn with ⟨rfl, rfl, rfl⟩ | ⟨hm, _⟩
      · have hst0 : BackRel X F1 v A B (mv + B.length) w B.length wr :=
          { ex := ⟨[], B, vs, va, rfl, rfl, by simpa using Hst.out, Haw.out, .inl Hv.out.1, (fun k h1 h2 => by
              have h3 := Haw.out.own.blk h1
              rw [Hv.out.1] at h2
              have h4 := (Hvb.out k h2).2; omega), (fun h2 => by
              rw [Hv.out.1] at h2
              have h4 := (Hvb.out _ h2).2; omega)⟩,
            t := Ht.out }
        have Hst0 := Lib.hid hst0
        clear hst0 Hst Haw Hv Ht Hp Hxs Hq hsp hn
        have he : (p.i != p.i) = false := by simp
        go_wp2
        go_loopg [36] B.length (fun gk _ wr => BackRel X F1 v A B (mv + B.length) w gk wr)
        case atStart => exact Hst0.out
        case round =>
          clear Hst0
          obtain ⟨⟨A2, B2, vs2, va2, rfl, hab, hst, haw, hvs, hdis, hno⟩, ht⟩ := hrel
          have hlen2 : A2.length + B2.length = B.length := by rw [hab, List.length_append]
          cases B2 with
          | nil =>
            obtain ⟨ad, cap, rfl⟩ := haw.own.slice
            have x0 := haw.st.cell (i := 0) rfl
            rw [List.append_nil] at hab
            subst hab
            have Hf := Lib.hid (show OutOut F1 X v (A ++ B) (mv + B.length) w (.returned (.tuple #[])) wr from ⟨rfl, vs2, hst, hvs, ht⟩)
            clear hst haw hvs hdis hno ht
            simp only [List.reverse_nil, List.length_nil] at x0
            go_wp2
            go_end0
            exact Hf.out
          | cons p2 B3 =>
            obtain ⟨ad, cap, rfl⟩ := haw.own.slice
            have x0 := haw.st.cell (i := 0) rfl
            rw [List.reverse_cons] at haw x0
            have hl3 : (B3.reverse ++ [p2]).length = B3.length + 1 := by simp
            have Hst := Lib.hid hst
            have Haw := Lib.hid haw
            have Hd := Lib.hid (And.intro hvs (And.intro hdis hno))
            have Ht := Lib.hid ht
            have Hab := Lib.hid hab
            clear hst haw hvs hdis hno ht hab
            have hX0 := Hst.out.st.lt
            simp only [List.length_cons] at hlen2
            rw [show (B3.reverse ++ [p2]).length = B3.length + 1 from hl3] at x0
            go_wp2_with fail
            refine (take_any (w.heap.size + 1) w.heap.size _ B3.reverse p2 0 _ Haw.out (by rw [List.length_reverse]; omega) (by omega)).mono ?_; rintro e w3 ⟨rfl, va3, ha3, hv3, ht3⟩
            have hs3 := Hst.out.touch ht3 (by omega) (fun g hg h => Hd.out.2.2 (by rw [hg, h]))
            have Hs3 := Lib.hid hs3
            have Ha3 := Lib.hid ha3
            have Hv3 := Lib.hid hv3
            have Ht3 := Lib.hid ht3
            have hsz3 := ht3.size
            have hwlt := Haw.out.st.lt
            clear hs3 ha3 hv3 ht3
            go_wp2_with fail
            refine (put_any F1 X vs2 (A ++ A2) p2.a p2.b p2.i p2.m _ w3 Hs3.out (by rw [List.length_append]; omega) hXF (by omega)).mono ?_; rintro e w4 ⟨rfl, vs4, hs4, hn4, ht4⟩
            have ha4 := Ha3.out.touch ht4 (by
              rintro (h | h)
              · omega
              · exact Hd.out.2.2 h) (fun g hg => by
              rintro (h | h)
              · have := (Ha3.out.own.blk hg).1; omega
              · rw [Hv3.out] at hg
                refine Hd.out.2.1 g ?_ h
                rw [← hg]; simp only [List.reverse_cons])
            have ht5 : Touch (TkS X v) w w4 := (Ht.out.trans2 Ht3.out (fun j hj hlt => by omega)).trans2 ht4 (fun j hj hlt => by
              rcases hj with h | h
              · exact .inl h
              · rcases Hd.out.1 with h2 | ⟨k, h2, h3⟩
                · exact .inr (by rw [← h2]; exact h)
                · rw [h2] at h; injection h with h; omega)
            have hrel : BackRel X F1 v A B (mv + B.length) w B3.length w4 :=
              { ex := ⟨A2 ++ [p2], B3, vs4, va3, rfl, by rw [Hab.out]; simp, by rw [← List.append_assoc]; exact hs4, ha4, by
                    rcases hn4 with h | ⟨k, h, h2⟩
                    · rw [h]; exact Hd.out.1
                    · exact .inr ⟨k, h, by omega⟩, by
                    intro k h1 h2
                    rw [Hv3.out] at h1
                    rcases hn4 with h | ⟨k2, h, h3⟩
                    · rw [h] at h2
                      refine Hd.out.2.1 k ?_ h2
                      rw [← h1]; simp only [List.reverse_cons]
                    · rw [h] at h2; injection h2 with h2
                      have := (Haw.out.own.blk h1).2; omega, by
                    intro h2
                    rcases hn4 with h | ⟨k2, h, h3⟩
                    · rw [h] at h2; exact Hd.out.2.2 h2
                    · rw [h] at h2; injection h2 with h2; omega⟩,
                t := ht5 }
            have Hrel := Lib.hid hrel
            clear hrel ht5 ha4 hs4 hn4 ht4
            go_wp2
            go_roundg B3.length
            case measure => simp
            case rel => exact Hrel.out
      · exact absurd e (Hq.out p hm)
    · obtain ⟨A', p', rfl⟩ : ∃ A' p', A = A' ++ [p'] := by
        rcases split_q (Hxs.out.trans hsp) hn with ⟨rfl, rfl, rfl⟩ | ⟨_, hlt⟩
        · exact absurd rfl e
        · exact ⟨A.dropLast, A.getLast (by rintro rfl; simp at hlt), (List.dropLast_concat_getLast _).symm⟩
      have hlt : pre.length ≤ A'.length := by
        rcases split_q (Hxs.out.trans hsp) hn with ⟨_, h, _⟩ | ⟨_, hlt⟩
        · exact absurd (by rw [h]) e
        · simp at hlt; omega
      have hd : (p.i != q.i) = true := by simpa using e
      have hlen' : A'.length + B.length + 2 ≤ 401 := by simp at hlen; omega
      have Hsp := Lib.hid hsp
      have He := Lib.hid e
      clear hsp e hn hlen
      go_wp2_with fail
      refine (put_any (w.heap.size + 1) w.heap.size va B.reverse p.a p.b p.i p.m 0 _ Haw.out (by rw [List.length_reverse]; omega) (by omega) (by omega)).mono ?_; rintro e w2 ⟨rfl, va2, haw2, hnv, ht2⟩
      have hst2 := Hst.out.touch ht2 (fun h => by
        rcases h with h | h
        · omega
        · have := (Haw.out.own.blk h).1; omega) (fun g hg h => by
        rw [Hv.out.1] at hg
        have h4 := (Hvb.out g hg).2
        rcases h with h | h
        · omega
        · have := (Haw.out.own.blk h).1; omega)
      have hp2 := Hp.out.keptT ht2 (fun h => by
        rcases h with h | h
        · omega
        · exact Hv.out.2 h)
      have hx1 : w2.cell? ⟨X, 1, none⟩ = some (.int .i64 (mv + B.length)) := hst2.st.cell (i := 1) rfl
      have hxf := hst2.st.free 1
      have c0 : w2.cell? ⟨pb, 0, none⟩ = some (.int .i64 p.a) := hp2.cell (i := 0) rfl
      have c1 : w2.cell? ⟨pb, 1, none⟩ = some (.int .i64 p.b) := hp2.cell (i := 1) rfl
      have c2 : w2.cell? ⟨pb, 2, none⟩ = some (.int .i64 p.i) := hp2.cell (i := 2) rfl
      have c3 : w2.cell? ⟨pb, 3, none⟩ = some (.int .i64 p.m) := hp2.cell (i := 3) rfl
      have hwm : IntKind.i64.wrap (mv + B.length + 1) = mv + B.length + 1 := IntWalk.i64_in _ (by omega)
      have hXpb : X ≠ pb := by omega
      have hpb2 := hp2.lt
      have Hst2 := Lib.hid hst2
      have Hp2 := Lib.hid hp2
      have Haw2 := Lib.hid haw2
      have Hnv := Lib.hid hnv
      have Ht2 := Lib.hid ht2
      clear hst2 hp2 haw2 hnv ht2
      go_wp2_with fail
      have hne1 : ∀ g, vs.ownBlock = some g → g ≠ X := fun g hg => by
        have := (Hst2.out.own.blk hg).1; omega
      have hstX : StK (w2.setCell ⟨X, 1, none⟩ (.int .i64 (mv + B.length + 1))) X F1 vs (A' ++ [p']) (mv + B.length + 1) :=
        ⟨Hst2.out.st.set 1 _, Hst2.out.own.touch (S := fun k => k = X) (Touch.setCell (S := fun k => k = X) (Touch.refl _ w2) (a := ⟨X, 1, none⟩) rfl _) hne1⟩
      have htX : Touch (fun k => k = X) w2 (w2.setCell ⟨X, 1, none⟩ (.int .i64 (mv + B.length + 1))) := Touch.setCell (S := fun k => k = X) (Touch.refl _ w2) (a := ⟨X, 1, none⟩) rfl _
      have hszX : (w2.setCell ⟨X, 1, none⟩ (.int .i64 (mv + B.length + 1))).heap.size = w2.heap.size := by simp
      have HstX := Lib.hid hstX
      have HtX := Lib.hid htX
      have HawX := Lib.hid (Haw2.out.touch htX (by omega) (fun g hg => by have := (Haw2.out.own.blk hg).1; omega))
      clear hne1 hstX htX hx1 hxf c0 c1 c2 c3
      generalize hwX : w2.setCell ⟨X, 1, none⟩ (.int .i64 (mv + B.length + 1)) = wX at *
      have HwX := Lib.hid hwX; clear hwX
      have hbn : Below wX.heap.size wX (wX.alloc (.cells (celK p) 93)) := (Below.refl _ _).alloc (Nat.le_refl _) _
      have Hnew := Lib.hid (Whole.made wX 93 (celK p))
      have HstN := Lib.hid (HstX.out.below hbn)
      have HawN := Lib.hid (HawX.out.below hbn)
      have HtN := Lib.hid (HtX.out.bel hbn)
      have hszN : (wX.alloc (.cells (celK p) 93)).heap.size = wX.heap.size + 1 := by simp
      clear hbn
      refine (take_any F1 X vs A' p' (mv + B.length + 1) _ HstN.out (by omega) hXF).mono ?_; rintro e w4 ⟨rfl, vs4, hs4, hv4, ht4⟩
      have hw4 := Hnew.out.keptT ht4 (by omega)
      have haw4 := HawN.out.touch ht4 (by omega) (fun g hg => by have := (HawN.out.own.blk hg).1; omega)
      have f0 := hw4.free 0
      have f1 := hw4.free 1
      have f2 := hw4.free 2
      have f3 := hw4.free 3
      have d0 : w4.cell? ⟨wX.heap.size, 0, none⟩ = some (.int .i64 p.a) := hw4.cell (i := 0) rfl
      have d1 : w4.cell? ⟨wX.heap.size, 1, none⟩ = some (.int .i64 p.b) := hw4.cell (i := 1) rfl
      have d2 : w4.cell? ⟨wX.heap.size, 2, none⟩ = some (.int .i64 p.i) := hw4.cell (i := 2) rfl
      have d3 : w4.cell? ⟨wX.heap.size, 3, none⟩ = some (.int .i64 p.m) := hw4.cell (i := 3) rfl
      have HS4 := Lib.hid hs4
      have HA4 := Lib.hid haw4
      have HW4 := Lib.hid hw4
      have HT4 := Lib.hid (HtN.out.trans ht4)
      have HV4 := Lib.hid hv4
      clear hs4 haw4 hw4 ht4 hv4
      rw [hszX] at *
      have hnew4 : ∀ wf, wf = (((w4.setCell ⟨w2.heap.size, 0, none⟩ (.int .i64 p'.a)).setCell ⟨w2.heap.size, 1, none⟩ (.int .i64 p'.b)).setCell ⟨w2.heap.size, 2, none⟩ (.int .i64 p'.i)).setCell ⟨w2.heap.size, 3, none⟩ (.int .i64 p'.m) → AwayRel X F1 v xs pre.length mv w A'.length (.pointer (some ⟨w2.heap.size, 0, none⟩)) wf := fun wf hwf => by
        have hw5 := (((HW4.out.set 0 (.int .i64 p'.a)).set 1 (.int .i64 p'.b)).set 2 (.int .i64 p'.i)).set 3 (.int .i64 p'.m)
        rw [← hwf] at hw5
        have ht5 : Touch (fun k => k = w2.heap.size) w4 wf := by
          rw [hwf]
          exact Touch.setCell (S := fun k => k = w2.heap.size) (Touch.setCell (S := fun k => k = w2.heap.size) (Touch.setCell (S := fun k => k = w2.heap.size) (Touch.setCell (S := fun k => k = w2.heap.size) (Touch.refl _ w4) (a := ⟨w2.heap.size, 0, none⟩) rfl _) (a := ⟨w2.heap.size, 1, none⟩) rfl _) (a := ⟨w2.heap.size, 2, none⟩) rfl _) (a := ⟨w2.heap.size, 3, none⟩) rfl _
        have hwl := Hst2.out.st.lt
        have hs5 := HS4.out.touch ht5 (by omega) (fun g hg => by
          rw [HV4.out, Hv.out.1] at hg
          have := (Hvb.out g hg).2; omega)
        have ha5 := HA4.out.touch ht5 (by omega) (fun g hg => by
          have := (Haw2.out.own.blk hg).2; omega)
        exact { ex := ⟨A', p :: B, p', w2.heap.size, vs4, va2, rfl, rfl, by rw [Hsp.out]; simp, hlt, hw5, by
                    have e2 : mv + (((p :: B).length : Nat) : Int) = mv + B.length + 1 := by simp; omega
                    rw [e2]; exact hs5, by rw [List.reverse_cons]; exact ha5, by rw [HV4.out]; exact Hv.out.1, (fun h => by
                    have := (Haw2.out.own.blk h).2; omega), by omega⟩,
                t := ((Ht.out.trans2 Ht2.out (fun j hj hlt => by
                    rcases hj with h | h
                    · omega
                    · have := (Haw.out.own.blk h).1; omega)).trans2 HT4.out (fun j hj _ => .inl hj)).trans2 ht5 (fun j hj hlt => by omega) }
      have Hnew4 := Lib.hid hnew4
      clear hnew4
      go_wp2
      go_roundg A'.length
      case measure => simp
      case rel => exact Hnew4.out _ rfl

end Go.Proofs.Ytmdcpigobfhckaa
