/- milesSold: the miles of a road, those of a stretch with another owner. -/
import Derived.Test.YthdkjjfnockldaaQB
namespace Go.Proofs.Ythdkjjfnockldaa
open Go.RowKit Go.Shelf
attribute [local go_sem] Oper.semAt_some

set_option maxHeartbeats 400000 in
theorem milesSold_any (ad : Option Addr) (n cap : Nat) (a b o : Int) (w : World) :
    Calls Try.prog 64 #[.slice ad n cap, .int .i64 a, .int .i64 b, .int .i64 o] w fun e w' =>
      e = .returned (.func (.func 78) #[] #[.pointer (some ⟨w.heap.size, 0, none⟩), .pointer (some ⟨w.heap.size + 1, 0, none⟩), .pointer (some ⟨w.heap.size + 2, 0, none⟩), .pointer (some ⟨w.heap.size + 3, 0, none⟩)]) ∧
      w' = (((w.alloc (.cells #[.slice ad n cap] 23)).alloc (.cells #[.int .i64 a] 3)).alloc (.cells #[.int .i64 b] 3)).alloc (.cells #[.int .i64 o] 3) := by
  go_enter Try.func64, Try.ntmps64
  go_wp2
  go_ret
  exact ⟨by simp, rfl⟩

/-- The outer loop's invariant, and the four cells that are read. -/
def SoI (J : (Nat → Prop) → List Nat → World → Prop) (T₀ : Nat → Prop) (W : World) (fb tb ub : Nat) (a b o : Int) (yv : Value) (T : Nat → Prop) (pre : List Nat) (A : World) : Prop :=
  J (fun j => T j ∨ T₀ j ∨ j = W.heap.size) pre A ∧ (A.cell? ⟨W.heap.size, 0, none⟩ = some yv ∧ A.cell? ⟨fb, 0, none⟩ = some (.int .i64 a) ∧ A.cell? ⟨tb, 0, none⟩ = some (.int .i64 b) ∧ A.cell? ⟨ub, 0, none⟩ = some (.int .i64 o)) ∧ W.heap.size + 2 ≤ A.heap.size

theorem AdJ.abide {J : (Nat → Prop) → List Nat → World → Prop} {T₀ : Nat → Prop} {W : World} (hJ : Abide W.heap.size J) (hT : ∀ j, T₀ j → j < W.heap.size) {T T' : Nat → Prop} {s : List Nat} {A B : World}
    (h : J (fun j => T j ∨ T₀ j ∨ j = W.heap.size) s A) (ht : Touch (fun j => W.heap.size + 2 ≤ j ∧ T j) A B) (hT' : ∀ j, T' j → T j ∨ (A.heap.size ≤ j ∧ j < B.heap.size)) : J (fun j => T' j ∨ T₀ j ∨ j = W.heap.size) s B :=
  hJ _ _ s A B h ⟨ht.os, ht.tape, ht.output, ht.size, fun j hj hn => ht.block j hj (fun e => hn ⟨by omega, .inl e.2⟩)⟩ (fun j hj => by
    rcases hj with hj | hj
    · exact (hT' j hj).imp .inl id
    · exact .inl (.inr hj))

theorem SoI.abide {J : (Nat → Prop) → List Nat → World → Prop} {T₀ : Nat → Prop} {W : World} {fb tb ub : Nat} {a b o : Int} {yv : Value} (hJ : Abide W.heap.size J) (hT : ∀ j, T₀ j → j < W.heap.size) (hf : fb < W.heap.size) (htb : tb < W.heap.size) (hu : ub < W.heap.size) :
    Abide (W.heap.size + 2) (SoI J T₀ W fb tb ub a b o yv) := fun T T' s A B ⟨h1, ⟨h2, h3, h4, h5⟩, h6⟩ ht hT' =>
  ⟨AdJ.abide hJ hT h1 ht hT',
    ⟨(World.cell?_of_block (a := ⟨W.heap.size, 0, none⟩) (ht.block W.heap.size (by omega) (fun e => by omega))).trans h2, (World.cell?_of_block (a := ⟨fb, 0, none⟩) (ht.block fb (by omega) (fun e => by omega))).trans h3,
      (World.cell?_of_block (a := ⟨tb, 0, none⟩) (ht.block tb (by omega) (fun e => by omega))).trans h4, (World.cell?_of_block (a := ⟨ub, 0, none⟩) (ht.block ub (by omega) (fun e => by omega))).trans h5⟩, Nat.le_trans h6 ht.size⟩

set_option maxRecDepth 100000 in
set_option maxHeartbeats 2000000 in
theorem sold_walk (pb fb tb ub b o cap : Nat) (x y z : Int) (l : List Pt) (T₀ : Nat → Prop) (lp : Nat) (J Jx : (Nat → Prop) → List Nat → World → Prop) (W : World) (hpb : W.cell? ⟨pb, 0, none⟩ = some (.slice (some ⟨b, o, none⟩) l.length cap))
    (hfb : W.cell? ⟨fb, 0, none⟩ = some (.int .i64 x)) (htb : W.cell? ⟨tb, 0, none⟩ = some (.int .i64 y)) (hub : W.cell? ⟨ub, 0, none⟩ = some (.int .i64 z)) (hTf : T₀ fb) (hTt : T₀ tb) (hTu : T₀ ub) (hTb : T₀ b)
    (hTl : ∀ j, T₀ j → j < W.heap.size) (hz : validP l = true) (hl : PtAt W b o l) (hJ : Abide W.heap.size J) (hJx : Abide W.heap.size Jx)
    (hY : ∀ (T : Nat → Prop) (pre : List Nat) (k : Nat) (W1 : World), pre ++ [k] <+: List.range (ownP l).length → W.heap.size ≤ W1.heap.size → (∀ j, T j → j < W1.heap.size) → J T pre W1 → YieldAt Fence.wide 9 Try.prog lp (encO (soldAt (ownAt l) x y z) k) W1 (Took T J Jx (pre ++ [k]) W1))
    (h0 : J T₀ [] W) :
    Calls Try.prog 78 #[.func (.yield lp) #[] #[], .pointer (some ⟨pb, 0, none⟩), .pointer (some ⟨fb, 0, none⟩), .pointer (some ⟨tb, 0, none⟩), .pointer (some ⟨ub, 0, none⟩)] W fun e W' => (∃ v, e = .returned v) ∧ ∃ T, J T (List.range (ownP l).length) W' ∨ ∃ pre, pre <+: List.range (ownP l).length ∧ Jx T pre W' := by
  have lpb : pb < W.heap.size := World.block_lt_of_cell? _ _ hpb
  have lf := hTl _ hTf
  have lt := hTl _ hTt
  have lu := hTl _ hTu
  have lb := hTl _ hTb
  have HT := Lib.hid hTl
  have HJ := Lib.hid hJ
  have HJx := Lib.hid hJx
  have HY := Lib.hid hY
  clear hTl hJ hJx hY
  refine (callsIn_wide (n := 10)).1 ?_
  refine callsIn_of_wp_marks Try.func78 rfl trivial ?_ rfl
  simp only [Try.ntmps78, List.size_toArray, List.length_cons, List.length_nil, Nat.reduceAdd, Nat.reduceSub, Array.replicate_succ, Array.replicate_zero, List.push_toArray, List.append_toArray, List.nil_append, List.cons_append]
  gi_wp2_with (refine ⟨trivial, ?_⟩; gi_at_call 51; refine ((callsIn_wide (n := 9)).2 (milesOf_any (some ⟨b, o, none⟩) l.length cap _)).mono ?_; rintro e w' ⟨rfl, rfl⟩)
  obtain ⟨W0, hW0⟩ : ∃ W0, W0 = (W.alloc (.cells #[.func (.yield lp) #[] #[]] 80)).alloc (.cells #[.slice (some ⟨b, o, none⟩) l.length cap] 23) := ⟨_, rfl⟩
  have hB0 : Below W.heap.size W W0 := by rw [hW0]; exact ((Below.refl _ W).alloc (Nat.le_refl _) _).alloc (by simp) _
  have hs0 : W0.heap.size = W.heap.size + 2 := by rw [hW0]; simp
  have hyb : W0.cell? ⟨W.heap.size, 0, none⟩ = some (.func (.yield lp) #[] #[]) := by
    rw [hW0]; exact (((Below.refl _ _).alloc (Nat.le_refl _) _).cell (p := ⟨W.heap.size, 0, none⟩) (by simp)).trans (news1 W _ _ 0 _ rfl)
  have hp0 : W0.cell? ⟨W.heap.size + 1, 0, none⟩ = some (.slice (some ⟨b, o, none⟩) l.length cap) := by
    have := news1 (W.alloc (.cells #[.func (.yield lp) #[] #[]] 80)) #[.slice (some ⟨b, o, none⟩) l.length cap] 23 0 _ rfl
    rw [World.size_alloc] at this
    rw [hW0]; exact this
  have hseq := miles_comes (W.heap.size + 1) b o cap l T₀ W0 hp0 (by omega) (by omega) hTb (fun j hj => by have := HT.out j hj; omega) hz (hl.below hB0 lb)
  have hI0 : SoI J T₀ W fb tb ub x y z (.func (.yield lp) #[] #[]) T₀ [] W0 :=
    ⟨HJ.out _ _ _ W W0 h0 (Touch.of_below hB0) (fun j hj => by
      rcases hj with h | h | h
      · exact .inl h
      · exact .inl h
      · exact .inr (by omega)), ⟨hyb, (hB0.cell (p := ⟨fb, 0, none⟩) lf).trans hfb, (hB0.cell (p := ⟨tb, 0, none⟩) lt).trans htb, (hB0.cell (p := ⟨ub, 0, none⟩) lu).trans hub⟩, by omega⟩
  rw [← hW0]
  clear hW0 hyb hp0 hpb hfb htb hub
  have hAb := SoI.abide (J := J) (T₀ := T₀) (W := W) (fb := fb) (tb := tb) (ub := ub) (a := x) (b := y) (o := z) (yv := .func (.yield lp) #[] #[]) HJ.out HT.out lf lt lu
  refine rangeComes (gf := 77) (lb := #[.pointer (some ⟨W.heap.size + 1, 0, none⟩)]) (by simp [go_sem]) (enters_of Try.func77 (by kernel_rfl) rfl) hseq (fun j hj => by have := HT.out j hj; omega) (Below.refl _ _) (fun _ => rfl)
    (SoI J T₀ W fb tb ub x y z (.func (.yield lp) #[] #[])) (fun c T pre A => c = .ret ∧ Jx (fun j => T j ∨ T₀ j ∨ j = W.heap.size) pre A) (by rw [hs0]; exact hAb) (fun c => ?ix) hI0
    (fun k => { tmps := #[.func (.yield lp) #[] #[], .pointer (some ⟨pb, 0, none⟩), .pointer (some ⟨fb, 0, none⟩), .pointer (some ⟨tb, 0, none⟩), .pointer (some ⟨ub, 0, none⟩), .pointer (some ⟨W.heap.size, 0, none⟩), .int .i64 (k : Nat), .int .i64 (ownAt l k), .slice (some ⟨b, o, none⟩) l.length cap, .func (.func 77) #[] #[.pointer (some ⟨W.heap.size + 1, 0, none⟩)], .int .i64 (k : Nat), .int .i64 (ownAt l k), undef, undef, undef, undef, undef, undef, undef, undef, undef, undef, undef, undef, undef, undef], defers := [] }) ?assign ?body ?done ?stop
  case ix =>
    rw [hs0]
    exact fun T T' s A B ⟨h1, h2⟩ ht hT' => ⟨h1, AdJ.abide HJx.out HT.out h2 ht hT'⟩
  case assign =>
    intro l x W K hK
    simp only [encO]
    gi_wp2
    exact hK
  case body =>
    rintro l2 T pre k A hpre hsz hTl ⟨h1, ⟨h2, h3, h4, h5⟩, h6⟩
    have hTl1 : ∀ j, (fun j => T j ∨ T₀ j ∨ j = W.heap.size) j → j < A.heap.size := fun j hj => by
      rcases hj with h | h | h
      · exact hTl j h
      · have := HT.out j h; omega
      · omega
    obtain ⟨fn, tmps, assign, body, hy, hR⟩ := yieldIn (k := 8) (o := l2) (HY.out (fun j => T j ∨ T₀ j ∨ j = W.heap.size) pre k A hpre (by omega) hTl1 h1)
    have HR := Lib.hid hR
    have H2 := Lib.hid h2
    have H3 := Lib.hid h3
    have H4 := Lib.hid h4
    have H5 := Lib.hid h5
    clear hR hseq hAb hI0 hTl hTl1 h1 hpre
    by_cases q1 : x ≤ (k : Int)
    · by_cases q2 : (k : Int) < y
      · have hs : soldAt (ownAt l) x y z k = z := by unfold soldAt; rw [if_pos (inS_iff.2 ⟨q1, q2⟩)]
        rw [show encO (soldAt (ownAt l) x y z) k = #[.int .i64 (k : Nat), .int .i64 z] by unfold encO; rw [hs]] at hy
        gi_wp2
        refine HR.out.mono ?_
        rintro e W3 ⟨hk3, ⟨rfl, hJ3⟩ | ⟨rfl, hJx3⟩⟩
        · have HK := Lib.hid hk3
          have HJ3 := Lib.hid hJ3
          clear hk3 hJ3
          gi_wp2
          exact ⟨HK.out.less (fun j h => .inl h), HJ3.out, ⟨(HK.out.cell (p := ⟨W.heap.size, 0, none⟩) (show W.heap.size < _ by omega) (.inr (.inr rfl))).trans H2.out, (HK.out.cell (p := ⟨fb, 0, none⟩) (show fb < _ by omega) (.inr (.inl hTf))).trans H3.out,
            (HK.out.cell (p := ⟨tb, 0, none⟩) (show tb < _ by omega) (.inr (.inl hTt))).trans H4.out, (HK.out.cell (p := ⟨ub, 0, none⟩) (show ub < _ by omega) (.inr (.inl hTu))).trans H5.out⟩, by have := HK.out.size; omega⟩
        · have HK := Lib.hid hk3
          have HJ3 := Lib.hid hJx3
          clear hk3 hJx3
          gi_wp2
          exact ⟨HK.out.less (fun j h => .inl h), rfl, HJ3.out⟩
      · have hs : soldAt (ownAt l) x y z k = ownAt l k := by unfold soldAt; rw [if_neg (fun h => q2 (inS_iff.1 h).2)]
        rw [show encO (soldAt (ownAt l) x y z) k = #[.int .i64 (k : Nat), .int .i64 (ownAt l k)] by unfold encO; rw [hs]] at hy
        gi_wp2
        refine HR.out.mono ?_
        rintro e W3 ⟨hk3, ⟨rfl, hJ3⟩ | ⟨rfl, hJx3⟩⟩
        · have HK := Lib.hid hk3
          have HJ3 := Lib.hid hJ3
          clear hk3 hJ3
          gi_wp2
          exact ⟨HK.out.less (fun j h => .inl h), HJ3.out, ⟨(HK.out.cell (p := ⟨W.heap.size, 0, none⟩) (show W.heap.size < _ by omega) (.inr (.inr rfl))).trans H2.out, (HK.out.cell (p := ⟨fb, 0, none⟩) (show fb < _ by omega) (.inr (.inl hTf))).trans H3.out,
            (HK.out.cell (p := ⟨tb, 0, none⟩) (show tb < _ by omega) (.inr (.inl hTt))).trans H4.out, (HK.out.cell (p := ⟨ub, 0, none⟩) (show ub < _ by omega) (.inr (.inl hTu))).trans H5.out⟩, by have := HK.out.size; omega⟩
        · have HK := Lib.hid hk3
          have HJ3 := Lib.hid hJx3
          clear hk3 hJx3
          gi_wp2
          exact ⟨HK.out.less (fun j h => .inl h), rfl, HJ3.out⟩
    · have hs : soldAt (ownAt l) x y z k = ownAt l k := by unfold soldAt; rw [if_neg (fun h => q1 (inS_iff.1 h).1)]
      rw [show encO (soldAt (ownAt l) x y z) k = #[.int .i64 (k : Nat), .int .i64 (ownAt l k)] by unfold encO; rw [hs]] at hy
      gi_wp2
      refine HR.out.mono ?_
      rintro e W3 ⟨hk3, ⟨rfl, hJ3⟩ | ⟨rfl, hJx3⟩⟩
      · have HK := Lib.hid hk3
        have HJ3 := Lib.hid hJ3
        clear hk3 hJ3
        gi_wp2
        exact ⟨HK.out.less (fun j h => .inl h), HJ3.out, ⟨(HK.out.cell (p := ⟨W.heap.size, 0, none⟩) (show W.heap.size < _ by omega) (.inr (.inr rfl))).trans H2.out, (HK.out.cell (p := ⟨fb, 0, none⟩) (show fb < _ by omega) (.inr (.inl hTf))).trans H3.out,
          (HK.out.cell (p := ⟨tb, 0, none⟩) (show tb < _ by omega) (.inr (.inl hTt))).trans H4.out, (HK.out.cell (p := ⟨ub, 0, none⟩) (show ub < _ by omega) (.inr (.inl hTu))).trans H5.out⟩, by have := HK.out.size; omega⟩
      · have HK := Lib.hid hk3
        have HJ3 := Lib.hid hJx3
        clear hk3 hJx3
        gi_wp2
        exact ⟨HK.out.less (fun j h => .inl h), rfl, HJ3.out⟩
  case done =>
    rintro D T A hD hTD ⟨h1, _, h6⟩ hK
    have ht : Touch (fun j => W.heap.size + 2 ≤ j ∧ T j) A (A.putObj D (.deferred none)) := touch_putObj _ _ ⟨by omega, hTD⟩
    have h1' := AdJ.abide HJ.out HT.out h1 ht (fun _ => .inl)
    gi_wp2
    refine ⟨by simp, .inl ⟨_, _, rfl, run_takeDeferred hK, ?_⟩⟩
    exact ⟨_, results_none rfl _ _ _, ⟨_, rfl⟩, _, .inl h1'⟩
  case stop =>
    rintro D c T pre A hD hTD hpre ⟨rfl, h1⟩ hK
    have ht : Touch (fun j => W.heap.size + 2 ≤ j ∧ T j) A (A.putObj D (.deferred none)) := touch_putObj _ _ ⟨by omega, hTD⟩
    have h1' := AdJ.abide HJx.out HT.out h1 ht (fun _ => .inl)
    gi_wp2
    refine ⟨by simp, .inl ⟨_, _, rfl, run_takeDeferred hK, ?_⟩⟩
    exact ⟨_, results_none rfl _ _ _, ⟨_, rfl⟩, _, .inr ⟨pre, hpre, h1'⟩⟩

/-- What milesSold gives: all the miles, some with the buyer as their owner. -/
theorem sold_comes (pb fb tb ub b o cap : Nat) (x y z : Int) (l : List Pt) (T₀ : Nat → Prop) (w : World) (hpb : w.cell? ⟨pb, 0, none⟩ = some (.slice (some ⟨b, o, none⟩) l.length cap))
    (hfb : w.cell? ⟨fb, 0, none⟩ = some (.int .i64 x)) (htb : w.cell? ⟨tb, 0, none⟩ = some (.int .i64 y)) (hub : w.cell? ⟨ub, 0, none⟩ = some (.int .i64 z)) (hpl : pb < w.heap.size) (hTf : T₀ fb) (hTt : T₀ tb) (hTu : T₀ ub) (hTb : T₀ b)
    (hTl : ∀ j, T₀ j → j < w.heap.size) (hz : validP l = true) (hl : PtAt w b o l) :
    Comes Try.prog 78 #[.pointer (some ⟨pb, 0, none⟩), .pointer (some ⟨fb, 0, none⟩), .pointer (some ⟨tb, 0, none⟩), .pointer (some ⟨ub, 0, none⟩)] (encO (soldAt (ownAt l) x y z)) T₀ (List.range (ownP l).length) w := fun lp J Jx W hW hJ hJx hY h0 =>
  sold_walk pb fb tb ub b o cap x y z l T₀ lp J Jx W ((hW.cell (p := ⟨pb, 0, none⟩) hpl).trans hpb) ((hW.cell (p := ⟨fb, 0, none⟩) (hTl _ hTf)).trans hfb) ((hW.cell (p := ⟨tb, 0, none⟩) (hTl _ hTt)).trans htb) ((hW.cell (p := ⟨ub, 0, none⟩) (hTl _ hTu)).trans hub)
    hTf hTt hTu hTb (fun j hj => Nat.lt_of_lt_of_le (hTl j hj) hW.size) hz (hl.below hW (hTl _ hTb)) hJ hJx hY h0

end Go.Proofs.Ythdkjjfnockldaa
