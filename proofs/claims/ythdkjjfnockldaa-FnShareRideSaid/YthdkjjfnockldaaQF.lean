/- milesRidden: the miles of a stretch of a road, each with its owner. -/
import Derived.Test.YthdkjjfnockldaaQE
namespace Go.Proofs.Ythdkjjfnockldaa
open Go.RowKit Go.Shelf
attribute [local go_sem] Oper.semAt_some

set_option maxHeartbeats 400000 in
theorem milesRidden_any (ad : Option Addr) (n cap : Nat) (a b : Int) (w : World) :
    Calls Try.prog 75 #[.slice ad n cap, .int .i64 a, .int .i64 b] w fun e w' =>
      e = .returned (.func (.func 81) #[] #[.pointer (some ⟨w.heap.size, 0, none⟩), .pointer (some ⟨w.heap.size + 1, 0, none⟩), .pointer (some ⟨w.heap.size + 2, 0, none⟩)]) ∧
      w' = ((w.alloc (.cells #[.slice ad n cap] 23)).alloc (.cells #[.int .i64 a] 3)).alloc (.cells #[.int .i64 b] 3) := by
  go_enter Try.func75, Try.ntmps75
  go_wp2
  go_ret
  exact ⟨by simp, rfl⟩

theorem filter_pre {p : Nat → Bool} {pre xs : List Nat} {k : Nat} (h : pre ++ [k] <+: xs) (hp : p k = true) : pre.filter p ++ [k] <+: xs.filter p := by
  have := h.filter p
  rwa [List.filter_append, List.filter_cons, if_pos hp, List.filter_nil] at this
theorem filter_yes {p : Nat → Bool} {pre : List Nat} {k : Nat} (hp : p k = true) : (pre ++ [k]).filter p = pre.filter p ++ [k] := by
  rw [List.filter_append, List.filter_cons, if_pos hp, List.filter_nil]
theorem filter_no {p : Nat → Bool} {pre : List Nat} {k : Nat} (hp : p k = false) : (pre ++ [k]).filter p = pre.filter p := by
  rw [List.filter_append, List.filter_cons, if_neg (by rw [hp]; simp), List.filter_nil, List.append_nil]

/-- The outer loop's invariant, and the four cells that are read. -/
def RiI (J : (Nat → Prop) → List Nat → World → Prop) (T₀ : Nat → Prop) (W : World) (fb tb : Nat) (a b : Int) (yv : Value) (T : Nat → Prop) (pre : List Nat) (A : World) : Prop :=
  J (fun j => T j ∨ T₀ j ∨ j = W.heap.size) (pre.filter (inS a b)) A ∧ (A.cell? ⟨W.heap.size, 0, none⟩ = some yv ∧ A.cell? ⟨fb, 0, none⟩ = some (.int .i64 a) ∧ A.cell? ⟨tb, 0, none⟩ = some (.int .i64 b)) ∧ W.heap.size + 2 ≤ A.heap.size

theorem RiI.abide {J : (Nat → Prop) → List Nat → World → Prop} {T₀ : Nat → Prop} {W : World} {fb tb : Nat} {a b : Int} {yv : Value} (hJ : Abide W.heap.size J) (hT : ∀ j, T₀ j → j < W.heap.size) (hf : fb < W.heap.size) (htb : tb < W.heap.size) :
    Abide (W.heap.size + 2) (RiI J T₀ W fb tb a b yv) := fun T T' s A B ⟨h1, ⟨h2, h3, h4⟩, h6⟩ ht hT' =>
  ⟨AdJ.abide hJ hT h1 ht hT',
    ⟨(World.cell?_of_block (a := ⟨W.heap.size, 0, none⟩) (ht.block W.heap.size (by omega) (fun e => by omega))).trans h2, (World.cell?_of_block (a := ⟨fb, 0, none⟩) (ht.block fb (by omega) (fun e => by omega))).trans h3,
      (World.cell?_of_block (a := ⟨tb, 0, none⟩) (ht.block tb (by omega) (fun e => by omega))).trans h4⟩, Nat.le_trans h6 ht.size⟩

set_option maxRecDepth 100000 in
set_option maxHeartbeats 2000000 in
theorem ridden_walk (pb fb tb b o cap : Nat) (x y : Int) (l : List Pt) (T₀ : Nat → Prop) (lp : Nat) (J Jx : (Nat → Prop) → List Nat → World → Prop) (W : World) (hpb : W.cell? ⟨pb, 0, none⟩ = some (.slice (some ⟨b, o, none⟩) l.length cap))
    (hfb : W.cell? ⟨fb, 0, none⟩ = some (.int .i64 x)) (htb : W.cell? ⟨tb, 0, none⟩ = some (.int .i64 y)) (hTf : T₀ fb) (hTt : T₀ tb) (hTb : T₀ b)
    (hTl : ∀ j, T₀ j → j < W.heap.size) (hz : validP l = true) (hl : PtAt W b o l) (hJ : Abide W.heap.size J) (hJx : Abide W.heap.size Jx)
    (hY : ∀ (T : Nat → Prop) (pre : List Nat) (k : Nat) (W1 : World), pre ++ [k] <+: (List.range (ownP l).length).filter (inS x y) → W.heap.size ≤ W1.heap.size → (∀ j, T j → j < W1.heap.size) → J T pre W1 → YieldAt Fence.wide 9 Try.prog lp (encO (ownAt l) k) W1 (Took T J Jx (pre ++ [k]) W1))
    (h0 : J T₀ [] W) :
    Calls Try.prog 81 #[.func (.yield lp) #[] #[], .pointer (some ⟨pb, 0, none⟩), .pointer (some ⟨fb, 0, none⟩), .pointer (some ⟨tb, 0, none⟩)] W fun e W' => (∃ v, e = .returned v) ∧ ∃ T, J T ((List.range (ownP l).length).filter (inS x y)) W' ∨ ∃ pre, pre <+: (List.range (ownP l).length).filter (inS x y) ∧ Jx T pre W' := by
  have lpb : pb < W.heap.size := World.block_lt_of_cell? _ _ hpb
  have lf := hTl _ hTf
  have lt := hTl _ hTt
  have lb := hTl _ hTb
  have HT := Lib.hid hTl
  have HJ := Lib.hid hJ
  have HJx := Lib.hid hJx
  have HY := Lib.hid hY
  clear hTl hJ hJx hY
  refine (callsIn_wide (n := 10)).1 ?_
  refine callsIn_of_wp_marks Try.func81 rfl trivial ?_ rfl
  simp only [Try.ntmps81, List.size_toArray, List.length_cons, List.length_nil, Nat.reduceAdd, Nat.reduceSub, Array.replicate_succ, Array.replicate_zero, List.push_toArray, List.append_toArray, List.nil_append, List.cons_append]
  gi_wp2_with (refine ⟨trivial, ?_⟩; gi_at_call 51; refine ((callsIn_wide (n := 9)).2 (milesOf_any (some ⟨b, o, none⟩) l.length cap _)).mono ?_; rintro e w' ⟨rfl, rfl⟩)
  obtain ⟨W0, hW0⟩ : ∃ W0, W0 = (W.alloc (.cells #[.func (.yield lp) #[] #[]] 80)).alloc (.cells #[.slice (some ⟨b, o, none⟩) l.length cap] 23) := ⟨_, rfl⟩
  have hB0 : Below W.heap.size W W0 := by rw [hW0]; exact ((Below.refl _ W).alloc (Nat.le_refl _) _).alloc (by simp) _
  have hs0 : W0.heap.size = W.heap.size + 2 := by rw [hW0]; simp
  have hyb : W0.cell? ⟨W.heap.size, 0, none⟩ = some (.func (.yield lp) #[] #[]) := by
    rw [hW0]; exact (((Below.refl _ _).alloc (Nat.le_refl _) _).cell (p := ⟨W.heap.size, 0, none⟩) (by simp)).trans (news1 W _ _ 0 _ rfl)
  have hp0 : W0.cell? ⟨W.heap.size + 1, 0, none⟩ = some (.slice (some ⟨b, o, none⟩) l.length cap) := by
    have := news1 (W.alloc (.cells #[.func (.yield lp) #[] #[]] 80)) #[.slice (some ⟨b, o, none⟩) l.length cap] 23 0 _ rfl
    rw [World.size_alloc] at this
    rw [hW0]; exact this
  have hseq := miles_comes (W.heap.size + 1) b o cap l T₀ W0 hp0 (by omega) (by omega) hTb (fun j hj => by have := HT.out j hj; omega) hz (hl.below hB0 lb)
  have hI0 : RiI J T₀ W fb tb x y (.func (.yield lp) #[] #[]) T₀ [] W0 :=
    ⟨HJ.out _ _ _ W W0 h0 (Touch.of_below hB0) (fun j hj => by
      rcases hj with h | h | h
      · exact .inl h
      · exact .inl h
      · exact .inr (by omega)), ⟨hyb, (hB0.cell (p := ⟨fb, 0, none⟩) lf).trans hfb, (hB0.cell (p := ⟨tb, 0, none⟩) lt).trans htb⟩, by omega⟩
  rw [← hW0]
  clear hW0 hyb hp0 hpb hfb htb
  have hAb := RiI.abide (J := J) (T₀ := T₀) (W := W) (fb := fb) (tb := tb) (a := x) (b := y) (yv := .func (.yield lp) #[] #[]) HJ.out HT.out lf lt
  refine rangeComes (gf := 77) (lb := #[.pointer (some ⟨W.heap.size + 1, 0, none⟩)]) (by simp [go_sem]) (enters_of Try.func77 (by kernel_rfl) rfl) hseq (fun j hj => by have := HT.out j hj; omega) (Below.refl _ _) (fun _ => rfl)
    (RiI J T₀ W fb tb x y (.func (.yield lp) #[] #[])) (fun c T pre A => c = .ret ∧ Jx (fun j => T j ∨ T₀ j ∨ j = W.heap.size) (pre.filter (inS x y)) A) (by rw [hs0]; exact hAb) (fun c => ?ix) hI0
    (fun k => { tmps := #[.func (.yield lp) #[] #[], .pointer (some ⟨pb, 0, none⟩), .pointer (some ⟨fb, 0, none⟩), .pointer (some ⟨tb, 0, none⟩), .pointer (some ⟨W.heap.size, 0, none⟩), .int .i64 (k : Nat), .int .i64 (ownAt l k), .slice (some ⟨b, o, none⟩) l.length cap, .func (.func 77) #[] #[.pointer (some ⟨W.heap.size + 1, 0, none⟩)], .int .i64 (k : Nat), .int .i64 (ownAt l k), undef, undef, undef, undef, undef, undef, undef, undef, undef, undef, undef, undef, undef, undef, undef], defers := [] }) ?assign ?body ?done ?stop
  case ix =>
    rw [hs0]
    exact fun T T' s A B ⟨h1, h2⟩ ht hT' => ⟨h1, AdJ.abide HJx.out HT.out h2 ht hT'⟩
  case assign =>
    intro l x W K hK
    simp only [encO]
    gi_wp2
    exact hK
  case body =>
    rintro l2 T pre k A hpre hsz hTl ⟨h1, ⟨h2, h3, h4⟩, h6⟩
    have hTl1 : ∀ j, (fun j => T j ∨ T₀ j ∨ j = W.heap.size) j → j < A.heap.size := fun j hj => by
      rcases hj with h | h | h
      · exact hTl j h
      · have := HT.out j h; omega
      · omega
    by_cases q : inS x y k = true
    · obtain ⟨q1, q2⟩ := inS_iff.1 q
      obtain ⟨fn, tmps, assign, body, hy, hR⟩ := yieldIn (k := 8) (o := l2) (HY.out (fun j => T j ∨ T₀ j ∨ j = W.heap.size) (pre.filter (inS x y)) k A (filter_pre hpre q) (by omega) hTl1 h1)
      rw [show encO (ownAt l) k = #[.int .i64 (k : Nat), .int .i64 (ownAt l k)] from rfl] at hy
      have hf := filter_yes (pre := pre) q
      have HR := Lib.hid hR
      have H2 := Lib.hid h2
      have H3 := Lib.hid h3
      have H4 := Lib.hid h4
      have HF := Lib.hid hf
      clear hR hseq hAb hI0 hTl hTl1 h1 hpre hf q
      gi_wp2
      refine HR.out.mono ?_
      rintro e W3 ⟨hk3, ⟨rfl, hJ3⟩ | ⟨rfl, hJx3⟩⟩
      · have HK := Lib.hid hk3
        have HJ3 := Lib.hid hJ3
        clear hk3 hJ3
        gi_wp2
        exact ⟨HK.out.less (fun j h => .inl h), by rw [HF.out]; exact HJ3.out, ⟨(HK.out.cell (p := ⟨W.heap.size, 0, none⟩) (show W.heap.size < _ by omega) (.inr (.inr rfl))).trans H2.out, (HK.out.cell (p := ⟨fb, 0, none⟩) (show fb < _ by omega) (.inr (.inl hTf))).trans H3.out,
          (HK.out.cell (p := ⟨tb, 0, none⟩) (show tb < _ by omega) (.inr (.inl hTt))).trans H4.out⟩, by have := HK.out.size; omega⟩
      · have HK := Lib.hid hk3
        have HJ3 := Lib.hid hJx3
        clear hk3 hJx3
        gi_wp2
        exact ⟨HK.out.less (fun j h => .inl h), rfl, by rw [HF.out]; exact HJ3.out⟩
    · have hf := filter_no (pre := pre) (by simpa using q : inS x y k = false)
      have HF := Lib.hid hf
      have H1 := Lib.hid h1
      have Hq := Lib.hid (fun h => q (inS_iff.2 h))
      clear hseq hAb hI0 hTl hTl1 h1 hpre hf q
      by_cases q1 : x ≤ (k : Int)
      · have q2 : ¬ (k : Int) < y := fun h => Hq.out ⟨q1, h⟩
        gi_wp2
        refine ⟨fun _ h => (by cases h), ?_⟩
        gi_wp2
        exact ⟨Keep.refl _ _, by rw [HF.out]; exact H1.out, ⟨h2, h3, h4⟩, h6⟩
      · gi_wp2
        refine ⟨fun _ h => (by cases h), ?_⟩
        gi_wp2
        exact ⟨Keep.refl _ _, by rw [HF.out]; exact H1.out, ⟨h2, h3, h4⟩, h6⟩
  case done =>
    rintro D T A hD hTD ⟨h1, _, h6⟩ hK
    have ht : Touch (fun j => W.heap.size + 2 ≤ j ∧ T j) A (A.putObj D (.deferred none)) := touch_putObj _ _ ⟨by omega, hTD⟩
    have h1' := AdJ.abide HJ.out HT.out h1 ht (fun _ => .inl)
    gi_wp2
    refine ⟨by simp, .inl ⟨_, _, rfl, run_takeDeferred hK, ?_⟩⟩
    exact ⟨_, results_none rfl _ _ _, ⟨_, rfl⟩, _, .inl h1'⟩
  case stop =>
    rintro D c T pre A hD hTD hpre ⟨rfl, h1⟩ hK
    have ht : Touch (fun j => W.heap.size + 2 ≤ j ∧ T j) A (A.putObj D (.deferred none)) := touch_putObj _ _ ⟨by omega, hTD⟩
    have h1' := AdJ.abide HJx.out HT.out h1 ht (fun _ => .inl)
    gi_wp2
    refine ⟨by simp, .inl ⟨_, _, rfl, run_takeDeferred hK, ?_⟩⟩
    exact ⟨_, results_none rfl _ _ _, ⟨_, rfl⟩, _, .inr ⟨_, hpre.filter _, h1'⟩⟩

/-- What milesRidden gives: the miles of the stretch. -/
theorem ridden_comes (pb fb tb b o cap : Nat) (x y : Int) (l : List Pt) (T₀ : Nat → Prop) (w : World) (hpb : w.cell? ⟨pb, 0, none⟩ = some (.slice (some ⟨b, o, none⟩) l.length cap))
    (hfb : w.cell? ⟨fb, 0, none⟩ = some (.int .i64 x)) (htb : w.cell? ⟨tb, 0, none⟩ = some (.int .i64 y)) (hpl : pb < w.heap.size) (hTf : T₀ fb) (hTt : T₀ tb) (hTb : T₀ b)
    (hTl : ∀ j, T₀ j → j < w.heap.size) (hz : validP l = true) (hl : PtAt w b o l) :
    Comes Try.prog 81 #[.pointer (some ⟨pb, 0, none⟩), .pointer (some ⟨fb, 0, none⟩), .pointer (some ⟨tb, 0, none⟩)] (encO (ownAt l)) T₀ ((List.range (ownP l).length).filter (inS x y)) w := fun lp J Jx W hW hJ hJx hY h0 =>
  ridden_walk pb fb tb b o cap x y l T₀ lp J Jx W ((hW.cell (p := ⟨pb, 0, none⟩) hpl).trans hpb) ((hW.cell (p := ⟨fb, 0, none⟩) (hTl _ hTf)).trans hfb) ((hW.cell (p := ⟨tb, 0, none⟩) (hTl _ hTt)).trans htb)
    hTf hTt hTb (fun j hj => Nat.lt_of_lt_of_le (hTl j hj) hW.size) hz (hl.below hW (hTl _ hTb)) hJ hJx hY h0

end Go.Proofs.Ythdkjjfnockldaa
