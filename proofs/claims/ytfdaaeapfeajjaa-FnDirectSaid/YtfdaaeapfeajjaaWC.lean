/- The program's distances. -/
import Derived.Test.YtfdaaeapfeajjaaWB
import Derived.Test.YtfdaaeapfeajjaaJ
import Derived.Deep.LoopGhost
namespace Go.Proofs.Ytfdaaeapfeajjaa
open Go.RowKit Go.Maps

theorem HeapAt.kept {w w' : World} {F1 X : Nat} {A S : Nat → Prop} {l : List Pl} (h : HeapAt w F1 X A l) (ht : Touch S w w') (hX : ¬ S X) (hA : ∀ j, A j → ¬ S j) : HeapAt w' F1 X A l := by
  obtain ⟨g, cap, hx, hf, hrow, hg, hgx⟩ := h
  have hb := ht.block X (World.block_lt_of_cell? _ _ hx) hX
  exact ⟨g, cap, (World.cell?_of_block (a := ⟨X, 0, none⟩) hb).trans hx, (World.frozen?_of_block (a := ⟨X, 0, none⟩) hb).trans hf, hrow.kept (ht.block g hrow.lt (hA g hg)), hg, hgx⟩

theorem HeapAt.narrow {w : World} {F1 X : Nat} {A A' : Nat → Prop} {l : List Pl} (h : HeapAt w F1 X A l) (hA : ∀ j, j < w.heap.size → A j → A' j) : HeapAt w F1 X A' l := by
  obtain ⟨g, cap, hx, hf, hrow, hg, hgx⟩ := h
  exact ⟨g, cap, hx, hf, hrow, hA g hrow.lt hg, hgx⟩

/-- What is asked of the edges. -/
structure EdgesOk (n : Int) (g : Int → Int → Option Int) : Prop where
  n1 : 1 ≤ n
  n8 : n ≤ 8
  bd : ∀ x y m, g x y = some m → 0 ≤ x ∧ x < n ∧ 0 ≤ y ∧ y < n ∧ 1 ≤ m ∧ m ≤ 99

theorem EdgesOk.pos {n g} (h : EdgesOk n g) : Pos g := fun x y m he => (h.bd x y m he).2.2.2.2.1

theorem EdgesOk.dist {n g} (h : EdgesOk n g) {s t d : Int} (hd : Dist g s t d) : 0 ≤ d ∧ d ≤ 792 := by
  have hn : ((n.toNat : Nat) : Int) = n := Int.toNat_of_nonneg (by have := h.n1; omega)
  have hw := hd.wayN' h.pos (n := n.toNat) (fun x y m he => by have := h.bd x y m he; omega)
  have hb := hw.bound (fun x y m he => (h.bd x y m he).2.2.2.2.2)
  have := h.n8
  exact ⟨hd.nonneg h.pos, by omega⟩

theorem EdgesOk.town {n g} (h : EdgesOk n g) {s t d : Int} (hd : Dist g s t d) (hs : 0 ≤ s ∧ s < n) : 0 ≤ t ∧ t < n :=
  hd.1.inside (S := fun t => 0 ≤ t ∧ t < n) (fun x y m he => by have := h.bd x y m he; exact ⟨this.2.2.1, this.2.2.2.1⟩) hs

theorem sameKeyI {x y : Int} : (Lit.int .i64 y).sameKey (.int .i64 x) = decide (y = x) := by
  by_cases h : y = x
  · subst h; simp [WideAt.sameKey_self (isKey y)]
  · rw [Maps.sameKey_ne (litNe h)]; simp [h]

/-- What an entry of a map says of its function. -/
theorem entry_some {D : DataW Unit} {f : Int → Option Int} {x c : Int} (hf : ∀ z, D.atKey (.int .i64 x) z = ((f x).map dI).getD z) (hat : ∀ zd, D.atKey (.int .i64 x) zd = dI c) : f x = some c := by
  have h1 := (hf (dI 0)).symm.trans (hat (dI 0))
  have h2 := (hf (.lit (.bool true))).symm.trans (hat (.lit (.bool true)))
  cases hfx : f x with
  | none => rw [hfx] at h2; simp at h2
  | some m => rw [hfx] at h1; simp at h1; rw [h1]

/-- The inner loop's places: those of l, and those over edges that are no longer to come. -/
def InnerMem (g : Int → Int → Option Int) (t f : Int) (l l' : List Pl) (left : Lit → Bool) : Prop :=
  ∀ p, p ∈ l' ↔ (p ∈ l ∨ ∃ u m, g t u = some m ∧ left (.int .i64 u) = false ∧ p = (u, f + m))

theorem InnerMem.start {g : Int → Int → Option Int} {t f : Int} {l : List Pl} {D : DataW Unit} (hD : ∀ x, W64 x → Maps.has D (.int .i64 x) = ((g t x).map dI).isSome) (hw : ∀ u m, g t u = some m → W64 u) : InnerMem g t f l l (Maps.has D) := fun p => by
  constructor
  · exact .inl
  · rintro (h | ⟨u, m, he, hl, _⟩)
    · exact h
    · rw [hD u (hw u m he), he] at hl; simp at hl

theorem InnerMem.step {g : Int → Int → Option Int} {t f : Int} {l l1 l2 : List Pl} {left : Lit → Bool} {x c : Int} (h : InnerMem g t f l l1 left) (hx : g t x = some c) (hl : ∀ p, p ∈ l2 ↔ (p ∈ l1 ∨ p = (x, f + c))) :
    InnerMem g t f l l2 (fun z => left z && !z.sameKey (.int .i64 x)) := fun p => by
  rw [hl, h]
  constructor
  · rintro ((h' | ⟨u, m, he, hlu, rfl⟩) | rfl)
    · exact .inl h'
    · exact .inr ⟨u, m, he, by simp [hlu], rfl⟩
    · exact .inr ⟨x, c, hx, by simp [sameKeyI], rfl⟩
  · rintro (h' | ⟨u, m, he, hlu, rfl⟩)
    · exact .inl (.inl h')
    · by_cases e : u = x
      · subst e; rw [hx] at he; injection he with he; subst he; exact .inr rfl
      · refine .inl (.inr ⟨u, m, he, ?_, rfl⟩)
        simpa [sameKeyI, e] using hlu

theorem InnerMem.done {g : Int → Int → Option Int} {t f : Int} {l l' : List Pl} {left : Lit → Bool} (h : InnerMem g t f l l' left) (hl : ∀ kl, left kl = false) : ∀ p, p ∈ l' ↔ (p ∈ l ∨ ∃ u m, g t u = some m ∧ p = (u, f + m)) := fun p => by
  rw [h]
  constructor
  · rintro (h' | ⟨u, m, he, _, rfl⟩)
    · exact .inl h'
    · exact .inr ⟨u, m, he, rfl⟩
  · rintro (h' | ⟨u, m, he, rfl⟩)
    · exact .inl h'
    · exact .inr ⟨u, m, he, hl _, rfl⟩

/-- What distances gives: a map of its own. -/
def DistOut (n : Int) (g : Int → Int → Option Int) (s : Int) (w : World) (e : Ending) (w' : World) : Prop :=
  ∃ F c, e = .returned (.map (some F)) ∧ w.heap.size ≤ F ∧ c ≤ 1000 ∧ MapIs w' intElem F c (fun t => (distN n g s t).map dI) ∧ Below w.heap.size w w'

/-- Between two rounds. F: the map's block; X: the heap's. -/
def DijRel (n : Int) (g : Int → Int → Option Int) (s : Int) (w : World) (F X : Nat) (gk : Nat) (wr : World) : Prop :=
  ∃ (far : Int → Option Int) (l : List Pl) (c : Nat), MapIs wr intElem F c (fun t => (far t).map dI) ∧ c + unfin far n.toNat ≤ 8 ∧ HeapAt wr (F + 1) X (fun j => F < j ∧ j ≠ X) l ∧ HeapTo l l.length ∧ Dij g s far (ahead l) ∧
    gk = 90 * unfin far n.toNat + l.length ∧ gk ≤ 900 ∧ Below w.heap.size w wr ∧ (∀ p, p ∈ l → 0 ≤ p.1 ∧ p.1 < n ∧ 0 ≤ p.2 ∧ p.2 ≤ 1000) ∧ F < X ∧ X < wr.heap.size

theorem dist_bel2 {w w1 w2 : World} {o : Obj} (hbel1 : Below w.heap.size w w1) (hg2 : (w1.alloc o).grownBy w2 (some w.heap.size)) : Below w.heap.size w w2 :=
  (hbel1.alloc hbel1.size o).grown hg2 (by have := hbel1.size; simp; omega) (fun j hj => by injection hj with hj; omega)

theorem dist_box {w1 w2 : World} {t : TypeId} {F : Nat} {x y : Int} (hX1 : F + 1 + 1 < w1.heap.size) (hg2 : (w1.alloc (.cells #[.int .i64 x, .int .i64 y] t)).grownBy w2 (some F)) :
    w2.cell? ⟨w1.heap.size, 0, none⟩ = some (.int .i64 x) ∧ w2.cell? ⟨w1.heap.size, 1, none⟩ = some (.int .i64 y) :=
  ⟨hg2.cell (by simp) (by simp; omega), hg2.cell (by simp) (by simp; omega)⟩

theorem touch_none {S : Nat → Prop} {w w' : World} (h : w.grownBy w' none) : Touch S w w' := ⟨h.os, h.tape, h.output, h.size, fun j hj _ => h.block j hj (by simp)⟩

theorem ranges_touch {w w' : World} {S : Nat → Prop} {R : MElem} {b r n : Nat} {D : DataW Unit} {left : Lit → Bool} {c : Nat} (h : w.ranges Try.prog 3 R b r n D left c) (ht : Touch S w w') (hb : ¬ S b) (hr : ¬ S r) : w'.ranges Try.prog 3 R b r n D left c := by
  have h1 := h.owns.lt
  have h2 := h.lt
  obtain ⟨es, clock, since, seen, c0, hb', F, hs, hD, hr', rest⟩ := h
  exact ⟨es, clock, since, seen, c0, (ht.block b h1 hb).trans hb', F, hs, hD, (ht.block r h2 hr).trans hr', rest⟩

/-- The inner loop. -/
def InnerRel (g : Int → Int → Option Int) (F X pb r b cnt : Nat) (D : DataW Unit) (t f : Int) (l1 : List Pl) (w3 : World) (gi : Nat) (wq : World) : Prop :=
  ∃ (left : Lit → Bool) (l' : List Pl), wq.ranges Try.prog 3 intElem b r cnt D left gi ∧ HeapAt wq (F + 1) X (fun j => F < j ∧ j ≠ X ∧ j ≠ pb ∧ j ≠ r) l' ∧ HeapTo l' l'.length ∧ InnerMem g t f l1 l' left ∧ l'.length + gi ≤ l1.length + Maps.size D ∧
    Below (F + 1) w3 wq ∧ wq.cell? ⟨pb, 0, none⟩ = some (.int .i64 t) ∧ wq.cell? ⟨pb, 1, none⟩ = some (.int .i64 f)

theorem Try.info87 : (Try.prog.info? 128).map (fun i => i.size) = some 1 := by kernel_rfl

set_option maxRecDepth 100000 in
set_option maxHeartbeats 1000000 in
theorem distances_big (n : Int) (g : Int → Int → Option Int) (s : Int) (nb : Nat) (bs : Int → Nat) (cnt : Nat) (w : World) (h : NetAt w nb n bs cnt g) (he : EdgesOk n g) (hs0 : 0 ≤ s) (hs1 : s < n) (hc : cnt ≤ 80) :
    Calls Try.prog 60 #[.map (some nb), .int .i64 s] w (DistOut n g s w) := by
  have ws : W64 s := by have := he.n8; unfold W64; omega
  have hht : hasTown n s = true := (hasTown_iff n s).2 ⟨hs0, hs1⟩
  have hmm := @run_makeMap Try.prog
  have h1 := h.below ((Below.refl _ w).alloc (Nat.le_refl _) (.map #[] 0))
  have hmade := MapIs.made w intElem
  have Hmade := Lib.hid hmade; clear hmade
  have He := Lib.hid he; clear he
  have H1 := Lib.hid h1; clear h1
  have H0 := Lib.hid h; clear h
  go_enter Try.func60, Try.ntmps60
  go_wp2_with fail
  refine (has_any nb n bs cnt g s _ H1.out ws).mono ?_
  rintro e w1 ⟨rfl, rfl⟩
  rw [hht]
  go_wp2_with fail
  go_loopg [7] (90 * unfin (fun _ => none) n.toNat + 1) (fun gk _ wr => DijRel n g s w w.heap.size (w.heap.size + 1 + 1) gk wr)
  case atStart =>
    have hu := unfin_le (fun _ => none) n.toNat
    have hn8 := He.out.n8
    refine ⟨fun _ => none, [(s, 0)], 0, (Hmade.out.alloc _).alloc _, by omega, ⟨w.heap.size + 1, 1, ?_, ?_, ⟨⟨#[.int .i64 s, .int .i64 0], ?_, rfl, ?_⟩, Nat.le_refl _, by simp, by unfold maxLen; omega⟩, ⟨by omega, by omega⟩, by omega⟩, ?_, Dij.init s, rfl, by omega, ?_, ?_, by omega, ?_⟩
    · rw [World.cell?_alloc_at _ _ _ _ (by simp)]; rfl
    · rw [World.frozen?_alloc_at _ _ _ _ (by simp)]
    · rw [Below.heap_alloc _ _ _ (by simp)]
      simpa using heap_alloc_new (w.alloc (.map #[] 0)) (.cells #[.int .i64 s, .int .i64 0] 126)
    · intro i hi
      obtain rfl : i = 0 := by simpa using hi
      exact ⟨rfl, rfl⟩
    · intro j h0 hj; simp at hj; omega
    · exact (((Below.refl _ _).alloc (Nat.le_refl _) _).alloc (by simp) _).alloc (by simp; omega) _
    · intro p hp
      obtain rfl : p = (s, 0) := by simpa using hp
      exact ⟨hs0, hs1, by simp, by simp⟩
    · simp
  case round =>
    obtain ⟨far, l, c, hfar, hcu, hheap, hto, hdij, hgk, hgk4, hbel, hbds, hFX, hXs⟩ := hrel
    obtain ⟨kk, rfl⟩ : ∃ kk : Nat, kk = gk := ⟨_, rfl⟩
    have hx := hheap
    obtain ⟨g0, cap0, hx, _, _, _, _⟩ := hx
    have Hcu := Lib.hid hcu; clear hcu
    have Hheap := Lib.hid hheap; clear hheap
    have Hto := Lib.hid hto; clear hto
    have Hdij := Lib.hid hdij; clear hdij
    have Hgk := Lib.hid hgk; clear hgk
    have Hbds := Lib.hid hbds; clear hbds
    have Hfar := Lib.hid hfar; clear hfar
    by_cases hl : 0 < l.length
    · have hl' : (0 : Int) < (l.length : Int) := by omega
      have Hta := Lib.hid ta_place
      go_wp2_with fail
      refine (len_any _ _ _ _).mono ?_
      rintro e w1 ⟨rfl, rfl⟩
      clear hx
      go_wp2_with fail
      refine (heapPop_any _ _ _ l _ Hheap.out Hto.out hl (by have := Hgk.out; omega)).mono ?_
      rintro e w1 ⟨x, l1, rfl, hheap1, hto1, hlen1, hxl, hmin, hsub, hrest, ht1⟩
      have hta := ta_place x.1 x.2
      have Hheap1 := Lib.hid hheap1; clear hheap1
      have Hto1 := Lib.hid hto1; clear hto1
      have Hlen1 := Lib.hid hlen1; clear hlen1
      have Hxl := Lib.hid hxl; clear hxl
      have Hmin := Lib.hid hmin; clear hmin
      have Hsub := Lib.hid hsub; clear hsub
      have Hrest := Lib.hid hrest; clear hrest
      have hb1 : Below (w.heap.size + 1) wr w1 := ht1.below (fun j hj => by rcases hj with h | ⟨h, _⟩ <;> omega) (by omega)
      have hxb := Hbds.out x Hxl.out
      have hbel1 : Below w.heap.size w w1 := hbel.trans (hb1.mono (by omega))
      have wx : W64 x.1 := by have := He.out.n8; unfold W64; omega
      have hfar1 : MapIs (w1.alloc (.cells #[.int .i64 x.1, .int .i64 x.2] 126)) intElem w.heap.size c (fun t => (far t).map dI) := (Hfar.out.below hb1 (by omega)).alloc _
      cases hfx : far x.1 with
      | some d =>
        have Hfx := Lib.hid hfx
        go_wp2_with (at_lookup; refine wp_look_ok _ rfl _ _ rfl w.heap.size c far rfl hfar1 x.1 wx rfl ?_; rw [hfx])
        have hX1 : w.heap.size + 1 + 1 < w1.heap.size := Nat.lt_of_lt_of_le hXs ht1.size
        have hgkv := Hgk.out
        have hl1 := Hlen1.out
        go_roundg (kk - 1)
        case measure => omega
        case rel =>
          refine ⟨far, l1, c, hfar1, Hcu.out, Hheap1.out.kept (Touch.of_below (S := fun _ => False) ((Below.refl _ _).alloc (Nat.le_refl _) _)) (fun h => h) (fun _ _ h => h), Hto1.out, Hdij.out.drop Hfx.out Hsub.out Hrest.out, by omega, by omega, hbel1.alloc hbel1.size _, fun p hp => Hbds.out p (Hsub.out p hp), hFX, by simp; omega⟩
      | none =>
        have Hfx := Lib.hid hfx
        have hc9 : c < maxLen := by have := Hcu.out; unfold maxLen; omega
        have wx2 : W64 x.2 := by unfold W64; omega
        have tok1 : True := trivial
        have hX1 : w.heap.size + 1 + 1 < w1.heap.size := Nat.lt_of_lt_of_le hXs ht1.size
        have hx1n : x.1 < n := hxb.2.1
        have hx1p : 0 ≤ x.1 := hxb.1
        have hn8 := He.out.n8
        go_wp2_with (first | (at_lookup; clear tok1; refine wp_look_ok _ rfl _ _ rfl w.heap.size c far rfl hfar1 x.1 wx rfl ?_; rw [hfx]) | (at_mapUpdate; refine wp_put _ rfl _ _ _ 96 3 rfl Try.underlying96 intElem w.heap.size c _ rfl hfar1 hc9 x.1 wx _ rfl rfl (dI x.2) (plainElem_int Try.underlying3 (wf_of wx2)) ?_; intro w2 hfar2 hg2; have hbel2 := dist_bel2 hbel1 hg2; have hnet2 := H0.out.below hbel2; obtain ⟨D, hD2, hDf⟩ := hnet2.inner x.1 hx1p hx1n; obtain ⟨p0, p1⟩ := dist_box hX1 hg2; have HDf := Lib.hid hDf; clear hDf) | (at_lookup; refine wp_lookNet _ rfl _ _ rfl rfl _ rfl hnet2 hx1p hx1n hn8 ?_) | (at_range; refine wpList_range_own _ rfl _ 96 rfl 3 3 keyInt Try.underlying96 intElem (bs x.1) cnt D rfl hD2 ?_; intro w3 hrg0 hg3 hs3))
        have hw2 : w1.heap.size + 1 ≤ w2.heap.size := by have := hg2.size; simpa using this
        have hheap3 : HeapAt w3 (w.heap.size + 1) (w.heap.size + 1 + 1) (fun j => w.heap.size < j ∧ j ≠ w.heap.size + 1 + 1 ∧ j ≠ w1.heap.size ∧ j ≠ w2.heap.size) l1 :=
          ((((Hheap1.out.narrow (A' := fun j => w.heap.size < j ∧ j ≠ w.heap.size + 1 + 1 ∧ j ≠ w1.heap.size ∧ j ≠ w2.heap.size) (fun j hj hA => ⟨hA.1, hA.2, by omega, by omega⟩)).kept (Touch.of_below (S := fun _ => False) ((Below.refl _ _).alloc (Nat.le_refl _) _)) (fun h => h) (fun _ _ h => h)).kept (Touch.grown (S := fun j => j = w.heap.size) hg2 rfl) (by omega) (fun j hA h => by have := hA.1; omega)).kept (touch_none hg3) (fun h => h) (fun _ _ h => h))
        have Hheap3 := Lib.hid hheap3; clear hheap3
        have hb3 : Below (w.heap.size + 1) w3 w3 := Below.refl _ _
        have q0 := hg3.cell p0 (by simp)
        have q1 := hg3.cell p1 (by simp)
        have hsz : Maps.size D ≤ 80 := Nat.le_trans hD2.size_le hc
        have hbel3 : Below w.heap.size w w3 := hbel2.grown hg3 hbel2.size (fun j hj => by cases hj)
        have Hfar3 := Lib.hid (hfar2.kept hg3 (by simp))
        have hstart := InnerMem.start (f := x.2) (l := l1) (fun u hu => (HDf.out u hu).1) (fun u m hum => by have := He.out.bd _ _ _ hum; have := He.out.n8; unfold W64; omega)
        have Hstart := Lib.hid hstart; clear hstart
        have hw3 : w2.heap.size < w3.heap.size := by omega
        have hdist : Dist g s x.1 x.2 := by
          rcases Hdij.out.take He.out.pos (t := x.1) (f := x.2) Hxl.out (fun u g hu => Hmin.out (u, g) hu) with h' | ⟨d, hd⟩
          · exact h'
          · rw [Hfx.out] at hd; cases hd
        have Hdist := Lib.hid hdist; clear hdist
        clear hfar2 hg2 hD2 hg3 p0 p1 hnet2 hfar1 hfx
        go_loopg [10] (Maps.size D) (fun gi _ wq => InnerRel g w.heap.size (w.heap.size + 1 + 1) w1.heap.size w2.heap.size (bs x.1) cnt D x.1 x.2 l1 w3 gi wq)
        case atStart => exact ⟨_, l1, hrg0, Hheap3.out, Hto1.out, Hstart.out, Nat.le_refl _, hb3, q0, q1⟩
        case round =>
          obtain ⟨left, l', hrg, hheap4, hto4, hmem4, hlen4, hb4, r0, r1⟩ := hrel
          have Hheap4 := Lib.hid hheap4; clear hheap4
          have Hto4 := Lib.hid hto4; clear hto4
          have Hmem4 := Lib.hid hmem4; clear hmem4
          obtain ⟨wo, rfl⟩ : ∃ wo : World, wo = wr := ⟨_, rfl⟩
          go_wp2_with (at_next; refine wpList_next_ranges_ii _ rfl _ rfl 3 3 .i64 .i64 keyInt Try.underlying3 Try.underlying3 (bs x.1) w2.heap.size cnt _ _ _ rfl hrg ?_ ?_)
          · intro hc0 hl0
            go_wp2
            have hus := unfin_set (f := x.2) (n := n.toNat) hx1p (by omega) Hfx.out
            have hl1 := Hlen1.out
            have hgkv := Hgk.out
            have hcuv := Hcu.out
            have hmemd := Hmem4.out.done hl0
            go_roundg (90 * unfin (setFar far x.1 x.2) n.toNat + l'.length)
            case measure => omega
            case rel =>
              refine ⟨setFar far x.1 x.2, l', c + 1, (Hfar3.out.below hb4 (by omega)).congr fun t _ => ?_, by omega, Hheap4.out.narrow (fun j _ hA => ⟨hA.1, hA.2.1⟩), Hto4.out, Hdij.out.final He.out.pos Hxl.out Hmin.out Hfx.out Hrest.out Hsub.out hmemd, rfl, by omega, hbel3.trans (hb4.mono (by omega)), fun p hp => ?_, hFX, by have := hb4.size; omega⟩
              · unfold setFar
                by_cases e : t = x.1
                · rw [if_pos e, if_pos e]; rfl
                · rw [if_neg e, if_neg e]
              · rcases (hmemd p).1 hp with h | ⟨u, m, hum, rfl⟩
                · exact Hbds.out p (Hsub.out p h)
                · have h1 := He.out.bd _ _ _ hum
                  have h2 := He.out.dist Hdist.out
                  refine ⟨h1.2.2.1, h1.2.2.2.1, ?_, ?_⟩ <;> simp only <;> omega
          · intro y c4 w4 cnt4 hwy hwc hly hat hrg4 hlt4 hg4 hs4 hen
            have wy := of_wf hwy
            have hgy : g x.1 y = some c4 := entry_some (HDf.out y wy).2 hat
            have hbd := He.out.bd _ _ _ hgy
            have hd2 := He.out.dist Hdist.out
            have hw4 := hb4.size
            have hheap5 := Hheap4.out.kept (Touch.grown (S := fun j => j = w2.heap.size) hg4 rfl) (by omega) (fun j hA h => hA.2.2.2 h)
            have Hheap5 := Lib.hid hheap5; clear hheap5
            have s0 := hg4.cell r0 (by simp; omega)
            have s1 := hg4.cell r1 (by simp; omega)
            have Hgy := Lib.hid hgy; clear hgy
            have Hhat := Lib.hid hat; clear hat
            have Hly := Lib.hid hly; clear hly
            obtain ⟨hb5, hb6⟩ := hbd.2.2.2.2
            obtain ⟨hd3, hd4⟩ := hd2
            clear r0 r1 hrg
            go_wp2_with fail
            refine (heapPush_any _ _ _ l' y (x.2 + c4) w4 Hheap5.out Hto4.out (by have := Hlen1.out; have := Hgk.out; omega) (by omega) (fun j hj => ⟨by omega, by omega, by omega, by omega⟩)).mono ?_
            rintro e w5 ⟨l2, rfl, hheap6, hto6, hlen6, hmem6, ht6⟩
            have Hheap6 := Lib.hid hheap6; clear hheap6
            have Hto6 := Lib.hid hto6; clear hto6
            have Hlen6 := Lib.hid hlen6; clear hlen6
            have Hmem6 := Lib.hid hmem6; clear hmem6
            have hbsx := (H0.out.inner x.1 hx1p hx1n).lt
            go_wp2
            go_roundg cnt4
            case measure => exact hlt4
            case rel =>
              have hl6 := Hlen6.out
              refine ⟨_, l2, ranges_touch hrg4 ht6 (by rintro (h | ⟨h, _⟩) <;> omega) (by rintro (h | ⟨_, _, _, h⟩) <;> omega), Hheap6.out, Hto6.out, Hmem4.out.step Hgy.out Hmem6.out, by omega, (hb4.grown hg4 (by omega) (fun j hj => by injection hj with hj; omega)).trans (ht6.below (by rintro j (h | ⟨h, _⟩) <;> omega) (by omega)), ?_, ?_⟩
              · rw [World.cell?_of_block (a := ⟨w1.heap.size, 0, none⟩) (ht6.block w1.heap.size (by omega) (by rintro (h | ⟨_, _, h, _⟩) <;> omega))]; exact s0
              · rw [World.cell?_of_block (a := ⟨w1.heap.size, 1, none⟩) (ht6.block w1.heap.size (by omega) (by rintro (h | ⟨_, _, h, _⟩) <;> omega))]; exact s1
    · obtain rfl : l = [] := List.length_eq_zero_iff.1 (by omega)
      have hle : (([] : List Pl).length : Int) ≤ 0 := by simp
      go_wp2_with fail
      refine (len_any _ _ _ _).mono ?_
      rintro e w1 ⟨rfl, rfl⟩
      go_wp2
      go_ret
      have hdone := Hdij.out.done He.out.pos (fun u g hu => by simp [ahead] at hu)
      refine ⟨w.heap.size, c, rfl, Nat.le_refl _, by have := Hcu.out; omega, Hfar.out.congr fun t _ => ?_, hbel⟩
      rw [hdone t]
      unfold distN
      rw [if_pos ⟨hs0, hs1⟩]

theorem distances_yes (n : Int) (g : Int → Int → Option Int) (s : Int) (nb : Nat) (bs : Int → Nat) (cnt : Nat) (w : World) (h : NetAt w nb n bs cnt g) (he : EdgesOk n g) (hs0 : 0 ≤ s) (hs1 : s < n) (hc : cnt ≤ 32) :
    Calls Try.prog 60 #[.map (some nb), .int .i64 s] w (DistOut n g s w) := distances_big n g s nb bs cnt w h he hs0 hs1 (by omega)

end Go.Proofs.Ytfdaaeapfeajjaa
