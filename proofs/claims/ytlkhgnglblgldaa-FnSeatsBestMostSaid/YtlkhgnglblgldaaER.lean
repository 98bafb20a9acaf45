/- The program's planOf: all get their seats in the order of From. -/
import Derived.Test.YtlkhgnglblgldaaES
import Derived.Test.YtlkhgnglblgldaaEK
namespace Go.Proofs.Ytlkhgnglblgldaa
open Go.RowKit

theorem IntAt.zeros (w : World) (n : Nat) (t : TypeId) : IntAt (w.alloc (.cells (madeCells #[.int .i64 0] n) t)) w.heap.size 0 (List.replicate n 0) := by
  intro i hi
  rw [List.length_replicate] at hi
  rw [Nat.zero_add, World.cell?_alloc_new]
  rw [← Array.getElem?_toList, toList_madeCells_one, List.getElem?_replicate, if_pos hi]
  simp [List.getD, hi]

theorem IntAt.put {w : World} {b n : Nat} {l : List Int} (h : IntAt w b 0 l) (hr : Room w b n) (hn : l.length ≤ n) {i : Nat} (hi : i < l.length) (x : Int) : IntAt (w.setCell ⟨b, i, none⟩ (.int .i64 x)) b 0 (l.set i x) := by
  intro j hj
  rw [List.length_set] at hj
  rw [Nat.zero_add]
  by_cases e : j = i
  · subst e
    obtain ⟨u, hu⟩ := hr.1 j (by omega)
    rw [World.cell?_setCell_same _ _ _ hu]
    simp [List.getD, hj]
  · rw [World.cell?_setCell_other _ _ _ _ (by intro h; injection h; omega)]
    have := h j hj
    rw [Nat.zero_add] at this
    rw [this]
    simp [List.getD, List.getElem?_set, Ne.symm e]

theorem IntAt.touch {w w' : World} {b o : Nat} {l : List Int} {S : Nat → Prop} (h : IntAt w b o l) (ht : Touch S w w') (hb : b < w.heap.size) (hS : ¬ S b) : IntAt w' b o l := fun i hi => by
  rw [World.cell?_of_block (a := ⟨b, o + i, none⟩) (ht.block b hb hS)]; exact h i hi
theorem Room.touch {w w' : World} {b n : Nat} {S : Nat → Prop} (h : Room w b n) (ht : Touch S w w') (hb : b < w.heap.size) (hS : ¬ S b) : Room w' b n :=
  ⟨fun j hj => by rw [World.cell?_of_block (a := ⟨b, j, none⟩) (ht.block b hb hS)]; exact h.1 j hj, fun o => by rw [World.frozen?_of_block (a := ⟨b, o, none⟩) (ht.block b hb hS)]; exact h.2 o⟩
theorem PlW.touch {w w' : World} {b : Nat} {p : Pl} {S : Nat → Prop} (h : PlW w b p) (ht : Touch S w w') (hS : ¬ S b) : PlW w' b p := (ht.block b h.lt hS).trans h

/-- takeLeast by what leastAt says. -/
theorem least_some_any (b s : Nat) (r : Bk) (p : Pl) (w : World) (h : PlW w b p) (hp : PlWf p) (hr : fit7 r) (hs : leastAt p r = some s) :
    Calls Try.prog 100 #[.pointer (some ⟨b, 0, none⟩), psV r.m (maskB r)] w fun e w' => e = .returned (.tuple #[.int .i64 s, .bool true]) ∧ PlW w' b (takeAt p r s) ∧ Touch (fun j => j = b) w w' := by
  obtain ⟨h1, h2, h3⟩ := leastAt_inv hs
  have hx := maskB_lt hr
  simp only [freeAt] at h2 h3
  unfold takeAt
  cases hm : r.m with
  | true =>
    rw [hm] at h1 h2 h3
    exact leastT_some b (maskB r) s p w h hp hx h1 (by simpa using h2) h3
  | false =>
    rw [hm] at h1 h2 h3
    exact leastF_some b (maskB r) s p w h hp hx h1 (by simpa using h2) h3
theorem least_none_any (b : Nat) (r : Bk) (p : Pl) (w : World) (h : PlW w b p) (hp : PlWf p) (hr : fit7 r) (hs : leastAt p r = none) :
    Calls Try.prog 100 #[.pointer (some ⟨b, 0, none⟩), psV r.m (maskB r)] w (Quiet (.tuple #[.int .i64 0, .bool false]) w) := by
  have hx := maskB_lt hr
  unfold leastAt at hs
  rw [List.find?_eq_none] at hs
  have h3 : ∀ t, t < seatsB r.m → ((p.row r.m).getD t 0 &&& maskB r == 0) = false := fun t ht => by
    have := hs t (List.mem_range.2 ht)
    simpa [freeAt] using this
  cases hm : r.m with
  | true =>
    rw [hm] at h3
    exact leastT_none b (maskB r) p w h hp hx h3
  | false =>
    rw [hm] at h3
    exact leastF_none b (maskB r) p w h hp hx h3

/-- What planOf gives where all get a seat. -/
def PlanOut (l : List Bk) (p : Pl) (q : List Int) (w : World) (e : Ending) (w' : World) : Prop :=
  ∃ (b : Nat) (cap : Nat), e = .returned (.tuple #[.pointer (some ⟨b, 0, none⟩), .slice (some ⟨b + 1, 0, none⟩) l.length cap, .bool true]) ∧ l.length ≤ cap ∧ w.heap.size ≤ b ∧ b + 1 < w'.heap.size ∧ PlW w' b p ∧ IntAt w' (b + 1) 0 q ∧ Room w' (b + 1) l.length ∧ Below w.heap.size w w'
/-- And where not. -/
def PlanNo (w : World) (e : Ending) (w' : World) : Prop := e = .returned (.tuple #[.pointer none, .slice none 0 0, .bool false]) ∧ Below w.heap.size w w'

set_option maxRecDepth 100000 in
set_option maxHeartbeats 1000000 in
theorem plan_bad (n : Int) (v : Value) (l : List Bk) (w : World) (hv : BkIn w v l) (hl : l.length ≤ 2097152) (hz : okB n l = false) :
    Calls Try.prog 75 #[.int .i64 n, v] w (PlanNo w) := by
  obtain ⟨ad, cap, rfl, hcap, ha⟩ := hv
  clear hcap
  have Ha := Lib.hid ha; clear ha
  have Hz := Lib.hid hz; clear hz
  by_cases h1 : n < 1
  · go_enter Try.func75, Try.ntmps75
    go_wp2
    go_ret3
    exact ⟨rfl, Below.refl _ _⟩
  · by_cases h2 : 7 < n
    · go_enter Try.func75, Try.ntmps75
      go_wp2
      go_ret3
      exact ⟨rfl, Below.refl _ _⟩
    · by_cases h3 : l.length ≤ 16
      · have h3' : ¬ (16 : Int) < (l.length : Int) := by omega
        have hall : fitTo n l l.length = false := by
          have := Hz.out
          simp only [okB, legB, Bool.and_eq_false_iff, decide_eq_false_iff_not] at this
          rcases this with ((h | h) | h) | h
          · omega
          · omega
          · omega
          · exact h
        have Hall := Lib.hid hall; clear hall
        go_enter Try.func75, Try.ntmps75
        go_wp2
        go_loopw [28] (fun i wr => ∃ k : Nat, k ≤ l.length ∧ i = .int .i64 k ∧ fitTo n l k = true ∧ Below w.heap.size w wr) (fun i _ => l.length - (intOf i).toNat)
        case atStart => exact ⟨0, Nat.zero_le _, rfl, fitTo_zero n l, Below.refl _ _⟩
        case round =>
          obtain ⟨k, hk, rfl, hok, hbel⟩ := hrel
          have Hok := Lib.hid hok; clear hok
          have HB := Lib.hid hbel
          by_cases hlt : k < l.length
          · have hk' : (k : Int) < (l.length : Int) := by omega
            obtain ⟨b, o, rfl, hb0, hrw⟩ := Ha.out (by intro h; simp [h] at hlt)
            obtain ⟨c0, c1, c2⟩ := (hrw.below hbel hb0) k hlt
            clear hrw
            have hs := fitTo_succ n l k hlt
            have hB := hbel.alloc hbel.size
            clear hbel
            obtain ⟨⟨xa, xb, xm⟩, hr⟩ : ∃ r, l.getD k bk0 = r := ⟨_, rfl⟩
            rw [hr] at c0 c1 c2 hs
            simp only at c0 c1 c2
            have HF := Lib.hid (fun w => bfits_any n ⟨xa, xb, xm⟩ w)
            have Hs := Lib.hid hs
            have HB2 := Lib.hid (hB (.cells #[.int .i64 xa, .int .i64 xb, .bool xm] 31))
            clear hr hB hs
            cases hq : fitsB n ⟨xa, xb, xm⟩ with
            | true =>
              rw [hq] at HF Hs
              clear hq
              go_wp2_with fail
              refine (HF.out _).mono ?_; rintro e w1 ⟨rfl, hb1⟩
              have HB3 := Lib.hid (HB2.out.trans (hb1.mono HB2.out.size)); clear hb1
              go_wp2
              exact ⟨⟨k + 1, hlt, by go_num, by rw [Hs.out, Hok.out]; rfl, HB3.out⟩, by simp [intOf]; omega⟩
            | false =>
              rw [hq] at HF Hs
              clear hq
              go_wp2_with fail
              refine (HF.out _).mono ?_; rintro e w1 ⟨rfl, hb1⟩
              have HB3 := Lib.hid (HB2.out.trans (hb1.mono HB2.out.size)); clear hb1
              go_wp2
              go_ret3
              exact ⟨rfl, HB3.out⟩
          · obtain rfl : k = l.length := by omega
            have := Hok.out
            rw [Hall.out] at this
            cases this
      · have h3' : (16 : Int) < (l.length : Int) := by omega
        go_enter Try.func75, Try.ntmps75
        go_wp2
        go_ret3
        exact ⟨rfl, Below.refl _ _⟩

def P2Rel (l : List Bk) (w3 : World) (bP : Nat) (i : Value) (wr : World) : Prop :=
  ∃ (k : Nat) (p : Pl) (q : List Int), k ≤ l.length ∧ i = .int .i64 k ∧ planAt l k = some (p, q) ∧ PlW wr bP p ∧ IntAt wr (bP + 1) 0 q ∧ Room wr (bP + 1) l.length ∧ Touch (fun j => j = bP ∨ j = bP + 1) w3 wr

theorem pl0_made (w : World) : PlW (w.alloc (.cells (cellsP pl0) 146)) w.heap.size pl0 := Whole.made _ _ _

/-- Behind the check of each booking alone. -/
def PlanRes (l : List Bk) (w : World) (e : Ending) (w' : World) : Prop :=
  match planB l with
  | some (p, q) => PlanOut l p q w e w'
  | none => PlanNo w e w'
theorem PlanRes.of_some {l : List Bk} {p : Pl} {q : List Int} {w w' : World} {e : Ending} (h : planB l = some (p, q)) (h' : PlanOut l p q w e w') : PlanRes l w e w' := by
  unfold PlanRes; rw [h]; exact h'
theorem PlanRes.of_none {l : List Bk} {w w' : World} {e : Ending} (h : planB l = none) (h' : PlanNo w e w') : PlanRes l w e w' := by
  unfold PlanRes; rw [h]; exact h'

set_option maxRecDepth 100000 in
set_option maxHeartbeats 4000000 in
theorem plan_any (n : Int) (v : Value) (l : List Bk) (w : World) (hv : BkIn w v l) (hz : okB n l = true) :
    Calls Try.prog 75 #[.int .i64 n, v] w (PlanRes l w) := by
  have Hf := Lib.hid (okB_fit7 hz)
  have Hall := Lib.hid (show fitTo n l l.length = true by simp only [okB, Bool.and_eq_true] at hz; exact hz.2)
  have hn : 1 ≤ n ∧ n ≤ 7 := by simp only [okB, Bool.and_eq_true] at hz; exact legB_iff.1 hz.1.1
  have hl : l.length ≤ 16 := by simp only [okB, Bool.and_eq_true, decide_eq_true_eq] at hz; exact hz.1.2
  obtain ⟨hn1, hn7⟩ := hn
  clear hz
  have Hv := Lib.hid hv
  obtain ⟨ad, cap, rfl, hcap, ha⟩ := hv
  clear hcap
  have Ha := Lib.hid ha; clear ha
  obtain ⟨i0, hi, hz0, hz1, hz2⟩ := info_parts Try.info3
  have hmk := fun W => run_make_rowN (P := Try.prog) 26 3 i0 _ Try.underlying26 hi hz0 .i64 .i64 l.length l.length (Nat.le_refl _) (by rw [hz2]; omega) (by omega) W
  rw [hz1] at hmk
  simp only [Nat.mul_one] at hmk
  have h3' : ¬ (16 : Int) < (l.length : Int) := by omega
  go_enter Try.func75, Try.ntmps75
  go_wp2
  go_loopw [28] (fun i wr => ∃ k : Nat, k ≤ l.length ∧ i = .int .i64 k ∧ Below w.heap.size w wr) (fun i _ => l.length - (intOf i).toNat)
  case atStart => exact ⟨0, Nat.zero_le _, rfl, Below.refl _ _⟩
  case round =>
    obtain ⟨k, hk, rfl, hbel⟩ := hrel
    have HB := Lib.hid hbel
    by_cases hlt : k < l.length
    · have hk' : (k : Int) < (l.length : Int) := by omega
      obtain ⟨b, o, rfl, hb0, hrw⟩ := Ha.out (by intro h; simp [h] at hlt)
      obtain ⟨c0, c1, c2⟩ := (hrw.below hbel hb0) k hlt
      clear hrw
      have hB := hbel.alloc hbel.size
      clear hbel
      have hq := fitTo_at Hall.out hlt hlt
      obtain ⟨⟨xa, xb, xm⟩, hr⟩ : ∃ r, l.getD k bk0 = r := ⟨_, rfl⟩
      rw [hr] at c0 c1 c2 hq
      simp only at c0 c1 c2
      have HF := Lib.hid (fun w => bfits_any n ⟨xa, xb, xm⟩ w)
      have HB2 := Lib.hid (hB (.cells #[.int .i64 xa, .int .i64 xb, .bool xm] 31))
      rw [hq] at HF
      clear hr hB hq
      go_wp2_with fail
      refine (HF.out _).mono ?_; rintro e w1 ⟨rfl, hb1⟩
      have HB3 := Lib.hid (HB2.out.trans (hb1.mono HB2.out.size)); clear hb1
      go_wp2
      exact ⟨⟨k + 1, hlt, by go_num, HB3.out⟩, by simp [intOf]; omega⟩
    · obtain rfl : k = l.length := by omega
      have hbw := hbel.size
      clear hbel
      have e1 : PlW ((wr.alloc (.cells (cellsP pl0) 146)).alloc (.cells (madeCells #[.int .i64 0] l.length) 3)) wr.heap.size pl0 := (pl0_made wr).below ((Below.refl _ _).alloc (Nat.le_refl _) _) (by simp)
      have e2 : IntAt ((wr.alloc (.cells (cellsP pl0) 146)).alloc (.cells (madeCells #[.int .i64 0] l.length) 3)) (wr.heap.size + 1) 0 (List.replicate l.length 0) := by
        have := IntAt.zeros (wr.alloc (.cells (cellsP pl0) 146)) l.length 3
        rwa [World.size_alloc] at this
      have e3 : Room ((wr.alloc (.cells (cellsP pl0) 146)).alloc (.cells (madeCells #[.int .i64 0] l.length) 3)) (wr.heap.size + 1) l.length := by
        have := Room.made (wr.alloc (.cells (cellsP pl0) 146)) #[.int .i64 0] l.length 3 (by simp)
        rwa [World.size_alloc] at this
      have e4 : Below wr.heap.size wr ((wr.alloc (.cells (cellsP pl0) 146)).alloc (.cells (madeCells #[.int .i64 0] l.length) 3)) := ((Below.refl _ _).alloc (Nat.le_refl _) _).alloc (by simp) _
      have e5 : ((wr.alloc (.cells (cellsP pl0) 146)).alloc (.cells (madeCells #[.int .i64 0] l.length) 3)).heap.size = wr.heap.size + 2 := by simp
      rw [show cellsP pl0 = #[.int .u8 0, .int .u8 0, .int .u8 0, .int .u8 0, .int .u8 0, .int .u8 0, .int .u8 0, .int .u8 0, .int .u8 0, .int .u8 0] from rfl] at e1 e2 e3 e4 e5
      have E := Lib.hid (And.intro e1 (And.intro e2 (And.intro e3 (And.intro e4 e5))))
      clear e1 e2 e3 e4 e5
      go_wp2_with fail
      have E' := E; clear E
      generalize (wr.alloc _).alloc _ = W2 at E' ⊢
      generalize hbP : wr.heap.size = bP at *
      obtain ⟨e1, e2, e3, e4, e5⟩ := E'.out
      clear E'
      have hb2 : Below w.heap.size w W2 := HB.out.trans (e4.mono (by have := HB.out.size; omega))
      refine (byFrom_any _ l W2 (Hv.out.below hb2) hl Hf.out).mono ?_; rintro e w3 ⟨ad3, cap3, rfl, ho, hb3⟩
      have hb3' : Below w.heap.size w w3 := hb2.trans (hb3.mono hb2.size)
      have hs3 := hb3.size
      have f1 : PlW w3 bP pl0 := e1.below hb3 (by omega)
      have f2 : IntAt w3 (bP + 1) 0 (List.replicate l.length 0) := e2.below hb3 (by omega)
      have f3 : Room w3 (bP + 1) l.length := e3.below hb3 (by omega)
      have hbP1 : bP + 1 < w3.heap.size := by omega
      have hwP : w.heap.size ≤ bP := by omega
      have HO := Lib.hid ho
      have HB3 := Lib.hid hb3'
      have F1 := Lib.hid f1
      have F2 := Lib.hid f2
      have F3 := Lib.hid f3
      clear e1 e2 e3 e4 hb2 hb3 hb3' ho f1 f2 f3 HB
      go_wp2
      go_loopw [45] (fun i wr => P2Rel l w3 bP i wr) (fun i _ => l.length - (intOf i).toNat)
      case atStart => exact ⟨0, pl0, _, Nat.zero_le _, rfl, planAt_zero l, F1.out, F2.out, F3.out, Touch.refl _ _⟩
      case round =>
        clear F1 F2 F3
        obtain ⟨k, p, q, hk2, rfl, hpl, hp, hq, hroom, ht⟩ := hrel
        have hI := planAt_inv Hf.out hk2 hpl
        have hbwr : Below w.heap.size w wr := HB3.out.trans (ht.below (fun j hj => by omega) HB3.out.size)
        have hswr := ht.size
        by_cases hlt2 : k < l.length
        · have hk' : (k : Int) < (l.length : Int) := by omega
          obtain ⟨bo, rfl, hbo, hbo2, hord⟩ := HO.out (by intro h; simp [h] at hlt2)
          have hord' := hord.touch ht hbo2 (by omega)
          have hcell := hord' k (by simp [orderB_length]; exact hlt2)
          have hgd : ((orderB l).map fun (i : Nat) => (i : Int)).getD k 0 = ((ordAt l k : Nat) : Int) := by
            simp [List.getD, ordAt, orderB_length, hlt2]
          rw [hgd, Nat.zero_add] at hcell
          have hxl := ordAt_lt hlt2
          have hsucc := planAt_succ hlt2
          rw [hpl] at hsucc
          have Hnone := Lib.hid (fun h => planAt_none hlt2 h)
          rw [hsucc] at Hnone
          clear hord hord' hgd
          generalize ordAt l k = x at *
          obtain ⟨b, o, rfl, hb0, hrw⟩ := Ha.out (by intro h; simp [h] at hlt2)
          obtain ⟨c0, c1, c2⟩ := (hrw.below hbwr hb0) x hxl
          clear hrw
          have hfr := Hf.out x hxl
          have hfr2 := hfr
          simp only [stepB] at hsucc Hnone
          obtain ⟨r, hr⟩ : ∃ r, l.getD x bk0 = r := ⟨_, rfl⟩
          rw [hr] at c0 c1 c2 hfr hsucc Hnone
          have hx' : (x : Int) < (l.length : Int) := by omega
          have hx0 : (0 : Int) ≤ (x : Int) := by omega
          have HP := Lib.hid (fun w => pass_any r w hfr)
          have HPl := Lib.hid hp
          have HQ := Lib.hid hq
          have HR := Lib.hid hroom
          have HT := Lib.hid ht
          have HI := Lib.hid hI
          have hpos : ∃ u, wr.cell? ⟨bP + 1, x, none⟩ = some u := hroom.1 x hxl
          have hlq := hI.len
          have Hbwr := Lib.hid hbwr
          clear hp hq hroom ht hI hbwr hfr2
          cases hs : leastAt p r with
          | some s =>
            rw [hs] at hsucc
            have Hs := Lib.hid hs
            have Hsucc := Lib.hid hsucc
            clear hs hsucc Hnone
            have HL := Lib.hid (fun w' (h : Touch (fun _ => False) wr w') => least_some_any bP s r p w' (HPl.out.touch h (fun h => h)) HI.out.wf (hr ▸ Hf.out x hxl) Hs.out)
            clear hr
            obtain ⟨xa, xb, xm⟩ := r
            simp only at c0 c1 c2
            obtain ⟨u, hu⟩ := hpos
            have hfz := HR.out.2 x
            go_wp2_with fail
            refine (HP.out _).mono ?_; rintro e w4 ⟨rfl, hb4⟩
            have ht4 := Lib.hid (Touch.of_below (S := fun _ => False) hb4)
            have hu4 := keepCell hb4 hu
            have hfz4 : w4.frozen? ⟨bP + 1, x, none⟩ = false := by rw [hb4.frozen (p := ⟨bP + 1, x, none⟩) (by show bP + 1 < wr.heap.size; omega)]; exact hfz
            have hs4 := hb4.size
            clear hb4 hu hfz hcell c0 c1 c2
            go_wp2_with fail
            refine (HL.out _ ht4.out).mono ?_; rintro e w5 ⟨rfl, hp5, ht5⟩
            have hu5 : w5.cell? ⟨bP + 1, x, none⟩ = some u := by rw [World.cell?_of_block (a := ⟨bP + 1, x, none⟩) (ht5.block (bP + 1) (by omega) (by omega))]; exact hu4
            have hfz5 : w5.frozen? ⟨bP + 1, x, none⟩ = false := by rw [World.frozen?_of_block (a := ⟨bP + 1, x, none⟩) (ht5.block (bP + 1) (by omega) (by omega))]; exact hfz4
            have HQ5 := Lib.hid ((HQ.out.touch ht4.out (by omega) (fun h => h)).touch ht5 (by omega) (by omega))
            have HR5 := Lib.hid ((HR.out.touch ht4.out (by omega) (fun h => h)).touch ht5 (by omega) (by omega))
            have HT5 := Lib.hid (show Touch (fun j => j = bP ∨ j = bP + 1) w3 w5 from
              (HT.out.trans ⟨ht4.out.os, ht4.out.tape, ht4.out.output, ht4.out.size, fun j hj _ => ht4.out.block j hj (fun h => h)⟩).trans ⟨ht5.os, ht5.tape, ht5.output, ht5.size, fun j hj hne => ht5.block j hj (fun h => hne (.inl h))⟩)
            have HP5 := Lib.hid hp5
            clear hp5 ht5 hu4 hfz4
            go_wp2
            refine ⟨⟨k + 1, takeAt p ⟨xa, xb, xm⟩ s, q.set x (s : Int), hlt2, by go_num, Hsucc.out, ?_, IntAt.put HQ5.out HR5.out (by omega) (by omega) _, HR5.out.setCell _ _, Touch.setCell (S := fun j => j = bP ∨ j = bP + 1) HT5.out (Or.inr rfl) _⟩, by simp [intOf]; omega⟩
            exact Whole.off HP5.out (by show bP ≠ bP + 1; omega) _
          | none =>
            have Hn := Lib.hid (Hnone.out (by rw [hs]))
            have Hs := Lib.hid hs
            clear hs hsucc Hnone
            have HL := Lib.hid (fun w' (h : Touch (fun _ => False) wr w') => least_none_any bP r p w' (HPl.out.touch h (fun h => h)) HI.out.wf (hr ▸ Hf.out x hxl) Hs.out)
            clear hr
            obtain ⟨xa, xb, xm⟩ := r
            simp only at c0 c1 c2
            clear hpos
            go_wp2_with fail
            refine (HP.out _).mono ?_; rintro e w4 ⟨rfl, hb4⟩
            have ht4 := Lib.hid (Touch.of_below (S := fun _ => False) hb4)
            have Hb4 := Lib.hid (Hbwr.out.trans (hb4.mono Hbwr.out.size))
            clear hb4 hcell c0 c1 c2
            go_wp2_with fail
            refine (HL.out _ ht4.out).mono ?_; rintro e w5 ⟨rfl, m5, rfl⟩
            go_wp2
            go_ret3
            exact PlanRes.of_none Hn.out ⟨rfl, Hb4.out.drewN _⟩
        · obtain rfl : k = l.length := by omega
          rw [planAt_end] at hpl
          have Hpl := Lib.hid hpl
          have Hp := Lib.hid hp
          have Hq := Lib.hid hq
          have Hr := Lib.hid hroom
          have Hb := Lib.hid hbwr
          clear hpl hp hq hroom hbwr ht hI
          go_wp2
          go_ret3
          exact PlanRes.of_some Hpl.out ⟨bP, l.length, rfl, Nat.le_refl _, hwP, by omega, Hp.out, Hq.out, Hr.out, Hb.out⟩

end Go.Proofs.Ytlkhgnglblgldaa
