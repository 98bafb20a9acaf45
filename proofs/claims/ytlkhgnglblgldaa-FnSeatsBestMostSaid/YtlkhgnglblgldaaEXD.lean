/- SeatsBest of the model. -/
import Derived.Test.YtlkhgnglblgldaaEM
import Derived.Test.YtlkhgnglblgldaaEXA
import Derived.Test.YtlkhgnglblgldaaIO
namespace Go.Proofs.Ytlkhgnglblgldaa
open Go.RowKit

theorem Try.infoBool : (Try.prog.info? 4).map (fun i => (i.zero, i.size, i.bytes)) = some (some (.bool false), 1, 1) := by kernel_rfl

/-- Marks: n cells of bool from ⟨b, 0⟩ on, that may be written. -/
def MkAt (w : World) (b n : Nat) (f : Nat → Bool) : Prop := (∀ i, i < n → w.cell? ⟨b, i, none⟩ = some (.bool (f i))) ∧ (∀ o, w.frozen? ⟨b, o, none⟩ = false) ∧ b < w.heap.size
theorem MkAt.made (w : World) (n : Nat) (t : TypeId) : MkAt (w.alloc (.cells (madeCells #[.bool false] n) t)) w.heap.size n (fun _ => false) :=
  ⟨fun i hi => by
    rw [World.cell?_alloc_new]
    rw [← Array.getElem?_toList, toList_madeCells_one, List.getElem?_replicate, if_pos hi], fun o => by simp, by simp⟩
theorem MkAt.put {w : World} {b n : Nat} {f : Nat → Bool} (h : MkAt w b n f) {k : Nat} (hk : k < n) (x : Bool) : MkAt (w.setCell ⟨b, k, none⟩ (.bool x)) b n (fun i => if i = k then x else f i) :=
  ⟨fun i hi => by
    by_cases e : i = k
    · subst e
      rw [World.cell?_setCell_same _ _ _ (h.1 i hi)]; simp
    · rw [World.cell?_setCell_other _ _ _ _ (by intro h; injection h; omega), h.1 i hi]; simp [e], fun o => by rw [World.frozen?_setCell]; exact h.2.1 o, by have := h.2.2; simpa [World.setCell] using this⟩
theorem MkAt.below {w w' : World} {b n : Nat} {f : Nat → Bool} (h : MkAt w b n f) {B : Nat} (hb : Below B w w') (hlt : b < B) : MkAt w' b n f :=
  ⟨fun i hi => by rw [hb.cell (p := ⟨b, i, none⟩) hlt]; exact h.1 i hi, fun o => by rw [hb.frozen (p := ⟨b, o, none⟩) hlt]; exact h.2.1 o, Nat.lt_of_lt_of_le h.2.2 hb.size⟩
theorem MkAt.blk {w w' : World} {b n : Nat} {f : Nat → Bool} (h : MkAt w b n f) (e : w'.heap[b]? = w.heap[b]?) (hs : w.heap.size ≤ w'.heap.size) : MkAt w' b n f :=
  ⟨fun i hi => by rw [World.cell?_of_block (a := ⟨b, i, none⟩) e]; exact h.1 i hi, fun o => by rw [World.frozen?_of_block (a := ⟨b, o, none⟩) e]; exact h.2.1 o, Nat.lt_of_lt_of_le h.2.2 hs⟩
theorem MkAt.drewN {w : World} {b n : Nat} {f : Nat → Bool} (h : MkAt w b n f) (m : Nat) : MkAt (w.drewN m) b n f := h
/-- The last end and those taken, up to the stop t + 1, among the first k. -/
def goK (l : List Bk) (t k : Nat) : Nat × List Nat :=
  match atE l ((t + 1 : Nat) : Int) ((goE l t).1 : Int) k with
  | some i => (t + 1, (goE l t).2 ++ [i])
  | none => goE l t
theorem goK_zero (l : List Bk) (t : Nat) : goK l t 0 = goE l t := by unfold goK; rw [atE_zero]
theorem goK_end (l : List Bk) (t : Nat) : goK l t l.length = goE l (t + 1) := by
  unfold goK; rw [goE]
  cases atE l ((t + 1 : Nat) : Int) ((goE l t).1 : Int) l.length <;> rfl
theorem goK_hit {l : List Bk} {t k : Nat} (hf : ∀ i, i < l.length → (l.getD i bk0).a < (l.getD i bk0).b) (hk : k < l.length) (h1 : (l.getD k bk0).b = ((t + 1 : Nat) : Int)) (h2 : ((goK l t k).1 : Int) ≤ (l.getD k bk0).a) :
    goK l t (k + 1) = (t + 1, (goK l t k).2 ++ [k]) := by
  have hfk := hf k hk
  cases ha : atE l ((t + 1 : Nat) : Int) ((goE l t).1 : Int) k with
  | none =>
    have e : goK l t k = goE l t := by unfold goK; rw [ha]
    rw [e] at h2 ⊢
    unfold goK
    rw [atE_succ_hit ha (hitE_iff.2 ⟨h1, h2⟩)]
  | some i =>
    have e : goK l t k = (t + 1, (goE l t).2 ++ [i]) := by unfold goK; rw [ha]
    rw [e] at h2; simp only at h2
    omega
theorem goK_no {l : List Bk} {t k : Nat} (h : ¬ ((l.getD k bk0).b = ((t + 1 : Nat) : Int) ∧ ((goK l t k).1 : Int) ≤ (l.getD k bk0).a)) :
    goK l t (k + 1) = goK l t k := by
  cases ha : atE l ((t + 1 : Nat) : Int) ((goE l t).1 : Int) k with
  | none =>
    have e : goK l t k = goE l t := by unfold goK; rw [ha]
    rw [e] at h ⊢
    unfold goK
    rw [atE_succ_no ha (by rw [Bool.eq_false_iff]; intro h'; exact h (hitE_iff.1 h'))]
  | some i =>
    unfold goK
    rw [atE_succ_some ha, ha]
theorem contains_snoc (xs : List Nat) (k : Nat) : (fun i => (xs ++ [k]).contains i) = fun i => if i = k then true else xs.contains i := by
  funext i
  by_cases e : i = k
  · simp [e]
  · simp [e]

/-- The outer loop: the stops up to t are done. -/
def SbRel1 (l : List Bk) (w0 : World) (N : Nat) (la to : Value) (wr : World) : Prop :=
  ∃ (t : Nat) (T L : Int), t ≤ N ∧ T = ((t + 1 : Nat) : Int) ∧ L = ((goE l t).1 : Int) ∧ la = .int .i64 L ∧ to = .int .i64 T ∧ MkAt wr w0.heap.size l.length (fun i => (goE l t).2.contains i) ∧ Below w0.heap.size w0 wr
/-- The inner loop. -/
def SbRel2 (l : List Bk) (w0 : World) (t : Nat) (la i : Value) (wr : World) : Prop :=
  ∃ (k : Nat) (L : Int), k ≤ l.length ∧ L = ((goK l t k).1 : Int) ∧ la = .int .i64 L ∧ i = .int .i64 k ∧ MkAt wr w0.heap.size l.length (fun i => (goK l t k).2.contains i) ∧ Below w0.heap.size w0 wr

set_option maxRecDepth 100000 in
set_option maxHeartbeats 2000000 in
theorem seatsBest1_any (n : Int) (v : Value) (l : List Bk) (w : World) (wn : W64 n) (hv : BkIn w v l) (hl : l.length ≤ 1048576) :
    Calls Try.prog 11 #[.int .i64 n, v] w (IntsOk (bestX n l) (bestOk n l) w) := by
  obtain ⟨i0, hi, hz0, hz1, hz2⟩ := info_parts Try.info3
  obtain ⟨i4, hi4, hz40, hz41, hz42⟩ := info_parts Try.infoBool
  have hmk := fun W => run_make_rowN (P := Try.prog) 75 4 i4 _ Try.underlying75 hi4 hz40 .i64 .i64 l.length l.length (Nat.le_refl _) (by rw [hz42]; omega) (by omega) W
  rw [hz41] at hmk
  simp only [Nat.mul_one] at hmk
  have HV := Lib.hid (fun w' (hb : Below w.heap.size w w') => books1_any n v l w' wn (hv.below hb) hl)
  obtain ⟨a, cap, rfl, hcap, ha⟩ := hv
  have Ha := Lib.hid ha
  clear hcap ha
  have hm0 := MkAt.made w l.length 4
  have hb0 : Below w.heap.size w (w.alloc (.cells (madeCells #[.bool false] l.length) 4)) := (Below.refl _ _).alloc (Nat.le_refl _) _
  have HM0 := Lib.hid hm0
  have HB0 := Lib.hid hb0
  clear hm0 hb0
  cases hz : validB n l with
  | false =>
    have hno : bestOk n l = false := by unfold bestOk; rw [hz]; rfl
    rw [bestX_no hno, hno]
    rw [hz] at HV
    clear hz hno Ha
    go_enter Try.func11, Try.ntmps11
    go_wp2
    go_loopw [7, 8] (fun la t wr => la = .int .i64 0 ∧ t = .int .i64 1 ∧ MkAt wr w.heap.size l.length (fun _ => false) ∧ Below w.heap.size w wr) (fun _ _ _ => 0)
    case atStart => exact ⟨rfl, rfl, HM0.out, HB0.out⟩
    case round =>
      obtain ⟨rfl, rfl, hm, hb⟩ := hrel
      have HM := Lib.hid hm
      have HB := Lib.hid hb
      clear hm hb HM0 HB0
      by_cases hn : 1 ≤ n
      · go_wp2_with fail
        refine (HV.out _ HB.out).mono ?_; rintro e w1 ⟨rfl, m1, rfl⟩
        have HM1 := Lib.hid (HM.out.drewN m1)
        have HB1 := Lib.hid (HB.out.drewN m1)
        generalize wr.drewN m1 = w1 at *
        clear HM HB
        go_wp2
        have hs1 := HB1.out.size
        have Hr1 := Lib.hid (RowI.made w1 w.heap.size hs1)
        have Hm2 := Lib.hid (HM1.out.below ((Below.refl (w.heap.size + 1) w1).alloc HM1.out.2.2 (.cells #[] 3)) (Nat.lt_succ_self _))
        have Hb2 := Lib.hid (HB1.out.alloc hs1 (.cells #[] 3))
        clear HM1 HB1
        go_loopw [10, 11] (fun u i w3 => ∃ k : Nat, k ≤ l.length ∧ i = .int .i64 k ∧ RowI w3 w.heap.size u [] ∧ MkAt w3 w.heap.size l.length (fun _ => false) ∧ Below w.heap.size w w3) (fun _ i _ => l.length - (intOf i).toNat)
        case atStart => exact ⟨0, Nat.zero_le _, rfl, Hr1.out, Hm2.out, Hb2.out⟩
        case round =>
          clear Hr1 Hm2 Hb2
          obtain ⟨k, hk, rfl, hr, hm, hb⟩ := hrel
          have HR := Lib.hid hr
          have HB := Lib.hid hb
          by_cases hlt : k < l.length
          · have hk' : (k : Int) < (l.length : Int) := by omega
            have hk0 : (0 : Int) ≤ (k : Int) := Int.natCast_nonneg _
            have c := hm.1 k hlt
            have HM := Lib.hid hm
            clear hr hm hb
            go_wp2
            exact ⟨⟨k + 1, hlt, by go_num, HR.out, HM.out, HB.out⟩, by simp [intOf]; omega⟩
          · obtain rfl : k = l.length := by omega
            clear hr hm hb
            go_wp2_with fail
            refine (HV.out _ HB.out).mono ?_; rintro e w4 ⟨rfl, m4, rfl⟩
            have HB4 := Lib.hid (HB.out.drewN m4)
            go_wp2
            go_ret2
            exact IntsOk.no HB4.out.size (by simp) (HB4.out.alloc HB4.out.size _)
      · have HM1 := HM
        have HB1 := HB
        clear HM HB
        obtain ⟨w1, hw1⟩ : ∃ w1, wr = w1 := ⟨_, rfl⟩
        subst hw1
        go_wp2
        have hs1 := HB1.out.size
        have Hr1 := Lib.hid (RowI.made wr w.heap.size hs1)
        have Hm2 := Lib.hid (HM1.out.below ((Below.refl (w.heap.size + 1) wr).alloc HM1.out.2.2 (.cells #[] 3)) (Nat.lt_succ_self _))
        have Hb2 := Lib.hid (HB1.out.alloc hs1 (.cells #[] 3))
        clear HM1 HB1
        go_loopw [10, 11] (fun u i w3 => ∃ k : Nat, k ≤ l.length ∧ i = .int .i64 k ∧ RowI w3 w.heap.size u [] ∧ MkAt w3 w.heap.size l.length (fun _ => false) ∧ Below w.heap.size w w3) (fun _ i _ => l.length - (intOf i).toNat)
        case atStart => exact ⟨0, Nat.zero_le _, rfl, Hr1.out, Hm2.out, Hb2.out⟩
        case round =>
          clear Hr1 Hm2 Hb2
          obtain ⟨k, hk, rfl, hr, hm, hb⟩ := hrel
          have HR := Lib.hid hr
          have HB := Lib.hid hb
          by_cases hlt : k < l.length
          · have hk' : (k : Int) < (l.length : Int) := by omega
            have hk0 : (0 : Int) ≤ (k : Int) := Int.natCast_nonneg _
            have c := hm.1 k hlt
            have HM := Lib.hid hm
            clear hr hm hb
            go_wp2
            exact ⟨⟨k + 1, hlt, by go_num, HR.out, HM.out, HB.out⟩, by simp [intOf]; omega⟩
          · obtain rfl : k = l.length := by omega
            clear hr hm hb
            go_wp2_with fail
            refine (HV.out _ HB.out).mono ?_; rintro e w4 ⟨rfl, m4, rfl⟩
            have HB4 := Lib.hid (HB.out.drewN m4)
            go_wp2
            go_ret2
            exact IntsOk.no HB4.out.size (by simp) (HB4.out.alloc HB4.out.size _)
  | true =>
    obtain ⟨⟨hn1, hn7⟩, hl16, hfit, _⟩ := validB_iff.1 hz
    have hf : ∀ i, i < l.length → (l.getD i bk0).a < (l.getD i bk0).b := fun i hi => (fit7_of hn7 (hfit i hi)).2.1
    have Hf := Lib.hid hf
    rw [hz] at HV
    obtain ⟨N, rfl⟩ : ∃ N : Nat, n = N := ⟨n.toNat, by omega⟩
    by_cases hall : bestOk N l = true
    · rw [bestX_yes hall, hall, Int.toNat_natCast]
      have Hm := Lib.hid (bestOk_iff.1 hall).2
      clear hz hall hfit hf
      go_enter Try.func11, Try.ntmps11
      go_wp2
      go_loopw [7, 8] (fun la to wr => SbRel1 l w N la to wr) (fun _ to _ => N + 1 - (intOf to).toNat)
      case atStart => exact ⟨0, 1, 0, Nat.zero_le _, rfl, rfl, rfl, rfl, HM0.out, HB0.out⟩
      case round =>
        clear HM0 HB0
        obtain ⟨t, T, L, ht, hT, hL, rfl, rfl, hm, hb⟩ := hrel
        have HM := Lib.hid hm
        have HB := Lib.hid hb
        clear hm hb
        by_cases hlt : t < N
        · have hTn : T ≤ (N : Int) := by omega
          have hT0 : 0 ≤ T := by omega
          have HT := Lib.hid hT
          have HL := Lib.hid hL
          clear hT hL
          go_wp2_with fail
          refine (HV.out _ HB.out).mono ?_; rintro e w1 ⟨rfl, m1, rfl⟩
          have HM1 := Lib.hid (HM.out.drewN m1)
          have HB1 := Lib.hid (HB.out.drewN m1)
          generalize wr.drewN m1 = w1 at *
          clear HM HB
          go_wp2
          go_loopw [7, 9] (fun la i w4 => SbRel2 l w t la i w4) (fun _ i _ => l.length - (intOf i).toNat)
          case atStart => exact ⟨0, L, Nat.zero_le _, by rw [goK_zero]; exact HL.out, rfl, rfl, by rw [goK_zero]; exact HM1.out, HB1.out⟩
          case round =>
            clear HM1 HB1
            obtain ⟨k, L2, hk, hL2, rfl, rfl, hm, hb⟩ := hrel
            have HB := Lib.hid hb
            by_cases hkl : k < l.length
            · have hk' : (k : Int) < (l.length : Int) := by omega
              have hk0 : (0 : Int) ≤ (k : Int) := Int.natCast_nonneg _
              obtain ⟨b, o, rfl, hb0, hrw⟩ := Ha.out (by intro h; simp [h] at hkl)
              obtain ⟨c0, c1, c2⟩ := (hrw.below hb hb0) k hkl
              have hin := Hm.out k hkl
              have cm := hm.1 k hkl
              have hfz := hm.2.1 k
              have HM := Lib.hid hm
              have Hhit := Lib.hid (fun h1 h2 => goK_hit (t := t) Hf.out hkl h1 h2)
              have Hno := Lib.hid (fun h => goK_no (l := l) (t := t) (k := k) h)
              rw [← HT.out, ← hL2] at Hhit Hno
              have HL2 := Lib.hid hL2
              clear hrw hm hb hL2
              obtain ⟨r, hr⟩ : ∃ r, l.getD k bk0 = r := ⟨_, rfl⟩
              rw [hr] at c0 c1 c2 hin Hhit Hno
              clear hr
              obtain ⟨xa, xb, xm⟩ := r
              simp only at c0 c1 c2 hin Hhit Hno
              subst hin
              by_cases h1 : xb = T
              · by_cases h2 : L2 ≤ xa
                · have Hs := Lib.hid (Hhit.out h1 h2)
                  have HM2 := Lib.hid (show MkAt (wr.setCell ⟨w.heap.size, k, none⟩ (.bool true)) w.heap.size l.length (fun i => (goK l t (k + 1)).2.contains i) by
                    rw [Hs.out]; simp only; rw [contains_snoc]; exact HM.out.put hkl true)
                  clear Hhit Hno HM
                  go_wp2
                  exact ⟨⟨k + 1, T, hkl, by rw [Hs.out]; exact HT.out, rfl, by go_num, HM2.out, HB.out.setCell (Nat.le_refl _) _⟩, by simp [intOf]; omega⟩
                · have Hs := Lib.hid (Hno.out (fun h => h2 h.2))
                  clear Hhit Hno
                  go_wp2
                  exact ⟨⟨k + 1, L2, hkl, by rw [Hs.out]; exact HL2.out, rfl, by go_num, by rw [Hs.out]; exact HM.out, HB.out⟩, by simp [intOf]; omega⟩
              · have Hs := Lib.hid (Hno.out (fun h => h1 h.1))
                clear Hhit Hno
                go_wp2
                exact ⟨⟨k + 1, L2, hkl, by rw [Hs.out]; exact HL2.out, rfl, by go_num, by rw [Hs.out]; exact HM.out, HB.out⟩, by simp [intOf]; omega⟩
            · obtain rfl : k = l.length := by omega
              rw [goK_end] at hL2 hm
              have HM := Lib.hid hm
              have HL2 := Lib.hid hL2
              clear hm hb hL2
              go_wp2
              exact ⟨⟨t + 1, T + 1, L2, hlt, by have := HT.out; omega, HL2.out, rfl, by go_num, HM.out, HB.out⟩, by simp [intOf]; omega⟩
        · obtain rfl : t = N := by omega
          have hTn : ¬ T ≤ (t : Int) := by omega
          have HM0 := HM
          have Hm0 := Lib.hid HM.out.2.2
          clear hT hL HM0
          go_wp2
          have hs1 := (HB.out).size
          have Hr1 := Lib.hid (RowI.made wr w.heap.size hs1)
          have Hm2 := Lib.hid (HM.out.below ((Below.refl (w.heap.size + 1) wr).alloc HM.out.2.2 (.cells #[] 3)) (Nat.lt_succ_self _))
          have Hb2 := Lib.hid (HB.out.alloc hs1 (.cells #[] 3))
          clear HM HB
          go_loopw [10, 11] (fun u i w3 => ∃ k : Nat, k ≤ l.length ∧ i = .int .i64 k ∧ RowI w3 w.heap.size u (pickE l t k) ∧ u.ownBlock ≠ some w.heap.size ∧ MkAt w3 w.heap.size l.length (fun i => (goE l t).2.contains i) ∧ Below w.heap.size w w3) (fun _ i _ => l.length - (intOf i).toNat)
          case atStart => exact ⟨0, Nat.zero_le _, rfl, Hr1.out, by have := Hm0.out; simp [Value.ownBlock]; omega, Hm2.out, Hb2.out⟩
          case round =>
            clear Hr1 Hm2 Hb2
            obtain ⟨k, hk, rfl, hr, hne, hm, hb⟩ := hrel
            have HR := Lib.hid hr
            have HB := Lib.hid hb
            have HNE := Lib.hid hne
            by_cases hkl : k < l.length
            · have hk' : (k : Int) < (l.length : Int) := by omega
              have hk0 : (0 : Int) ≤ (k : Int) := Int.natCast_nonneg _
              have c : wr.cell? ⟨w.heap.size, k, none⟩ = some (.bool ((goE l t).2.contains k)) := hm.1 k hkl
              have hpl := pickE_len l t k
              have Hsn := Lib.hid (pickE_succ l t k)
              have HM := Lib.hid hm
              have hown := hr
              unfold RowI at hown
              have hszr := hb.size
              clear hr hm hb hne
              generalize hys : pickE l t k = ys at *
              generalize (goE l t).2.contains k = q at *
              cases q with
              | true =>
                simp only [↓reduceIte] at Hsn
                go_wp2_with (at_builtin; refine wpList_append_own_at _ rfl _ _ 26 rfl w.heap.size 3 i0 (.int .i64 0) 1 8 Try.underlying26 hi hz0 hz1 hz2 rfl (by decide) _ _ _ rfl (hown.alloc _) ⟨wr.heap.size, 0, none⟩ 1 1 [.int .i64 k] rfl rfl (cell_one_new _ _ _) (by simp [Value.oneCell']) (by simp only [maxLen]; omega) (by omega) (by simp; omega) ?_; intro v' w8 hown8 hgrow _ hatb)
                have HB8 := Lib.hid ((HB.out.alloc hszr (.cells #[.int .i64 k] 3)).grown hgrow (by simp; omega) (fun j hj => (hown.lt j hj).1))
                have Hr8 := Lib.hid (show RowI w8 w.heap.size v' (pickE l t (k + 1)) by
                  rw [Hsn.out]; exact RowI.snoc hown8)
                have hsm := HM.out.2.2
                have HM8 := Lib.hid ((HM.out.below (B := wr.heap.size) ((Below.refl _ _).alloc (Nat.le_refl _) (.cells #[.int .i64 k] 3)) hsm).blk (hgrow.block w.heap.size (by simp; omega) (fun e => HNE.out e.symm)) hgrow.size)
                have Hn8 := Lib.hid (show v'.ownBlock ≠ some w.heap.size from fun e => by
                  rcases hatb with h | h
                  · exact HNE.out (h.symm.trans e)
                  · rw [h] at e; injection e with e; simp at e; omega)
                clear hown8 hgrow hown hatb
                go_wp2
                exact ⟨⟨k + 1, hkl, by go_num, Hr8.out, Hn8.out, HM8.out, HB8.out⟩, by simp [intOf]; omega⟩
              | false =>
                simp only [Bool.false_eq_true, ↓reduceIte, List.append_nil] at Hsn
                go_wp2
                exact ⟨⟨k + 1, hkl, by go_num, by rw [Hsn.out]; exact HR.out, HNE.out, HM.out, HB.out⟩, by simp [intOf]; omega⟩
            · obtain rfl : k = l.length := by omega
              clear hr hm hb hne
              go_wp2_with fail
              refine (HV.out _ HB.out).mono ?_; rintro e w4 ⟨rfl, m4, rfl⟩
              have HI := Lib.hid (IntsOk.row (w := w) true (RowI.below HR.out (Drewn.below ⟨m4, rfl⟩)) (Nat.le_refl _) (HB.out.drewN m4))
              clear HR
              go_wp2
              go_ret2
              exact HI.out
    · have hno : bestOk N l = false := by simpa using hall
      rw [bestX_no hno, hno]
      obtain ⟨j, hj, hmj, hmi⟩ : ∃ j, j < l.length ∧ (l.getD j bk0).m = false ∧ ∀ i, i < j → (l.getD i bk0).m = true := by
        rcases firstNot (l := l) with h | h
        · exact absurd (bestOk_iff.2 ⟨hz, h⟩) hall
        · exact h
      have Hmj := Lib.hid hmj
      have Hmi := Lib.hid hmi
      clear hz hall hfit hf hno hmj hmi Hf
      go_enter Try.func11, Try.ntmps11
      go_wp2
      go_loopw [7, 8] (fun la t wr => la = .int .i64 0 ∧ t = .int .i64 1 ∧ MkAt wr w.heap.size l.length (fun _ => false) ∧ Below w.heap.size w wr) (fun _ _ _ => 0)
      case atStart => exact ⟨rfl, rfl, HM0.out, HB0.out⟩
      case round =>
        clear HM0 HB0
        obtain ⟨rfl, rfl, hm, hb⟩ := hrel
        have HM := Lib.hid hm
        have HB := Lib.hid hb
        clear hm hb
        go_wp2_with fail
        refine (HV.out _ HB.out).mono ?_; rintro e w1 ⟨rfl, m1, rfl⟩
        have HM1 := Lib.hid (HM.out.drewN m1)
        have HB1 := Lib.hid (HB.out.drewN m1)
        generalize wr.drewN m1 = w1 at *
        clear HM HB
        go_wp2
        go_loopw [7, 9] (fun la i w4 => ∃ (k : Nat) (L : Int) (f : Nat → Bool), k ≤ j ∧ la = .int .i64 L ∧ i = .int .i64 k ∧ MkAt w4 w.heap.size l.length f ∧ Below w.heap.size w w4) (fun _ i _ => l.length - (intOf i).toNat)
        case atStart => exact ⟨0, 0, _, Nat.zero_le _, rfl, rfl, HM1.out, HB1.out⟩
        case round =>
          clear HM1 HB1
          obtain ⟨k, L2, f, hk, rfl, rfl, hm, hb⟩ := hrel
          have HB := Lib.hid hb
          have hkl : k < l.length := by omega
          have hk' : (k : Int) < (l.length : Int) := by omega
          have hk0 : (0 : Int) ≤ (k : Int) := Int.natCast_nonneg _
          obtain ⟨b, o, rfl, hb0, hrw⟩ := Ha.out (by intro h; simp [h] at hkl)
          obtain ⟨c0, c1, c2⟩ := (hrw.below hb hb0) k hkl
          have cm := hm.1 k hkl
          have hfz := hm.2.1 k
          have HM := Lib.hid hm
          clear hrw hm hb
          by_cases hkj : k < j
          · have hin := Hmi.out k hkj
            obtain ⟨r, hr⟩ : ∃ r, l.getD k bk0 = r := ⟨_, rfl⟩
            rw [hr] at c0 c1 c2 hin
            clear hr
            obtain ⟨xa, xb, xm⟩ := r
            simp only at c0 c1 c2 hin
            subst hin
            by_cases h1 : xb = 1
            · by_cases h2 : L2 ≤ xa
              · have HM2 := Lib.hid (HM.out.put hkl true)
                clear HM
                go_wp2
                exact ⟨⟨k + 1, 1, _, hkj, rfl, by go_num, HM2.out, HB.out.setCell (Nat.le_refl _) _⟩, by simp [intOf]; omega⟩
              · go_wp2
                exact ⟨⟨k + 1, L2, f, hkj, rfl, by go_num, HM.out, HB.out⟩, by simp [intOf]; omega⟩
            · go_wp2
              exact ⟨⟨k + 1, L2, f, hkj, rfl, by go_num, HM.out, HB.out⟩, by simp [intOf]; omega⟩
          · obtain rfl : k = j := by omega
            have hin := Hmj.out
            obtain ⟨r, hr⟩ : ∃ r, l.getD k bk0 = r := ⟨_, rfl⟩
            rw [hr] at c0 c1 c2 hin
            clear hr
            obtain ⟨xa, xb, xm⟩ := r
            simp only at c0 c1 c2 hin
            subst hin
            clear HM
            go_wp2
            go_ret2
            exact IntsOk.no HB.out.size (by simp) (HB.out.alloc HB.out.size _)

end Go.Proofs.Ytlkhgnglblgldaa
