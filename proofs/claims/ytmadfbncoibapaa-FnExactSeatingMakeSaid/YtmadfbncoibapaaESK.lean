/- The model's SeatingMake. -/
import Derived.Test.YtmadfbncoibapaaESM
import Derived.Test.YtmadfbncoibapaaER
namespace Go.Proofs.Ytmadfbncoibapaa
open Go.RowKit

/-- Booking j is done, once the bookings from f on, up to the i-th, are. -/
def doneB (l : List Bk) (f i j : Nat) : Bool := decide ((l.getD j bk0).a < f) || (decide ((l.getD j bk0).a = f) && decide (j < i))
def stateQ (l : List Bk) (q : List Int) (f i : Nat) : List Int := (List.range l.length).map fun j => if doneB l f i j then q.getD j 0 else -1
theorem doneB_iff {l : List Bk} {f i j : Nat} : doneB l f i j = true ↔ (l.getD j bk0).a < f ∨ ((l.getD j bk0).a = f ∧ j < i) := by simp [doneB]
theorem stateQ_len (l : List Bk) (q : List Int) (f i : Nat) : (stateQ l q f i).length = l.length := by simp [stateQ]
theorem stateQ_at {l : List Bk} {q : List Int} {f i j : Nat} (h : j < l.length) : (stateQ l q f i).getD j 0 = if doneB l f i j then q.getD j 0 else -1 := by simp [stateQ, List.getD, h]
theorem getD_eq_of {a b : List Int} (hl : a.length = b.length) (h : ∀ j, j < a.length → a.getD j 0 = b.getD j 0) : a = b := by
  apply List.ext_getElem hl
  intro j h1 h2
  have := h j h1
  simpa [List.getD, h1, h2] using this
theorem stateQ_zero {l : List Bk} {q : List Int} (h : ∀ j, j < l.length → 0 ≤ (l.getD j bk0).a) : stateQ l q 0 0 = List.replicate l.length (-1) := by
  refine getD_eq_of (by simp [stateQ]) fun j hj => ?_
  rw [stateQ_len] at hj
  rw [stateQ_at hj]
  have := h j hj
  have : doneB l 0 0 j = false := by rw [Bool.eq_false_iff]; intro h'; have := doneB_iff.1 h'; omega
  rw [this]; simp [List.getD, hj]
theorem stateQ_next (l : List Bk) (q : List Int) (f : Nat) : stateQ l q f l.length = stateQ l q (f + 1) 0 := by
  refine getD_eq_of (by simp [stateQ]) fun j hj => ?_
  rw [stateQ_len] at hj
  rw [stateQ_at hj, stateQ_at hj]
  have : doneB l f l.length j = doneB l (f + 1) 0 j := by
    rw [Bool.eq_iff_iff, doneB_iff, doneB_iff]; omega
  rw [this]
theorem stateQ_set {l : List Bk} {q : List Int} {f i : Nat} (hi : i < l.length) (h : (l.getD i bk0).a = f) : (stateQ l q f i).set i (q.getD i 0) = stateQ l q f (i + 1) := by
  refine getD_eq_of (by simp [stateQ]) fun j hj => ?_
  rw [List.length_set, stateQ_len] at hj
  rw [stateQ_at hj]
  by_cases e : i = j
  · subst e
    have : doneB l f (i + 1) i = true := doneB_iff.2 (.inr ⟨h, by omega⟩)
    rw [this]
    simp [List.getD, stateQ_len, hj]
  · have h1 : ((stateQ l q f i).set i (q.getD i 0)).getD j 0 = (stateQ l q f i).getD j 0 := by simp [List.getD, List.getElem?_set, e]
    rw [h1, stateQ_at hj]
    have : doneB l f i j = doneB l f (i + 1) j := by rw [Bool.eq_iff_iff, doneB_iff, doneB_iff]; omega
    rw [this]
theorem stateQ_skip {l : List Bk} {q : List Int} {f i : Nat} (h : (l.getD i bk0).a ≠ f) : stateQ l q f i = stateQ l q f (i + 1) := by
  refine getD_eq_of (by simp [stateQ]) fun j hj => ?_
  rw [stateQ_len] at hj
  rw [stateQ_at hj, stateQ_at hj]
  have : doneB l f i j = doneB l f (i + 1) j := by
    rw [Bool.eq_iff_iff, doneB_iff, doneB_iff]
    constructor
    · omega
    · rintro (h1 | ⟨h1, h2⟩)
      · exact .inl h1
      · by_cases e : j = i
        · subst e; exact absurd h1 h
        · exact .inr ⟨h1, by omega⟩
  rw [this]
theorem stateQ_end {l : List Bk} {q : List Int} {n : Nat} (hq : q.length = l.length) (h : ∀ j, j < l.length → (l.getD j bk0).a < n) : stateQ l q n 0 = q := by
  refine getD_eq_of (by simp [stateQ, hq]) fun j hj => ?_
  rw [stateQ_len] at hj
  rw [stateQ_at hj, doneB_iff.2 (.inl (h j hj))]; rfl

/-- The seat of booking i is the least one that l4Least finds. -/
theorem stateQ_least {n : Int} {l : List Bk} {p : Pl} {q : List Int} (hz : validB n l = true) (hp : planB l = some (p, q)) {f i : Nat} (hi : i < l.length) (hf : (l.getD i bk0).a = f) :
    ∃ s : Nat, q.getD i 0 = (s : Int) ∧ s ≤ 16 ∧ (∀ k, k < l.length → ¬ hitB l (stateQ l q f i) i s k) ∧ (∀ t, t < s → ∃ k, k < l.length ∧ hitB l (stateQ l q f i) i t k) := by
  obtain ⟨⟨_, hn7⟩, _, hfit, _⟩ := validB_iff.1 hz
  obtain ⟨hl, hs⟩ := planB_seat (fun i hi => fit7_of hn7 (hfit i hi)) hp
  obtain ⟨s, h1, h2, h3, h4⟩ := hs i hi
  have hdone : ∀ k, k < l.length → (doneB l f i k = true ↔ befB l k i) := fun k _ => by
    rw [doneB_iff]; unfold befB; rw [hf]
  refine ⟨s, h1, by have := seatsB_le (l.getD i bk0).m; omega, ?_, ?_⟩
  · rintro k hk ⟨e1, e2⟩
    rw [stateQ_at hk] at e1
    split at e1
    · rename_i hd
      simp only [meetK, Bool.and_eq_true, decide_eq_true_eq, beq_iff_eq] at e2
      refine h3 k hk ((hdone k hk).1 hd) e2.1.1.symm ?_ e1
      simp only [meetB, Bool.and_eq_true, decide_eq_true_eq]
      exact ⟨e2.2, e2.1.2⟩
    · omega
  · intro t ht
    obtain ⟨k, hk, hb, hm, hme, hq⟩ := h4 t ht
    refine ⟨k, hk, ?_, ?_⟩
    · rw [stateQ_at hk, (hdone k hk).2 hb]; exact hq
    · simp only [meetB, Bool.and_eq_true, decide_eq_true_eq] at hme
      simp only [meetK, Bool.and_eq_true, decide_eq_true_eq, beq_iff_eq]
      exact ⟨⟨hm.symm, hme.2⟩, hme.1⟩

def Mk1Rel (l : List Bk) (w : World) (u i : Value) (wr : World) : Prop :=
  ∃ j : Nat, j ≤ l.length ∧ i = .int .i64 j ∧ RowI wr w.heap.size u (List.replicate j (-1)) ∧ Below w.heap.size w wr
def Mk2Rel (l : List Bk) (q : List Int) (m g : Nat) (w : World) (f : Value) (wr : World) : Prop :=
  ∃ j : Nat, j ≤ m ∧ f = .int .i64 j ∧ IntAt wr g 0 (stateQ l q j 0) ∧ Room wr g l.length ∧ g < wr.heap.size ∧ Below w.heap.size w wr
def Mk3Rel (l : List Bk) (q : List Int) (j g : Nat) (w : World) (i : Value) (wr : World) : Prop :=
  ∃ k : Nat, k ≤ l.length ∧ i = .int .i64 k ∧ IntAt wr g 0 (stateQ l q j k) ∧ Room wr g l.length ∧ g < wr.heap.size ∧ Below w.heap.size w wr

theorem IntsOk.own {w wr : World} {g cap : Nat} {xs : List Int} (ok : Bool) (h : IntAt wr g 0 xs) (hr : Room wr g xs.length) (hg : w.heap.size ≤ g) (hl : g < wr.heap.size) (hc : xs.length ≤ cap) (hb : Below w.heap.size w wr) : IntsOk xs ok w (.returned (.tuple #[.slice (some ⟨g, 0, none⟩) xs.length cap, .bool ok])) wr :=
  ⟨some ⟨g, 0, none⟩, cap, rfl, hc, fun _ => ⟨g, rfl, hl, h, hr⟩, fun j hj => by obtain ⟨o, ho⟩ := hj; cases ho; exact ⟨hg, hl⟩, hb⟩

set_option maxRecDepth 100000 in
set_option maxHeartbeats 4000000 in
theorem seatingMake1_any (n : Int) (v : Value) (l : List Bk) (w : World) (wn : W64 n) (hv : BkIn w v l) (hl : l.length ≤ 1048576) :
    Calls Try.prog 37 #[.int .i64 n, v] w (IntsOk (seatX n l) (validB n l) w) := by
  obtain ⟨i0, hi, hz0, hz1, hz2⟩ := info_parts Try.info3
  have HV := Lib.hid (books1_any n v l w wn hv hl)
  cases hz : validB n l with
  | false =>
    rw [seatX_no hz]
    rw [hz] at HV
    clear hz hv
    go_enter Try.func37, Try.ntmps37
    go_wp2_with fail
    refine HV.out.mono ?_; rintro e w1 ⟨rfl, m1, rfl⟩
    go_wp2
    go_ret2
    exact IntsOk.no (Nat.le_refl _) (by simp) (((Below.refl _ _).drewN m1).alloc (Nat.le_refl _) _)
  | true =>
    obtain ⟨p, q, hp, _⟩ := plan_some hz
    have HX := Lib.hid (seatX_yes hz hp)
    obtain ⟨⟨hn1, hn7⟩, hl16, hfit, _⟩ := validB_iff.1 hz
    have Hls := Lib.hid (fun f i hi hf => stateQ_least hz hp (f := f) (i := i) hi hf)
    have hlq := (planB_seat (fun i hi => fit7_of hn7 (hfit i hi)) hp).1
    have Hz := Lib.hid (stateQ_zero (q := q) (fun j hj => (fitsB_iff.1 (hfit j hj)).1))
    have Hend := Lib.hid (stateQ_end (n := n.toNat) hlq (fun j hj => by have := fitsB_iff.1 (hfit j hj); omega))
    have Hlq := Lib.hid hlq
    rw [hz] at HV
    obtain ⟨m, rfl⟩ : ∃ m : Nat, n = m := ⟨n.toNat, by omega⟩
    rw [Int.toNat_natCast] at Hend
    clear hz hfit hlq hp
    have Hv := Lib.hid hv
    obtain ⟨a, cap, rfl, hcap, ha⟩ := hv
    have Ha := Lib.hid ha
    clear hcap ha
    go_enter Try.func37, Try.ntmps37
    go_wp2_with fail
    refine HV.out.mono ?_; rintro e w1 ⟨rfl, m1, rfl⟩
    go_wp2
    go_loopw [6, 7] (fun u i wr => Mk1Rel l w u i wr) (fun _ i _ => l.length - (intOf i).toNat)
    case atStart => exact ⟨0, Nat.zero_le _, rfl, RowI.made (w.drewN m1) _ (Nat.le_refl _), ((Below.refl _ _).drewN m1).alloc (Nat.le_refl _) _⟩
    case round =>
      obtain ⟨j, hj, rfl, hrow, hbel⟩ := hrel
      have hszr := hbel.size
      have HB := Lib.hid hbel
      by_cases hlt : j < l.length
      · have hjn : (j : Int) < (l.length : Int) := by omega
        have hup : (List.replicate j (-1 : Int)).length = j := List.length_replicate
        have hown := hrow
        unfold RowI at hown
        rw [hup] at hown
        clear hbel hrow
        go_wp2_with (at_builtin; refine wpList_append_own _ rfl _ _ 41 rfl w.heap.size 3 i0 (.int .i64 0) 1 8 Try.underlying41 hi hz0 hz1 hz2 rfl (by decide) _ _ _ rfl (hown.alloc _) ⟨wr.heap.size, 0, none⟩ 1 1 [.int .i64 (-1)] rfl rfl (cell_one_new _ _ _) (by simp [Value.oneCell']) (by simp only [maxLen]; omega) (by omega) (by simp; omega) ?_; intro v' w8 hown8 hgrow _)
        have HB8 := Lib.hid ((HB.out.alloc hszr (.cells #[.int .i64 (-1)] 3)).grown hgrow (by simp; omega) (fun j hj => (hown.lt j hj).1))
        have Hr8 := Lib.hid (show RowI w8 w.heap.size v' (List.replicate (j + 1) (-1)) by
          rw [List.replicate_succ']; exact RowI.snoc (by rw [hup]; exact hown8))
        clear hown8 hgrow hown
        go_wp2
        exact ⟨⟨j + 1, hlt, by go_num, Hr8.out, HB8.out⟩, by simp [intOf]; omega⟩
      · obtain rfl : j = l.length := by omega
        rw [← Hz.out] at hrow
        obtain ⟨ad, cp, rfl, hc, ho, hin⟩ := hrow.row
        rw [stateQ_len] at hc
        rw [stateQ_len]
        clear hlt hbel hrow
        rcases Nat.eq_zero_or_pos l.length with h0 | h0
        · have hq0 : q = [] := List.eq_nil_of_length_eq_zero (by rw [Hlq.out]; exact h0)
          have HXq := Lib.hid (HX.out.trans hq0)
          have Hin := Lib.hid hin
          have Hs0 := Lib.hid h0
          rw [h0]
          obtain ⟨S0, hS0⟩ : ∃ S0, wr.heap.size = S0 := ⟨_, rfl⟩
          rw [hS0] at Hin
          clear ho hin hc hq0
          go_wp2
          go_loopw [8] (fun f w' => ∃ j : Nat, j ≤ m ∧ f = .int .i64 j ∧ Below w.heap.size w w' ∧ S0 ≤ w'.heap.size) (fun f _ => m - (intOf f).toNat)
          case atStart => exact ⟨0, Nat.zero_le _, rfl, HB.out, by omega⟩
          case round =>
            clear HB
            obtain ⟨f, hf, rfl, hbel, hle⟩ := hrel
            have HB := Lib.hid hbel
            clear hbel
            by_cases hltf : f < m
            · have hfm : (f : Int) < (m : Int) := by omega
              go_wp2
              go_loopw [9] (fun i w' => i = .int .i64 0 ∧ Below w.heap.size w w' ∧ S0 ≤ w'.heap.size) (fun _ _ => 0)
              case atStart => exact ⟨rfl, HB.out, hle⟩
              case round =>
                clear HB hle
                obtain ⟨rfl, hbel, hle⟩ := hrel
                have HB := Lib.hid hbel
                have hn0 : ¬ ((0 : Int) < (l.length : Int)) := by omega
                clear hbel
                go_wp2
                exact ⟨⟨f + 1, hltf, by go_num, HB.out, hle⟩, by simp [intOf]; omega⟩
            · obtain rfl : f = m := by omega
              go_wp2
              go_ret2
              rw [HXq.out]
              exact ⟨ad, cp, rfl, Nat.zero_le _, OwnI.nil, fun j hj => ⟨(Hin.out j hj).1, Nat.lt_of_lt_of_le (Hin.out j hj).2 hle⟩, HB.out⟩
        · obtain ⟨g, rfl, hgl, hia, hro⟩ := ho (by intro h; have := stateQ_len l q 0 0; rw [h] at this; simp at this; omega)
          have hgw := (hin g ⟨0, rfl⟩).1
          rw [stateQ_len] at hro
          have HI := Lib.hid hia
          have HR := Lib.hid hro
          have Hc := Lib.hid hc
          clear hia hro ho hin hc
          go_wp2
          go_loopw [8] (fun f wr => Mk2Rel l q m g w f wr) (fun f _ => m - (intOf f).toNat)
          case atStart => exact ⟨0, Nat.zero_le _, rfl, HI.out, HR.out, hgl, HB.out⟩
          case round =>
            clear HI HR HB
            obtain ⟨f, hf, rfl, hia, hro, hgl2, hbel⟩ := hrel
            have HI := Lib.hid hia
            have HR := Lib.hid hro
            have HB := Lib.hid hbel
            clear hia hro hbel
            by_cases hltf : f < m
            · have hfm : (f : Int) < (m : Int) := by omega
              go_wp2
              go_loopw [9] (fun i wr => Mk3Rel l q f g w i wr) (fun i _ => l.length - (intOf i).toNat)
              case atStart => exact ⟨0, Nat.zero_le _, rfl, HI.out, HR.out, hgl2, HB.out⟩
              case round =>
                clear HI HR HB
                obtain ⟨k, hk, rfl, hia, hro, hgl3, hbel⟩ := hrel
                have HI := Lib.hid hia
                have HR := Lib.hid hro
                have HB := Lib.hid hbel
                by_cases hltk : k < l.length
                · have hkl : (k : Int) < (l.length : Int) := by omega
                  have hk0 : (0 : Int) ≤ (k : Int) := Int.natCast_nonneg _
                  obtain ⟨b, o, rfl, hb0, hrw⟩ := Ha.out (by intro h; simp [h] at h0)
                  obtain ⟨c0, _, _⟩ := (hrw.below hbel hb0) k hltk
                  have HC := Lib.hid (fun s h1 h2 h3 => least1_any _ _ l (stateQ l q f k) k s wr (Hv.out.below hbel) (IntsIn.row (cap := cp) hgl3 (by rw [stateQ_len]; exact Hc.out) hia) hl16 (stateQ_len l q f k) hltk h1 h2 h3)
                  rw [stateQ_len] at HC
                  obtain ⟨u, hu⟩ := hro.1 k hltk
                  have hfz := hro.2 k
                  clear hia hro hbel hrw
                  by_cases hq : (l.getD k bk0).a = (f : Int)
                  · obtain ⟨s, hs1, hs2, hs3, hs4⟩ := Hls.out f k hltk hq
                    have HCs := Lib.hid (HC.out s hs2 hs3 hs4)
                    have Hset := Lib.hid (stateQ_set (q := q) hltk hq)
                    rw [hs1] at Hset
                    rw [hq] at c0
                    clear hs1 hs2 hs3 hs4 HC hq
                    go_wp2_with fail
                    refine HCs.out.mono ?_; rintro e w5 ⟨rfl, hb5⟩
                    have hu5 := keepCell hb5 hu
                    have hfz5 : w5.frozen? ⟨g, k, none⟩ = false := by rw [hb5.frozen (p := ⟨g, k, none⟩) hgl3]; exact hfz
                    have hgl5 := Nat.lt_of_lt_of_le hgl3 hb5.size
                    have HI5 := Lib.hid (HI.out.below hb5 hgl3)
                    have HR5 := Lib.hid (HR.out.below hb5 hgl3)
                    have HB5 := Lib.hid (HB.out.trans (hb5.mono HB.out.size))
                    clear hb5 hu hfz c0
                    go_wp2
                    exact ⟨⟨k + 1, hltk, by go_num, by rw [← Hset.out]; exact IntAt.put HI5.out HR5.out (by rw [stateQ_len]; exact Nat.le_refl _) (by rw [stateQ_len]; exact hltk) _, HR5.out.setCell _ _, by simpa using hgl5, HB5.out.setCell hgw _⟩, by simp [intOf]; omega⟩
                  · have hqb : ((l.getD k bk0).a == (f : Int)) = false := by simpa using hq
                    have Hsk := Lib.hid (stateQ_skip (q := q) hq)
                    clear hq HC
                    generalize (l.getD k bk0).a = xa at *
                    go_wp2
                    exact ⟨⟨k + 1, hltk, by go_num, by rw [← Hsk.out]; exact HI.out, HR.out, hgl3, HB.out⟩, by simp [intOf]; omega⟩
                · obtain rfl : k = l.length := by omega
                  rw [stateQ_next] at HI
                  clear hia hro hbel
                  go_wp2
                  exact ⟨⟨f + 1, hltf, by go_num, HI.out, HR.out, hgl3, HB.out⟩, by simp [intOf]; omega⟩
            · obtain rfl : f = m := by omega
              rw [Hend.out] at HI
              have hlq := Hlq.out
              have HO := Lib.hid (IntsOk.own (w := w) true HI.out (by rw [hlq]; exact HR.out) hgw hgl2 (by rw [hlq]; exact Hc.out) HB.out)
              rw [hlq] at HO
              clear HI hlq
              go_wp2
              go_ret2
              rw [HX.out]
              exact HO.out

end Go.Proofs.Ytmadfbncoibapaa
