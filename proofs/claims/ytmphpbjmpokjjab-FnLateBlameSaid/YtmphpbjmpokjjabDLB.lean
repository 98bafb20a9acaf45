/- Draws: a timetable, a least stop, a start and delays (l92Late). -/
import Derived.Test.YtmphpbjmpokjjabDLA
import Derived.Test.YtmphpbjmpokjjabIZ
namespace Go.Proofs.Ytmphpbjmpokjjab
open Go.RowKit

theorem ints_touch {w w' : World} {v : Value} {ds : List Int} {S : Nat → Prop} (h : IntsIn w v ds) (ht : Touch S w w') (hS : ∀ q, v.ownBlock = some q → ¬ S q) : IntsIn w' v ds := by
  obtain ⟨a, cap, rfl, hc, ha⟩ := h
  refine ⟨a, cap, rfl, hc, fun hne => ?_⟩
  obtain ⟨b, o, rfl, hb, hat⟩ := ha hne
  have hk := ht.block b hb (hS b rfl)
  exact ⟨b, o, rfl, Nat.lt_of_lt_of_le hb ht.size, fun i hi => (World.cell?_of_block (a := ⟨b, o + i, none⟩) hk).trans (hat i hi)⟩
theorem rowI_touch {w w' : World} {B : Nat} {v : Value} {l : List Int} {S : Nat → Prop} (h : RowI w B v l) (ht : Touch S w w') (hS : ∀ q, S q → q < B) : RowI w' B v l := by
  obtain ⟨h1, h2⟩ := h
  refine ⟨h1, ?_⟩
  rcases h2 with h0 | ⟨b, cap, cur, rfl, hb, hh, r⟩
  · exact .inl h0
  · exact .inr ⟨b, cap, cur, rfl, hb, (ht.block b (Array.getElem?_eq_some_iff.1 hh).1 (fun e => by have := hS b e; omega)).trans hh, r⟩
theorem rowI_ints {w : World} {B g : Nat} {v : Value} {l : List Int} (h : RowI w B v l) (hg : g < B) : IntsIn w v l ∧ ∀ q, v.ownBlock = some q → ¬ q = g := by
  refine ⟨?_, fun q hq e => by have := (World.ownsRow.lt h q hq).1; omega⟩
  obtain ⟨ad, cap, rfl, hc, ho, _⟩ := h.row
  exact ho.ints hc

theorem tdiv4_bd {a : Int} (h0 : -1 ≤ a) (h1 : a ≤ 301) : -1000 ≤ Int.tdiv a 4 ∧ Int.tdiv a 4 ≤ 1000 := by
  by_cases h : a = -1
  · subst h; decide
  · rw [Int.tdiv_eq_ediv_of_nonneg (by omega)]; omega
theorem tdiv3_bd {a : Int} (h0 : -1 ≤ a) (h1 : a ≤ 301) : -1000 ≤ Int.tdiv a 3 ∧ Int.tdiv a 3 ≤ 1000 := by
  by_cases h : a = -1
  · subst h; decide
  · rw [Int.tdiv_eq_ediv_of_nonneg (by omega)]; omega

def DrawnLt (g : Nat) (l : List Int) (p : Nat) (w : World) (e : Ending) (w' : World) : Prop :=
  ∃ (n : Int) (ad : Option Addr) (cap : Nat) (xs : List Rd) (ls st : Int) (v : Value) (ds : List Int) (p' : Nat), e = .returned (.tuple #[.int .i64 n, .slice ad xs.length cap, .int .i64 ls, .int .i64 st, v]) ∧ 2 ≤ n ∧ n ≤ 6 ∧ xs.length ≤ cap ∧ xs.length ≤ 8 ∧ OwnRd w' ad xs ∧
    (∀ j, inBlk ad j → w.heap.size ≤ j) ∧ IntsIn w' v ds ∧ ds.length ≤ 8 ∧ (∀ q, v.ownBlock = some q → ¬ q = g) ∧ Reader w' g l p' ∧ p' ≤ p + 100 ∧ Touch (fun j => j = g) w w' ∧ (-1000 ≤ ls ∧ ls ≤ 1000) ∧ (-1000 ≤ st ∧ st ≤ 1000)

def LdRel (g : Nat) (l : List Int) (p m : Nat) (w : World) (v iv : Value) (wr : World) : Prop :=
  ∃ (i p' : Nat) (t : List Int), i ≤ m ∧ iv = .int .i64 ((i : Int) + 1) ∧ t.length = i ∧ RowI wr w.heap.size v t ∧ Reader wr g l p' ∧ p' ≤ p + 3 * i ∧ Touch (fun j => j = g) w wr

set_option maxRecDepth 100000 in
set_option maxHeartbeats 2000000 in
theorem late92_any (g : Nat) (l : List Int) (p : Nat) (w0 : World) (h : Reader w0 g l p) (hp : p ≤ 100) :
    Calls Try.prog 45 #[.pointer (some ⟨g, 0, none⟩)] w0 (DrawnLt g l p w0) := by
  obtain ⟨i0, hi0, hz0, hz1, hz2⟩ := info_parts Try.info3
  have Hr := Lib.hid h; clear h
  go_enter Try.func45, Try.ntmps45
  go_wp2_with fail
  refine (one91_any g l p _ Hr.out hp).mono ?_; rintro e w ⟨n, ad, cap, xs, p1, rfl, n2, n6, hcap, h8, hown, hblk, hr1, hp1, ht1⟩
  have HO := Lib.hid (And.intro hown (And.intro (fun j hj => (hblk j hj).1) (And.intro (fun j hj => Nat.ne_of_gt (Nat.lt_of_lt_of_le Hr.out.lt (hblk j hj).1)) ht1)))
  have HR1 := Lib.hid hr1
  have hgl := HR1.out.lt
  have hp142 : p1 ≤ 142 := by omega
  have hp1' : p1 ≤ p + 42 := hp1
  clear hown hblk hr1 hp1 ht1
  obtain ⟨m, hm⟩ : ∃ m, xs.length - 1 = m := ⟨_, rfl⟩
  have hb0 : Below w.heap.size w (w.alloc (.cells #[] 3)) := (Below.refl _ _).alloc (Nat.le_refl _) _
  have Hr0 := Lib.hid (HR1.out.belowB hb0 hgl)
  have Hown0 := Lib.hid (RowI.made w w.heap.size (Nat.le_refl _))
  have HT0 := Lib.hid (Touch.of_below (S := fun j => j = g) hb0)
  have Hm := Lib.hid hm
  clear hb0 hm
  go_wp2
  go_loopw [9, 10] (fun v iv wr => LdRel g l p1 m w v iv wr) (fun _ i _ => 20 - (intOf i).toNat)
  case atStart => exact ⟨0, p1, [], by omega, rfl, rfl, Hown0.out, Hr0.out, by omega, HT0.out⟩
  case round =>
    obtain ⟨i, p2, t, him, rfl, hxl, hown, hrd, hp2, htc⟩ := hrel
    have Hown := Lib.hid hown; clear hown
    have Hrd := Lib.hid hrd; clear hrd
    have Htc := Lib.hid htc; clear htc
    have Hxl := Lib.hid hxl; clear hxl
    have hm9 := Hm.out
    by_cases hgo : i + 1 < xs.length
    · have hgo' : (i : Int) + 1 < (xs.length : Int) := by omega
      go_wp2_with fail
      refine (delay92_any g l p2 _ Hrd.out (by omega)).mono ?_; rintro e w3 ⟨a, p3, rfl, ha0, ha1, hr3, hp3, ht3⟩
      have HT3 := Lib.hid (Htc.out.trans ht3)
      have hown3 := rowI_touch Hown.out ht3 (fun q hq => by rw [hq]; exact hgl)
      have Hr3 := Lib.hid hr3
      have hT3s := HT3.out.size
      unfold RowI at hown3
      have hxl' : t.length ≤ 100 := by rw [Hxl.out]; omega
      clear hr3 ht3
      go_wp2_with (at_builtin; refine wpList_append_own _ rfl _ _ 24 rfl w.heap.size 3 i0 (.int .i64 0) 1 8 Try.underlying24 hi0 hz0 hz1 hz2 rfl (by decide) _ _ _ rfl (World.ownsRow.alloc hown3 _) ⟨w3.heap.size, 0, none⟩ 1 1 [.int .i64 a] rfl rfl (cell_one_new _ _ _) (by simp [Value.oneCell']) (by simp only [maxLen]; omega) (by omega) (by simp; omega) ?_; intro v' w5 hown5 hgrow _)
      have hB5 : Below w.heap.size w3 w5 := (((Below.refl _ _).alloc hT3s _).grown hgrow (by simp; omega) (fun j hj => (hown3.lt j hj).1))
      have Hr5 := Lib.hid (Hr3.out.belowB hB5 hgl)
      have HT5 := Lib.hid (HT3.out.belowB hB5)
      have hown6 : RowI w5 w.heap.size v' (t ++ [a]) := RowI.snoc hown5
      have Hown5 := Lib.hid hown6
      clear hown6 hown5 hgrow hown3 hB5
      go_wp2
      exact ⟨⟨i + 1, p3, t ++ [a], by omega, by go_num, by simp [Hxl.out], Hown5.out, Hr5.out, by omega, HT5.out⟩, by simp [intOf]; omega⟩
    · have hgo' : ¬ (i : Int) + 1 < (xs.length : Int) := by omega
      obtain rfl : i = m := by omega
      clear hgo hm9
      by_cases h0 : i = 0
      · obtain rfl : t = [] := List.eq_nil_of_length_eq_zero (by rw [Hxl.out]; exact h0)
        obtain ⟨ad2, cp2, rfl, hcp2, ho2, hin2⟩ := Hown.out.row
        have HIn := Lib.hid (rowI_ints Hown.out hgl)
        have HTt := Lib.hid Htc.out
        rw [show ([] : List Int).length = 0 from rfl]
        rw [show ([] : List Int).length = 0 from rfl] at HIn
        obtain ⟨pT, hpT⟩ : ∃ q, p2 = q := ⟨_, rfl⟩
        have HRt := Lib.hid (show Reader wr g l pT from hpT ▸ Hrd.out)
        have hpT2 : pT ≤ p1 + 30 := by omega
        clear ho2 hin2 Hrd Hown hpT Htc
        go_wp2_with fail
        refine (delay92_any g l pT _ HRt.out (by omega)).mono ?_; rintro e wA ⟨a, pA, rfl, a0, a1, hrA, hpA, htA⟩
        have HRA := Lib.hid hrA
        have HTA := Lib.hid htA
        clear hrA htA
        go_wp2_with fail
        refine (delay92_any g l pA _ HRA.out (by omega)).mono ?_; rintro e wB ⟨c2, pB, rfl, c0, c1, hrB, hpB, htB⟩
        have HTb := Lib.hid (HTA.out.trans htB)
        have HRB := Lib.hid hrB
        clear hrB htB
        go_wp2
        refine bodyPost_ret (v := .tuple #[.int .i64 n, .slice ad xs.length cap, .int .i64 (Int.tdiv a 4), .int .i64 c2, .slice ad2 0 cp2]) (by simp [results, Try.results45, go_sem]) rfl ?_
        exact ⟨n, ad, cap, xs, Int.tdiv a 4, c2, _, [], pB, rfl, n2, n6, hcap, h8, HO.out.1.touch (HTt.out.trans HTb.out) (fun j hj e => HO.out.2.2.1 j hj e), HO.out.2.1, ints_touch HIn.out.1 HTb.out (fun q hq e => HIn.out.2 q hq e), by first | (simp; done) | (simp; omega) | omega, HIn.out.2, HRB.out, by omega, HO.out.2.2.2.trans (HTt.out.trans HTb.out), tdiv4_bd a0 a1, by omega⟩
      · obtain ⟨ad2, cp2, rfl, hcp2, ho2, hin2⟩ := Hown.out.row
        have htp : 0 < t.length := by rw [Hxl.out]; omega
        obtain ⟨b, rfl, hbl, hat, _⟩ := ho2 (by rintro rfl; simp at htp)
        have hbB := (hin2 b ⟨0, rfl⟩).1
        have HIn0 := Lib.hid (rowI_ints Hown.out hgl)
        have Hat := Lib.hid hat
        rw [Hxl.out] at hcp2 HIn0 ⊢
        have hi8 : i ≤ 8 := by have := Hm.out; omega
        have hip : (0 : Int) < (i : Int) := by omega
        have hip1 : (1 : Int) ≤ (i : Int) := by omega
        clear ho2 hin2 hat h0 htp Hown
        go_wp2_with fail
        refine (pick_any g l p2 24 _ Hrd.out (by omega) (by omega)).mono ?_; rintro e wz ⟨⟨c, rfl, hc0, hc1⟩, hrz, hgz⟩
        have htz : Touch (fun j => j = g) wr wz := Touch.grown (S := fun j => j = g) hgz rfl
        have HTt := Lib.hid (Htc.out.trans htz)
        have hatz : IntAt wz b 0 t := fun k hk => by
          rw [World.cell?_of_block (a := ⟨b, 0 + k, none⟩) (htz.block b hbl (fun e => by omega))]; exact Hat.out k hk
        have hblz : b < wz.heap.size := Nat.lt_of_lt_of_le hbl htz.size
        have HRt := Lib.hid hrz
        obtain ⟨pT, hpT⟩ : ∃ q, p2 + 1 = q := ⟨_, rfl⟩
        rw [hpT] at HRt
        have hpT2 : pT ≤ p1 + 30 := by omega
        by_cases q : c = 0
        · subst q
          by_cases hk1 : cp2 = 1
          · subst hk1
            obtain rfl : i = 1 := by omega
            have HIn := Lib.hid (show IntsIn wz (.slice (some ⟨b, 0, none⟩) 0 0) [] ∧ ∀ q, Value.ownBlock (.slice (some ⟨b, 0, none⟩) 0 0) = some q → ¬ q = g from
              ⟨⟨_, _, rfl, Nat.le_refl _, fun h => absurd rfl h⟩, fun q hq e => by
                have : b = q := Option.some.inj (show some b = some q from hq)
                omega⟩)
            have hts := Hxl.out
            have Hts := Lib.hid hts
            clear hrz hgz htz hatz hc1 Hrd Htc hpT hts hip hip1
            go_wp2_with fail
            refine (delay92_any g l pT _ HRt.out (by omega)).mono ?_; rintro e wA ⟨a, pA, rfl, a0, a1, hrA, hpA, htA⟩
            have HRA := Lib.hid hrA
            have HTA := Lib.hid htA
            clear hrA htA
            go_wp2_with fail
            refine (delay92_any g l pA _ HRA.out (by omega)).mono ?_; rintro e wB ⟨c2, pB, rfl, c0, c1, hrB, hpB, htB⟩
            have HTb := Lib.hid (HTA.out.trans htB)
            have HRB := Lib.hid hrB
            clear hrB htB
            go_wp2
            refine bodyPost_ret (v := .tuple #[.int .i64 n, .slice ad xs.length cap, .int .i64 (Int.tdiv a 4), .int .i64 c2, .slice (some ⟨b, 0, none⟩) 0 0]) (by simp [results, Try.results45, go_sem]) rfl ?_
            exact ⟨n, ad, cap, xs, Int.tdiv a 4, c2, _, [], pB, rfl, n2, n6, hcap, h8, HO.out.1.touch (HTt.out.trans HTb.out) (fun j hj e => HO.out.2.2.1 j hj e), HO.out.2.1, ints_touch HIn.out.1 HTb.out (fun q hq e => HIn.out.2 q hq e), by have := Hts.out; first | (simp; done) | (simp; omega), HIn.out.2, HRB.out, by omega, HO.out.2.2.2.trans (HTt.out.trans HTb.out), tdiv4_bd a0 a1, by omega⟩
          · have HIn := Lib.hid (show IntsIn wz (.slice (some ⟨b, 1, none⟩) (i - 1) (cp2 - 1)) (t.drop 1) ∧ ∀ q, Value.ownBlock (.slice (some ⟨b, 1, none⟩) (i - 1) (cp2 - 1)) = some q → ¬ q = g from
              ⟨⟨_, _, by rw [List.length_drop, Hxl.out], by rw [List.length_drop, Hxl.out]; omega, fun _ => ⟨b, 1, rfl, hblz, fun k hk => by
                rw [List.length_drop] at hk
                have := hatz (1 + k) (by omega)
                rw [Nat.zero_add] at this
                rw [this]
                simp [List.getD, List.getElem?_drop, Nat.add_comm]⟩⟩, fun q hq e => by
              have : b = q := Option.some.inj (show some b = some q from hq)
              omega⟩)
            have hts := Hxl.out
            have Hts := Lib.hid hts
            clear hrz hgz htz hatz hc1 Hrd Htc hpT hts
            go_wp2_with fail
            refine (delay92_any g l pT _ HRt.out (by omega)).mono ?_; rintro e wA ⟨a, pA, rfl, a0, a1, hrA, hpA, htA⟩
            have HRA := Lib.hid hrA
            have HTA := Lib.hid htA
            clear hrA htA
            go_wp2_with fail
            refine (delay92_any g l pA _ HRA.out (by omega)).mono ?_; rintro e wB ⟨c2, pB, rfl, c0, c1, hrB, hpB, htB⟩
            have HTb := Lib.hid (HTA.out.trans htB)
            have HRB := Lib.hid hrB
            clear hrB htB
            go_wp2
            refine bodyPost_ret (v := .tuple #[.int .i64 n, .slice ad xs.length cap, .int .i64 (Int.tdiv a 4), .int .i64 c2, .slice (some ⟨b, 1, none⟩) (i - 1) (cp2 - 1)]) (by simp [results, Try.results45, go_sem]) rfl ?_
            exact ⟨n, ad, cap, xs, Int.tdiv a 4, c2, _, (t.drop 1), pB, rfl, n2, n6, hcap, h8, HO.out.1.touch (HTt.out.trans HTb.out) (fun j hj e => HO.out.2.2.1 j hj e), HO.out.2.1, ints_touch HIn.out.1 HTb.out (fun q hq e => HIn.out.2 q hq e), by have := Hts.out; first | (simp; done) | (simp; omega), HIn.out.2, HRB.out, by omega, HO.out.2.2.2.trans (HTt.out.trans HTb.out), tdiv4_bd a0 a1, by omega⟩
        · have q' : (c == 0) = false := by simpa using q
          have HIn := Lib.hid (And.intro (ints_touch HIn0.out.1 htz (fun q hq e => HIn0.out.2 q hq e)) HIn0.out.2)
          have hts := Hxl.out
          clear hrz hgz htz hatz hc1 Hrd Htc hpT q
          go_wp2_with fail
          refine (delay92_any g l pT _ HRt.out (by omega)).mono ?_; rintro e wA ⟨a, pA, rfl, a0, a1, hrA, hpA, htA⟩
          have HRA := Lib.hid hrA
          have HTA := Lib.hid htA
          clear hrA htA
          go_wp2_with fail
          refine (delay92_any g l pA _ HRA.out (by omega)).mono ?_; rintro e wB ⟨c2, pB, rfl, c0, c1, hrB, hpB, htB⟩
          have HTb := Lib.hid (HTA.out.trans htB)
          have HRB := Lib.hid hrB
          clear hrB htB
          go_wp2
          refine bodyPost_ret (v := .tuple #[.int .i64 n, .slice ad xs.length cap, .int .i64 (Int.tdiv a 4), .int .i64 c2, .slice (some ⟨b, 0, none⟩) i cp2]) (by simp [results, Try.results45, go_sem]) rfl ?_
          exact ⟨n, ad, cap, xs, Int.tdiv a 4, c2, _, t, pB, rfl, n2, n6, hcap, h8, HO.out.1.touch (HTt.out.trans HTb.out) (fun j hj e => HO.out.2.2.1 j hj e), HO.out.2.1, ints_touch HIn.out.1 HTb.out (fun q hq e => HIn.out.2 q hq e), by first | (simp; done) | (simp; omega) | omega, HIn.out.2, HRB.out, by omega, HO.out.2.2.2.trans (HTt.out.trans HTb.out), tdiv4_bd a0 a1, by omega⟩

end Go.Proofs.Ytmphpbjmpokjjab
