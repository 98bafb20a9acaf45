/- Draws: a net (l92Net). -/
import Derived.Test.YtmkcnoaphoiiaaaDNA
namespace Go.Proofs.Ytmkcnoaphoiiaaa
open Go.RowKit

def AllLe (L : List (List Tz)) : Prop := ∀ i, i < L.length → (coach L i).length ≤ 8
theorem allLe_tot {L : List (List Tz)} (h : AllLe L) (hl : L.length ≤ 8) : totN L ≤ 1048577 := by
  have key : ∀ k, k ≤ L.length → totTo L k ≤ 8 * k := by
    intro k
    induction k with
    | zero => intro _; exact Nat.le_refl _
    | succ k ih =>
      intro hk
      have := ih (by omega)
      have := h k (by omega)
      show totTo L k + (coach L k).length ≤ _
      omega
  have := key L.length (Nat.le_refl _)
  unfold totN
  omega
theorem allLe_snoc {L : List (List Tz)} {l : List Tz} (h : AllLe L) (hl : l.length ≤ 8) : AllLe (L ++ [l]) := fun i hi => by
  rw [List.length_append, List.length_singleton] at hi
  by_cases e : i = L.length
  · rw [coach_snoc_eq L l e]; exact hl
  · rw [coach_snoc_lt L l (by omega)]; exact h i (by omega)

/-- What l92Net draws. -/
def NetOut (g : Nat) (l : List Int) (p : Nat) (w : World) (e : Ending) (w' : World) : Prop :=
  ∃ (n : Int) (v : Value) (net : List (List Rd)) (p' : Nat), e = .returned (.tuple #[.int .i64 n, v]) ∧ 2 ≤ n ∧ n ≤ 6 ∧ NtX w' (fun b => w.heap.size ≤ b) v net ∧ net.length ≤ 8 ∧ AllLe net ∧ Reader w' g l p' ∧ p' ≤ p + 300 ∧ Touch (fun j => j = g) w w'

def DnRel (A g : Nat) (l : List Int) (p : Nat) (K : Nat) (w : World) (v iv : Value) (wr : World) : Prop :=
  ∃ (i go cap p' : Nat) (L : List (List Tz)), i ≤ K ∧ iv = .int .i64 i ∧ v = .slice (some ⟨go, 0, none⟩) i cap ∧ L.length = i ∧ GrowX wr A go cap L ∧ AllLe L ∧ Reader wr g l p' ∧ p' ≤ p + 2 + 41 * i ∧ Touch (fun j => j = g) w wr
def DgRel (A g Bq : Nat) (l : List Int) (p : Nat) (P : Nat → Prop) (vo : Value) (L : List (List Tz)) (w : World) (v iv : Value) (wr : World) : Prop :=
  ∃ (i k go cap : Nat) (M : List (List Tz)), i ≤ L.length ∧ iv = .int .i64 i ∧ k ≤ i ∧ v = .slice (some ⟨go, 0, none⟩) k cap ∧ M.length = k ∧ GrowX wr A go cap M ∧ AllLe M ∧ NtX wr P vo L ∧ (∀ j, P j → A ≤ j ∧ j ≠ go) ∧ Reader wr g l p ∧ Touch (fun j => j = g) w wr ∧ Bq ≤ wr.heap.size

theorem touch_more {w w2 w8 : World} {g A go : Nat} {O : Obj} (h : Touch (fun j => j = g) w w2) (hA : w.heap.size ≤ A) (hgo : A ≤ go) (hg : (w2.alloc O).grownBy w8 (some go)) : Touch (fun j => j = g) w w8 := by
  refine h.belowB ?_
  exact ((Below.refl w.heap.size w2).alloc h.size O).grown hg (by simp; have := h.size; omega) (fun q hq => by injection hq with hq; omega)
theorem reader_more {w2 w8 : World} {g A go p : Nat} {l : List Int} {O : Obj} (h : Reader w2 g l p) (hg : g < A) (hA : A ≤ w2.heap.size) (hgo : A ≤ go) (hgr : (w2.alloc O).grownBy w8 (some go)) : Reader w8 g l p :=
  h.belowB (((Below.refl A w2).alloc hA O).grown hgr (by simp; omega) (fun q hq => by injection hq with hq; omega)) hg

theorem infoSl2 : (Try.prog.info? 57).map (fun i => (i.zero, i.size, i.bytes)) = some (some (.slice none 0 0), 1, 24) := by kernel_rfl

set_option maxRecDepth 100000 in
set_option maxHeartbeats 4000000 in
theorem net92_any (g : Nat) (l : List Int) (p : Nat) (w : World) (h : Reader w g l p) (hp : p ≤ 100) :
    Calls Try.prog 100 #[.pointer (some ⟨g, 0, none⟩)] w (NetOut g l p w) := by
  obtain ⟨i0, hi0, hz0, hz1, hz2⟩ := info_parts infoSl2
  have hgl := h.lt
  have Hr := Lib.hid h; clear h
  obtain ⟨A, hA⟩ : ∃ A, A = w.heap.size := ⟨_, rfl⟩
  have HA := Lib.hid hA
  go_enter Try.func100, Try.ntmps100
  go_wp2_with fail
  refine (pick_any g l p 5 _ Hr.out (by omega) (by omega)).mono ?_; rintro e w1 ⟨⟨x, rfl, hx0, hx1⟩, hr1, hg1⟩
  have hx5 : x < 5 := by omega
  have HT1 := Lib.hid (Touch.grown (S := fun j => j = g) hg1 rfl)
  have HR1 := Lib.hid hr1
  have hsz1 := HT1.out.size
  have HX0 := Lib.hid (GrowX.made w1 A (by omega))
  have hb1 : Below w1.heap.size w1 (w1.alloc (.cells #[] 57)) := (Below.refl _ _).alloc (Nat.le_refl _) _
  have HT1' := Lib.hid (HT1.out.belowB (hb1.mono HT1.out.size))
  have HR1' := Lib.hid (HR1.out.belowB hb1 HR1.out.lt)
  have hA0 : g < A := by omega
  have hz1' : w1.heap.size < (w1.alloc (.cells #[] 57)).heap.size := by simp
  have Hz1 := Lib.hid hz1'
  clear hr1 hg1 hx1 hb1 hz1' hA
  go_wp2_with fail
  generalize w1.alloc (.cells #[] 57) = w2 at *
  refine (pick_any g l (p + 1) 6 _ HR1'.out (by omega) (by omega)).mono ?_; rintro e w3 ⟨⟨k, rfl, hk0, hk1⟩, hr3, hg3⟩
  obtain ⟨K, rfl⟩ : ∃ K : Nat, k = (K : Int) := ⟨k.toNat, by omega⟩
  have hK : K ≤ 5 := by omega
  have ht3 := Touch.grown (S := fun j => j = g) hg3 rfl
  have HT3 := Lib.hid (HT1'.out.trans ht3)
  have HR3 := Lib.hid hr3
  have HX3 := Lib.hid (HX0.out.touch ht3 hA0)
  obtain ⟨n, hn⟩ : ∃ n, 2 + x = n := ⟨_, rfl⟩
  have hwn : wrap64 (2 + x) = n := by unfold wrap64; omega
  have hn2 : 2 ≤ n := by omega
  have hn6 : n ≤ 6 := by omega
  have wn : W64 n := by unfold W64; omega
  clear hr3 hg3 hk1 ht3 hk0
  rw [hn]
  clear hn hwn hx0 hx5
  go_wp2
  go_loopw [5, 7] (fun v iv wr => DnRel A g l p K w v iv wr) (fun _ iv _ => K - (intOf iv).toNat)
  case atStart => exact ⟨0, w1.heap.size, 0, _, [], Nat.zero_le _, rfl, rfl, rfl, HX3.out, fun i hi => by simp at hi, HR3.out, by omega, HT3.out⟩
  case round =>
    obtain ⟨i, go, cap, p', L, hi, rfl, rfl, hL, hX, hle, hr, hp', htt⟩ := hrel
    have HXr := Lib.hid hX
    have HLe := Lib.hid hle
    have HRr := Lib.hid hr
    have HTr := Lib.hid htt
    have HL := Lib.hid hL
    have hsz := htt.size
    have hAw : A ≤ wr.heap.size := by rw [HA.out]; exact hsz
    clear hX hle hr htt hsz
    by_cases hlt : i < K
    · go_wp2_with fail
      refine (pick_any g l p' 150 _ HRr.out (by omega) (by omega)).mono ?_; rintro e w4 ⟨⟨t, rfl, ht0, ht1⟩, hr4, hg4⟩
      have ht9 : t ≤ 10000 := by omega
      have ht4 := Touch.grown (S := fun j => j = g) hg4 rfl
      have HT4 := Lib.hid (HTr.out.trans ht4)
      have HX4 := Lib.hid (HXr.out.touch ht4 hA0)
      have HR4 := Lib.hid hr4
      have hA4 : A ≤ w4.heap.size := by have := ht4.size; omega
      clear hr4 hg4 ht4 ht1
      go_wp2_with fail
      refine (stops91_any g l (p' + 1) n t _ HR4.out (by omega) hn2 hn6 ht0 ht9).mono ?_
      rintro e w5 ⟨ad, cp, xs, p2, rfl, hcp, h8, hown, hblk, hr5, hp5, ht5⟩
      have hX5 := HX4.out.touch ht5 hA0
      obtain ⟨lo1, lo2, lo3⟩ := HX4.out.lo
      have hA5 : A ≤ w5.heap.size := by have := ht5.size; omega
      obtain ⟨us, ho5, hin5⟩ := hX5
      rw [HL.out] at ho5
      have hu5 : TzX w5 (fun b => A ≤ b ∧ b ≠ go) (.slice ad xs.length cp) xs := ⟨ad, cp, rfl, hcp, fun hne => by
        obtain ⟨b, rfl, hbl, hat, _⟩ := hown hne
        have := hblk b ⟨0, rfl⟩
        exact ⟨b, 0, rfl, ⟨by omega, by omega⟩, hbl, hat⟩⟩
      have HP := Lib.hid (fun (w8 : World) (g2 cap2 : Nat) => GrowX.push (w8 := w8) (g2 := g2) (cap2 := cap2) (cap := cap) (O := .cells #[.slice ad xs.length cp] 57) (by rw [HL.out]; exact ho5) hin5 hu5)
      rw [HL.out] at HP
      have HT5 := Lib.hid (HT4.out.trans ht5)
      have HR5 := Lib.hid hr5
      have Hp5 := Lib.hid hp5
      have Hp' := Lib.hid hp'
      have Hi := Lib.hid hi
      have hi5 : i ≤ 5 := by omega
      clear hown hblk hr5 ht5 hin5 hu5 hp5 hp' hcp
      go_wp2_with (at_builtin; refine wpList_append_lies _ rfl _ _ 25 rfl A 57 i0 _ 1 24 Try.underlying25 hi0 hz0 hz1 hz2 rfl (by decide) _ i us rfl (World.ownsRow.alloc ho5 _) ⟨w5.heap.size, 0, none⟩ 1 1 [.slice ad xs.length cp] rfl rfl (one_news w5 _ _) (by simp [Value.oneCell']) (by decide) (by simp only [maxLen]; omega) (by omega) (by simp; omega) _ rfl ?_; intro g2 cp2 w8 hown8 hgrow8 hlie8 _; have hP8 := HP.out _ _ _ hown8 hgrow8 hlie8; have HP8 := Lib.hid hP8; have HT8 := Lib.hid (touch_more HT5.out (by rw [HA.out]; exact Nat.le_refl _) lo1 hgrow8); have HR8 := Lib.hid (reader_more HR5.out hA0 hA5 lo1 hgrow8); clear hown8 hgrow8 hlie8 hP8 ho5)
      exact ⟨⟨i + 1, g2, cp2, p2, L ++ [xs], hlt, by go_num, rfl, by rw [List.length_append, HL.out]; rfl, HP8.out, allLe_snoc HLe.out h8, HR8.out, by have := Hp5.out; have := Hp'.out; omega, HT8.out⟩, by simp [intOf]; omega⟩
    · obtain rfl : i = K := by omega
      have hpb : p' ≤ 400 := by omega
      go_wp2_with fail
      refine (pick_any g l p' 30 _ HRr.out (by omega) (by omega)).mono ?_; rintro e w4 ⟨⟨z, rfl, hz0', hz1'⟩, hr4, hg4⟩
      have ht4 := Touch.grown (S := fun j => j = g) hg4 rfl
      have HT4 := Lib.hid (HTr.out.trans ht4)
      have HX4 := Lib.hid (HXr.out.touch ht4 hA0)
      have HR4 := Lib.hid hr4
      have hA4 : A ≤ w4.heap.size := by have := ht4.size; omega
      clear hr4 hg4 ht4 hz1'
      by_cases q : z = 0
      · subst q
        have hb5 : Below w4.heap.size w4 (w4.alloc (.cells #[] 77)) := (Below.refl _ _).alloc (Nat.le_refl _) _
        have hX5 := HX4.out.below hb5
        obtain ⟨lo1, lo2, lo3⟩ := HX4.out.lo
        obtain ⟨us, ho5, hin5⟩ := hX5
        rw [HL.out] at ho5
        have hu5 : TzX (w4.alloc (.cells #[] 77)) (fun b => A ≤ b ∧ b ≠ go) (.slice (some ⟨w4.heap.size, 0, none⟩) 0 0) [] := ⟨_, 0, rfl, Nat.le_refl _, fun hne => absurd rfl hne⟩
        have HP := Lib.hid (fun (w8 : World) (g2 cap2 : Nat) => GrowX.push (w8 := w8) (g2 := g2) (cap2 := cap2) (cap := cap) (O := .cells #[.slice (some ⟨w4.heap.size, 0, none⟩) 0 0] 57) (by rw [HL.out]; exact ho5) hin5 hu5)
        rw [HL.out] at HP
        have HT5 := Lib.hid (HT4.out.belowB (hb5.mono HT4.out.size))
        have HR5 := Lib.hid (HR4.out.belowB hb5 HR4.out.lt)
        have hA5 : A ≤ (w4.alloc (.cells #[] 77)).heap.size := by simp; omega
        have Hp' := Lib.hid hp'
        have hi5 : i ≤ 5 := hK
        clear hin5 hu5 hp' hb5
        go_wp2_with (at_builtin; refine wpList_append_lies _ rfl _ _ 25 rfl A 57 i0 _ 1 24 Try.underlying25 hi0 hz0 hz1 hz2 rfl (by decide) _ i us rfl (World.ownsRow.alloc ho5 _) ⟨w4.heap.size + 1, 0, none⟩ 1 1 [.slice (some ⟨w4.heap.size, 0, none⟩) 0 0] rfl rfl (news2 w4 _ #[.slice (some ⟨w4.heap.size, 0, none⟩) 0 0] 57) (by simp [Value.oneCell']) (by decide) (by simp only [maxLen]; omega) (by omega) (by simp; omega) _ rfl ?_; intro g2 cp2 w8 hown8 hgrow8 hlie8 _; have hP8 := HP.out _ _ _ hown8 hgrow8 hlie8; have HP8 := Lib.hid hP8; have HT8 := Lib.hid (touch_more HT5.out (by rw [HA.out]; exact Nat.le_refl _) lo1 hgrow8); have HR8 := Lib.hid (reader_more HR5.out hA0 hA5 lo1 hgrow8); have hA8 : A ≤ w8.heap.size := (by have := hgrow8.size; simp at this; omega); clear hown8 hgrow8 hlie8 hP8 ho5)
        obtain ⟨L2, hL2⟩ : ∃ L2, L2 = L ++ [[]] := ⟨_, rfl⟩
        have HL2 := Lib.hid (show L2.length = i + 1 by rw [hL2, List.length_append, HL.out]; rfl)
        have HLe2 := Lib.hid (show AllLe L2 by rw [hL2]; exact allLe_snoc HLe.out (by decide))
        have HX8 := Lib.hid (show GrowX w8 A g2 cp2 L2 by rw [hL2]; exact HP8.out)
        clear hL2 HP8 HP
        obtain ⟨m, hm⟩ : ∃ m, m = i + 1 := ⟨_, rfl⟩
        have HLm := Lib.hid (show L2.length = m by rw [hm]; exact HL2.out)
        have hm6 : m ≤ 6 := by omega
        have HN := Lib.hid (show NtX w8 (fun b => A ≤ b) (.slice (some ⟨g2, 0, none⟩) m cp2) L2 from by have := HX8.out.done; rwa [HLm.out] at this)
        have Hin := Lib.hid (show NtX w8 (fun b => A ≤ b ∧ b < w8.heap.size) (.slice (some ⟨g2, 0, none⟩) m cp2) L2 from HN.out.mono fun j hj h => ⟨h, hj⟩)
        rw [← hm]
        clear hm
        go_wp2_with fail
        refine (netValid1_any n _ L2 _ HN.out.in_ (allLe_tot HLe2.out (by rw [HLm.out]; omega))).mono ?_; rintro e wv ⟨rfl, hbv⟩
        have HTv := Lib.hid (HT8.out.belowB (hbv.mono HT8.out.size))
        have HRv := Lib.hid (HR8.out.belowB hbv HR8.out.lt)
        have HNv := Lib.hid (HN.out.below hbv)
        have Hinv := Lib.hid (Hin.out.below hbv)
        have hAv : A ≤ wv.heap.size := by have := hbv.size; omega
        have Hwv := Lib.hid hbv.size
        clear hbv
        cases hv : okNet n L2 with
        | true =>
          clear hv
          go_wp2
          go_ret2
          exact ⟨n, _, L2, _, rfl, hn2, hn6, by rw [← HA.out]; exact HNv.out, by rw [HLm.out]; omega, HLe2.out, HRv.out, by have := Hp'.out; omega, HTv.out⟩
        | false =>
          clear hv
          go_wp2_with fail
          refine (pick_any g l (p' + 1) 3 _ HRv.out (by omega) (by omega)).mono ?_; rintro e w6 ⟨⟨y, rfl, hy0, hy1⟩, hr6, hg6⟩
          have ht6 := Touch.grown (S := fun j => j = g) hg6 rfl
          have HT6 := Lib.hid (HTv.out.trans ht6)
          have HR6 := Lib.hid hr6
          have HN6 := Lib.hid (HNv.out.touch ht6 (fun j hj e => by omega))
          have Hin6 := Lib.hid (Hinv.out.touch ht6 (fun j hj e => by omega))
          have hA6 : A ≤ w6.heap.size ∧ w8.heap.size ≤ w6.heap.size := by have := ht6.size; have := Hwv.out; omega
          clear hr6 hg6 ht6 hy1
          by_cases qy : 0 < y
          · have hd : decide (0 < y) = true := decide_eq_true qy
            have HX6 := Lib.hid (GrowX.made w6 A hA6.1)
            have hb7 : Below w6.heap.size w6 (w6.alloc (.cells #[] 57)) := (Below.refl _ _).alloc (Nat.le_refl _) _
            have HT7 := Lib.hid (HT6.out.belowB (hb7.mono HT6.out.size))
            have HR7 := Lib.hid (HR6.out.belowB hb7 HR6.out.lt)
            have Hin7 := Lib.hid (Hin6.out.below hb7)
            clear hb7
            go_wp2
            go_loopw [8, 9] (fun v iv wr => DgRel A g w8.heap.size l (p' + 1 + 1) (fun b => A ≤ b ∧ b < w8.heap.size) (.slice (some ⟨g2, 0, none⟩) m cp2) L2 w v iv wr) (fun _ iv _ => L2.length - (intOf iv).toNat)
            case atStart => exact ⟨0, 0, w6.heap.size, 0, [], Nat.zero_le _, rfl, Nat.le_refl _, rfl, rfl, HX6.out, fun i hi => by simp at hi, Hin7.out, fun j hj => ⟨hj.1, by omega⟩, HR7.out, HT7.out, by simp; omega⟩
            case round =>
              obtain ⟨i, k, gg, cg, M, hi7, rfl, hki, rfl, hM, hX7, hle7, hin7, hPj, hr7, ht7, hBq⟩ := hrel
              have HX7 := Lib.hid hX7
              have HLe7 := Lib.hid hle7
              have HIn7 := Lib.hid hin7
              have HPj := Lib.hid hPj
              have HR77 := Lib.hid hr7
              have HT77 := Lib.hid ht7
              have HM := Lib.hid hM
              have hA7 : A ≤ wr.heap.size := by have := ht7.size; rw [HA.out]; exact this
              rw [HLm.out] at hi7
              clear hX7 hle7 hPj hr7 ht7
              by_cases hlt7 : i < m
              · obtain ⟨a9, c9, e9, _, ha9⟩ := hin7
                injection e9 with e9 e12 e10
                subst e9
                clear e12 e10
                obtain ⟨b9, o9, e9, _, _, hat9⟩ := ha9 (by intro e; have := HLm.out; rw [e] at this; simp at this; omega)
                injection e9 with e9
                injection e9 with e9 e11 _
                subst e9 e11
                obtain ⟨u, c0, hu⟩ := hat9 i (by rw [HLm.out]; exact hlt7)
                rw [Nat.zero_add] at c0
                have hl8 := HLe2.out i (by rw [HLm.out]; exact hlt7)
                have Hl8 := Lib.hid hl8
                have HU := Lib.hid hu
                have Hc := Lib.hid (valid1_any n u (coach L2 i) wr hu.in_.roads (by omega))
                have hlt7' : (i : Int) < (m : Int) := by omega
                clear hat9 ha9 hu hl8
                go_wp2_with fail
                refine Hc.out.mono ?_; rintro e wq ⟨rfl, hbq⟩
                have HXq := Lib.hid (HX7.out.below hbq)
                have HInq := Lib.hid (HIn7.out.below hbq)
                have HRq := Lib.hid (HR77.out.belowB hbq HR77.out.lt)
                have HTq := Lib.hid (HT77.out.belowB (hbq.mono HT77.out.size))
                have cq := (hbq.cell (p := ⟨g2, i, none⟩) (World.block_lt_of_cell? _ _ c0)).trans c0
                have HUq := Lib.hid (HU.out.touch (Touch.of_below (S := fun _ => False) hbq) (fun _ _ h => h))
                have hAq : A ≤ wq.heap.size := by have := hbq.size; omega
                have hBqq := hbq.size
                clear hbq c0 Hc
                cases hvv : validS n (coach L2 i) with
                | false =>
                  clear hvv cq
                  go_wp2
                  exact ⟨⟨i + 1, k, gg, cg, M, by rw [HLm.out]; exact hlt7, by go_num, by omega, rfl, HM.out, HXq.out, HLe7.out, HInq.out, HPj.out, HRq.out, HTq.out, by omega⟩, by rw [HLm.out]; simp [intOf]; omega⟩
                | true =>
                  clear hvv
                  generalize coach L2 i = xs at *
                  obtain ⟨lo1, lo2, lo3⟩ := HXq.out.lo
                  obtain ⟨us, ho5, hin5⟩ := HXq.out
                  rw [HM.out] at ho5
                  obtain ⟨aa, ca, rfl, hcaa, haa⟩ := HUq.out
                  have hu5 : TzX wq (fun b => A ≤ b ∧ b ≠ gg) (.slice aa xs.length ca) xs := (show TzX wq _ (.slice aa xs.length ca) xs from ⟨aa, ca, rfl, hcaa, haa⟩).mono (fun j _ hj => HPj.out j hj)
                  have HP := Lib.hid (fun (w8 : World) (g2 cap2 : Nat) => GrowX.push (w8 := w8) (g2 := g2) (cap2 := cap2) (cap := cg) (O := .cells #[.slice aa xs.length ca] 57) (by rw [HM.out]; exact ho5) hin5 hu5)
                  rw [HM.out] at HP
                  have hk6 : k ≤ 6 := by omega
                  have Hnea := Lib.hid (fun (w8 : World) (hgrow8 : (wq.alloc (.cells #[.slice aa xs.length ca] 57)).grownBy w8 (some gg)) => (show Touch (fun p => p = gg) wq w8 from ⟨by rw [hgrow8.os]; rfl, by rw [hgrow8.tape]; rfl, by rw [hgrow8.output]; rfl, by have := hgrow8.size; simp at this; omega, fun j hj hS => (hgrow8.block j (by simp; omega) (fun e => hS (by injection e with e))).trans (((Below.refl wq.heap.size wq).alloc (Nat.le_refl _) _).block j hj)⟩))
                  clear hin5 hu5 haa hcaa
                  go_wp2_with (at_builtin; refine wpList_append_lies _ rfl _ _ 25 rfl A 57 i0 _ 1 24 Try.underlying25 hi0 hz0 hz1 hz2 rfl (by decide) _ k us rfl (World.ownsRow.alloc ho5 _) ⟨wq.heap.size, 0, none⟩ 1 1 [.slice aa xs.length ca] rfl rfl (one_news wq _ _) (by simp [Value.oneCell']) (by decide) (by simp only [maxLen]; omega) (by omega) (by simp; omega) _ rfl ?_; intro g2 cp2 w8 hown8 hgrow8 hlie8 _; have hP8 := HP.out _ _ _ hown8 hgrow8 hlie8; have HP8 := Lib.hid hP8; have HT8 := Lib.hid (touch_more HTq.out (by rw [HA.out]; exact Nat.le_refl _) lo1 hgrow8); have HR8 := Lib.hid (reader_more HRq.out hA0 hAq lo1 hgrow8); have HI8 := Lib.hid (HInq.out.touch (Hnea.out w8 hgrow8) (fun j hj e => (HPj.out j hj).2 e)); have HL8 := Lib.hid hlie8; have hz8 := hgrow8.size; rw [World.size_alloc] at hz8; clear hown8 hgrow8 hlie8 hP8 ho5)
                  refine ⟨⟨i + 1, k + 1, g2, cp2, M ++ [xs], by rw [HLm.out]; exact hlt7, by go_num, by omega, rfl, by rw [List.length_append, HM.out]; rfl, HP8.out, allLe_snoc HLe7.out Hl8.out, HI8.out, fun j hj => ⟨hj.1, fun e => ?_⟩, HR8.out, HT8.out, by omega⟩, by rw [HLm.out]; simp [intOf]; omega⟩
                  rcases HL8.out with h | h
                  · exact (HPj.out j hj).2 (e.trans (Option.some.inj h).symm)
                  · rw [World.size_alloc] at h; have := hj.2; omega
              · obtain rfl : i = m := by omega
                have HN7 := Lib.hid (HX7.out.done)
                clear hin7 hlt7
                go_wp2
                go_ret2
                exact ⟨n, _, M, _, rfl, hn2, hn6, by rw [← HA.out]; have := HN7.out; rwa [HM.out] at this, by rw [HM.out]; omega, HLe7.out, HR77.out, by have := Hp'.out; omega, HT77.out⟩
          · have hd : decide (0 < y) = false := decide_eq_false qy
            go_wp2
            go_ret2
            exact ⟨n, _, L2, _, rfl, hn2, hn6, by rw [← HA.out]; exact HN6.out, by rw [HLm.out]; omega, HLe2.out, HR6.out, by have := Hp'.out; omega, HT6.out⟩
      · have hq : (z == 0) = false := by simpa using q
        have Hp' := Lib.hid hp'
        clear q hp'
        obtain ⟨m, hm⟩ : ∃ m, m = i := ⟨_, rfl⟩
        have HLm := Lib.hid (show L.length = m by rw [hm]; exact HL.out)
        have hm6 : m ≤ 6 := by omega
        have HN := Lib.hid (show NtX w4 (fun b => A ≤ b) (.slice (some ⟨go, 0, none⟩) m cap) L from by have := HX4.out.done; rwa [HLm.out] at this)
        have Hin := Lib.hid (show NtX w4 (fun b => A ≤ b ∧ b < w4.heap.size) (.slice (some ⟨go, 0, none⟩) m cap) L from HN.out.mono fun j hj h => ⟨h, hj⟩)
        rw [← hm]
        clear hm
        go_wp2_with fail
        refine (netValid1_any n _ L _ HN.out.in_ (allLe_tot HLe.out (by rw [HLm.out]; omega))).mono ?_; rintro e wv ⟨rfl, hbv⟩
        have HTv := Lib.hid (HT4.out.belowB (hbv.mono HT4.out.size))
        have HRv := Lib.hid (HR4.out.belowB hbv HR4.out.lt)
        have HNv := Lib.hid (HN.out.below hbv)
        have Hinv := Lib.hid (Hin.out.below hbv)
        have hAv : A ≤ wv.heap.size := by have := hbv.size; omega
        have Hwv := Lib.hid hbv.size
        clear hbv
        cases hv : okNet n L with
        | true =>
          clear hv
          go_wp2
          go_ret2
          exact ⟨n, _, L, _, rfl, hn2, hn6, by rw [← HA.out]; exact HNv.out, by rw [HLm.out]; omega, HLe.out, HRv.out, by have := Hp'.out; omega, HTv.out⟩
        | false =>
          clear hv
          go_wp2_with fail
          refine (pick_any g l (p' + 1) 3 _ HRv.out (by omega) (by omega)).mono ?_; rintro e w6 ⟨⟨y, rfl, hy0, hy1⟩, hr6, hg6⟩
          have ht6 := Touch.grown (S := fun j => j = g) hg6 rfl
          have HT6 := Lib.hid (HTv.out.trans ht6)
          have HR6 := Lib.hid hr6
          have HN6 := Lib.hid (HNv.out.touch ht6 (fun j hj e => by omega))
          have Hin6 := Lib.hid (Hinv.out.touch ht6 (fun j hj e => by omega))
          have hA6 : A ≤ w6.heap.size ∧ w4.heap.size ≤ w6.heap.size := by have := ht6.size; have := Hwv.out; omega
          clear hr6 hg6 ht6 hy1
          by_cases qy : 0 < y
          · have hd : decide (0 < y) = true := decide_eq_true qy
            have HX6 := Lib.hid (GrowX.made w6 A hA6.1)
            have hb7 : Below w6.heap.size w6 (w6.alloc (.cells #[] 57)) := (Below.refl _ _).alloc (Nat.le_refl _) _
            have HT7 := Lib.hid (HT6.out.belowB (hb7.mono HT6.out.size))
            have HR7 := Lib.hid (HR6.out.belowB hb7 HR6.out.lt)
            have Hin7 := Lib.hid (Hin6.out.below hb7)
            clear hb7
            go_wp2
            go_loopw [8, 9] (fun v iv wr => DgRel A g w4.heap.size l (p' + 1 + 1) (fun b => A ≤ b ∧ b < w4.heap.size) (.slice (some ⟨go, 0, none⟩) m cap) L w v iv wr) (fun _ iv _ => L.length - (intOf iv).toNat)
            case atStart => exact ⟨0, 0, w6.heap.size, 0, [], Nat.zero_le _, rfl, Nat.le_refl _, rfl, rfl, HX6.out, fun i hi => by simp at hi, Hin7.out, fun j hj => ⟨hj.1, by omega⟩, HR7.out, HT7.out, by simp; omega⟩
            case round =>
              obtain ⟨i, k, gg, cg, M, hi7, rfl, hki, rfl, hM, hX7, hle7, hin7, hPj, hr7, ht7, hBq⟩ := hrel
              have HX7 := Lib.hid hX7
              have HLe7 := Lib.hid hle7
              have HIn7 := Lib.hid hin7
              have HPj := Lib.hid hPj
              have HR77 := Lib.hid hr7
              have HT77 := Lib.hid ht7
              have HM := Lib.hid hM
              have hA7 : A ≤ wr.heap.size := by have := ht7.size; rw [HA.out]; exact this
              rw [HLm.out] at hi7
              clear hX7 hle7 hPj hr7 ht7
              by_cases hlt7 : i < m
              · obtain ⟨a9, c9, e9, _, ha9⟩ := hin7
                injection e9 with e9 e12 e10
                subst e9
                clear e12 e10
                obtain ⟨b9, o9, e9, _, _, hat9⟩ := ha9 (by intro e; have := HLm.out; rw [e] at this; simp at this; omega)
                injection e9 with e9
                injection e9 with e9 e11 _
                subst e9 e11
                obtain ⟨u, c0, hu⟩ := hat9 i (by rw [HLm.out]; exact hlt7)
                rw [Nat.zero_add] at c0
                have hl8 := HLe.out i (by rw [HLm.out]; exact hlt7)
                have Hl8 := Lib.hid hl8
                have HU := Lib.hid hu
                have Hc := Lib.hid (valid1_any n u (coach L i) wr hu.in_.roads (by omega))
                have hlt7' : (i : Int) < (m : Int) := by omega
                clear hat9 ha9 hu hl8
                go_wp2_with fail
                refine Hc.out.mono ?_; rintro e wq ⟨rfl, hbq⟩
                have HXq := Lib.hid (HX7.out.below hbq)
                have HInq := Lib.hid (HIn7.out.below hbq)
                have HRq := Lib.hid (HR77.out.belowB hbq HR77.out.lt)
                have HTq := Lib.hid (HT77.out.belowB (hbq.mono HT77.out.size))
                have cq := (hbq.cell (p := ⟨go, i, none⟩) (World.block_lt_of_cell? _ _ c0)).trans c0
                have HUq := Lib.hid (HU.out.touch (Touch.of_below (S := fun _ => False) hbq) (fun _ _ h => h))
                have hAq : A ≤ wq.heap.size := by have := hbq.size; omega
                have hBqq := hbq.size
                clear hbq c0 Hc
                cases hvv : validS n (coach L i) with
                | false =>
                  clear hvv cq
                  go_wp2
                  exact ⟨⟨i + 1, k, gg, cg, M, by rw [HLm.out]; exact hlt7, by go_num, by omega, rfl, HM.out, HXq.out, HLe7.out, HInq.out, HPj.out, HRq.out, HTq.out, by omega⟩, by rw [HLm.out]; simp [intOf]; omega⟩
                | true =>
                  clear hvv
                  generalize coach L i = xs at *
                  obtain ⟨lo1, lo2, lo3⟩ := HXq.out.lo
                  obtain ⟨us, ho5, hin5⟩ := HXq.out
                  rw [HM.out] at ho5
                  obtain ⟨aa, ca, rfl, hcaa, haa⟩ := HUq.out
                  have hu5 : TzX wq (fun b => A ≤ b ∧ b ≠ gg) (.slice aa xs.length ca) xs := (show TzX wq _ (.slice aa xs.length ca) xs from ⟨aa, ca, rfl, hcaa, haa⟩).mono (fun j _ hj => HPj.out j hj)
                  have HP := Lib.hid (fun (w8 : World) (g2 cap2 : Nat) => GrowX.push (w8 := w8) (g2 := g2) (cap2 := cap2) (cap := cg) (O := .cells #[.slice aa xs.length ca] 57) (by rw [HM.out]; exact ho5) hin5 hu5)
                  rw [HM.out] at HP
                  have hk6 : k ≤ 6 := by omega
                  have Hnea := Lib.hid (fun (w8 : World) (hgrow8 : (wq.alloc (.cells #[.slice aa xs.length ca] 57)).grownBy w8 (some gg)) => (show Touch (fun p => p = gg) wq w8 from ⟨by rw [hgrow8.os]; rfl, by rw [hgrow8.tape]; rfl, by rw [hgrow8.output]; rfl, by have := hgrow8.size; simp at this; omega, fun j hj hS => (hgrow8.block j (by simp; omega) (fun e => hS (by injection e with e))).trans (((Below.refl wq.heap.size wq).alloc (Nat.le_refl _) _).block j hj)⟩))
                  clear hin5 hu5 haa hcaa
                  go_wp2_with (at_builtin; refine wpList_append_lies _ rfl _ _ 25 rfl A 57 i0 _ 1 24 Try.underlying25 hi0 hz0 hz1 hz2 rfl (by decide) _ k us rfl (World.ownsRow.alloc ho5 _) ⟨wq.heap.size, 0, none⟩ 1 1 [.slice aa xs.length ca] rfl rfl (one_news wq _ _) (by simp [Value.oneCell']) (by decide) (by simp only [maxLen]; omega) (by omega) (by simp; omega) _ rfl ?_; intro g2 cp2 w8 hown8 hgrow8 hlie8 _; have hP8 := HP.out _ _ _ hown8 hgrow8 hlie8; have HP8 := Lib.hid hP8; have HT8 := Lib.hid (touch_more HTq.out (by rw [HA.out]; exact Nat.le_refl _) lo1 hgrow8); have HR8 := Lib.hid (reader_more HRq.out hA0 hAq lo1 hgrow8); have HI8 := Lib.hid (HInq.out.touch (Hnea.out w8 hgrow8) (fun j hj e => (HPj.out j hj).2 e)); have HL8 := Lib.hid hlie8; have hz8 := hgrow8.size; rw [World.size_alloc] at hz8; clear hown8 hgrow8 hlie8 hP8 ho5)
                  refine ⟨⟨i + 1, k + 1, g2, cp2, M ++ [xs], by rw [HLm.out]; exact hlt7, by go_num, by omega, rfl, by rw [List.length_append, HM.out]; rfl, HP8.out, allLe_snoc HLe7.out Hl8.out, HI8.out, fun j hj => ⟨hj.1, fun e => ?_⟩, HR8.out, HT8.out, by omega⟩, by rw [HLm.out]; simp [intOf]; omega⟩
                  rcases HL8.out with h | h
                  · exact (HPj.out j hj).2 (e.trans (Option.some.inj h).symm)
                  · rw [World.size_alloc] at h; have := hj.2; omega
              · obtain rfl : i = m := by omega
                have HN7 := Lib.hid (HX7.out.done)
                clear hin7 hlt7
                go_wp2
                go_ret2
                exact ⟨n, _, M, _, rfl, hn2, hn6, by rw [← HA.out]; have := HN7.out; rwa [HM.out] at this, by rw [HM.out]; omega, HLe7.out, HR77.out, by have := Hp'.out; omega, HT77.out⟩
          · have hd : decide (0 < y) = false := decide_eq_false qy
            go_wp2
            go_ret2
            exact ⟨n, _, L, _, rfl, hn2, hn6, by rw [← HA.out]; exact HN6.out, by rw [HLm.out]; omega, HLe.out, HR6.out, by have := Hp'.out; omega, HT6.out⟩

end Go.Proofs.Ytmkcnoaphoiiaaa
