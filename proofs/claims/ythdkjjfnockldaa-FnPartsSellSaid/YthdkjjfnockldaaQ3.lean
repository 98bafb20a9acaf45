/- The model's PartsOwner, l5Parts, PartsPlain. -/
import Derived.Test.YthdkjjfnockldaaQ2
import Derived.Test.YthdkjjfnockldaaQD
namespace Go.Proofs.Ythdkjjfnockldaa
open Go.RowKit

set_option maxRecDepth 100000 in
set_option maxHeartbeats 1000000 in
theorem owner1_any (v : Value) (l : List Pt) (m : Int) (w : World) (hv : PtIn w v l) (hm : l.length ≤ 1048576) :
    Calls Try.prog 26 #[v, .int .i64 m] w (Gives (.tuple #[.int .i64 (mileX l m), .bool (mileOk l m)]) w) := by
  have Hlen := Lib.hid (len1_any v l w hv hm)
  have hok : mileOk l m = inB m 0 (lenX l - 1) := by
    rw [Bool.eq_iff_iff, mileOk_iff, inB_iff]
    unfold lenX
    cases hz : validP l with
    | true => simp; omega
    | false => simp; omega
  have hlb : -1 ≤ lenX l ∧ lenX l ≤ 1188 := by
    unfold lenX
    cases hz : validP l with
    | true => have := ownP_len hz; simp; omega
    | false => simp
  have hlw : wrap64 (lenX l - 1) = lenX l - 1 := by unfold wrap64; omega
  cases ho : mileOk l m with
  | false =>
    have hx : mileX l m = 0 := by unfold mileX; rw [ho]; rfl
    have Hx := Lib.hid hx; clear hx
    have H1 := Lib.hid (hok.symm.trans ho)
    obtain ⟨a, cap, rfl, _, _⟩ := hv
    generalize lenX l = n at *
    clear hok ho
    go_enter Try.func26, Try.ntmps26
    go_wp2_with fail
    refine Hlen.out.mono ?_; rintro e w1 ⟨rfl, hb1⟩
    have HB := Lib.hid hb1; clear hb1
    go_wp2_with fail
    refine (l6In_any _ _ _ _).mono ?_; rintro e w1 ⟨rfl, rfl⟩; rw [H1.out]
    go_wp2
    go_ret2
    rw [Hx.out]
    exact ⟨rfl, HB.out⟩
  | true =>
    obtain ⟨hz, m0, m1⟩ := mileOk_iff.1 ho
    have hx : mileX l m = ownAt l m.toNat := by unfold mileX; rw [ho]; rfl
    have Hx := Lib.hid hx; clear hx
    have H1 := Lib.hid (hok.symm.trans ho)
    have Hv := Lib.hid hv
    obtain ⟨a, cap, rfl, _, _⟩ := hv
    have Hz := Lib.hid hz
    have Hln := Lib.hid (ownP_len hz)
    obtain ⟨k, rfl⟩ : ∃ k : Nat, m = k := ⟨m.toNat, by omega⟩
    rw [Int.toNat_natCast] at Hx
    generalize lenX l = n at *
    have hkn : k < (ownP l).length := by omega
    clear hok ho hz
    go_enter Try.func26, Try.ntmps26
    go_wp2_with fail
    refine Hlen.out.mono ?_; rintro e w1 ⟨rfl, hb1⟩
    have How := Lib.hid (owners1_any _ l w1 (PtIn.below (v := .slice a l.length cap) Hv.out hb1) Hz.out)
    have HB := Lib.hid hb1; clear hb1
    go_wp2_with fail
    refine (l6In_any _ _ _ _).mono ?_; rintro e w1 ⟨rfl, rfl⟩; rw [H1.out]
    go_wp2_with fail
    refine How.out.mono ?_
    rintro e w2 ⟨ad, cp, rfl, hcp, hown, _, hb⟩
    obtain ⟨g, rfl, hg, hat, _⟩ := hown (by intro h; simp [h] at hkn)
    have c0 := hat k hkn
    rw [Nat.zero_add, show (ownP l).getD k 0 = ownAt l k from rfl] at c0
    have HB2 := Lib.hid (HB.out.trans (hb.mono HB.out.size))
    have hk0 : (0 : Int) ≤ (k : Int) := Int.natCast_nonneg _
    have hk1 : (k : Int) < ((ownP l).length : Int) := by omega
    clear hown hat hb hcp m1
    generalize hxx : ownAt l k = x at *
    generalize hnn : (ownP l).length = nn at *
    go_wp2
    go_ret2
    rw [Hx.out]
    exact ⟨rfl, HB2.out⟩

def PaRel (os : List Int) (w : World) (u i : Value) (wr : World) : Prop :=
  ∃ k : Nat, k ≤ os.length ∧ i = .int .i64 k ∧ RowPt wr w.heap.size u (plainL (os.take k)) ∧ Below w.heap.size w wr

set_option maxRecDepth 100000 in
set_option maxHeartbeats 2000000 in
theorem parts1_any (v : Value) (os : List Int) (w : World) (hv : IntsIn w v os) (hn : os.length ≤ 1188) :
    Calls Try.prog 66 #[v] w fun e w' => ∃ (ad : Option Addr) (cap : Nat), e = .returned (.slice ad (plainL os).length cap) ∧ RowPt w' w.heap.size (.slice ad (plainL os).length cap) (plainL os) ∧ Below w.heap.size w w' := by
  obtain ⟨i0, hi, hz0, hz1, hz2⟩ := info_parts infoPt
  obtain ⟨a, cap0, rfl, hcap, ha⟩ := hv
  clear hcap
  have Ha := Lib.hid ha; clear ha
  go_enter Try.func66, Try.ntmps66
  go_wp2
  go_loopw [3, 4] (fun u i wr => PaRel os w u i wr) (fun _ i _ => os.length - (intOf i).toNat)
  case atStart => exact ⟨0, Nat.zero_le _, rfl, RowPt.made w w.heap.size (Nat.le_refl _), (Below.refl _ _).alloc (Nat.le_refl _) _⟩
  case round =>
    obtain ⟨k, hk, rfl, hrow, hbel⟩ := hrel
    by_cases hlt : k < os.length
    · obtain ⟨b, o, rfl, hb0, hrw⟩ := Ha.out (by intro h; simp [h] at hlt)
      have cy := (hrw.below hbel hb0) k hlt
      have htk := takeI hlt
      have hmiss := plainL_miss (os := os.take k) (o := os.getD k 0)
      have hhit := plainL_hit (os := os.take k) (o := os.getD k 0)
      rw [← htk] at hmiss hhit
      obtain ⟨hbd1, hbd2⟩ := plainL_bd (os.take k)
      have htl : (os.take k).length ≤ k := by rw [List.length_take]; omega
      obtain ⟨ad, cap, rfl, hcap, hown, hblk⟩ := hrow.row
      have hsz := hbel.size
      generalize hq : plainL (os.take k) = q at *
      generalize hy : os.getD k 0 = y at *
      have hki : (k : Int) < (os.length : Int) := by omega
      by_cases hpos : 0 < q.length
      · obtain ⟨j, hj⟩ : ∃ j, q.length = j + 1 := ⟨q.length - 1, by omega⟩
        obtain ⟨g, rfl, hgl, hat, hroom⟩ := hown (by intro h; simp [h] at hpos)
        obtain ⟨c0, c1⟩ := hat j (by omega)
        have f1 := hroom.2 (j * 2 + 1)
        have hb := hbd2 (q.getD j pt0) (by rw [Pt.getD_eq q (by omega)]; exact List.getElem_mem _)
        have hgb := (hblk g ⟨0, rfl⟩).1
        rw [show q.length - 1 = j by omega] at hhit hmiss
        rw [Nat.zero_add] at c0 c1
        have hidx : j < q.length := by omega
        have hset := fun x => hrow.setB hidx x
        have Hset := Lib.hid hset
        have Hhit := Lib.hid hhit
        have Hmiss := Lib.hid hmiss
        have Hrow := Lib.hid hrow
        have Hk := Lib.hid hj
        have HB := Lib.hid hbel
        have hj9 : j < 1188 := by omega
        generalize hra : (q.getD j pt0).a = ra at *
        generalize hrb : (q.getD j pt0).b = rb at *
        have hb9 : 0 ≤ rb ∧ rb ≤ 1188 := by omega
        clear hset hhit hmiss hrow hbel hat hroom hbd1 hbd2 hcap hown hblk hb hq hidx htk
        rw [hj]
        clear hj
        have hj0 : (0 : Int) ≤ (j : Int) := Int.natCast_nonneg _
        have hj1 : (j : Int) < ((j + 1 : Nat) : Int) := by omega
        by_cases hay : ra = y
        · have hd : (ra == y) = true := by simpa using hay
          have Hay := Lib.hid hay
          clear hay
          have hst := Hhit.out (by have := Hk.out; omega) Hay.out
          have Hst := Lib.hid hst
          clear hst
          go_wp2
          go_region
          all_goals
            go_wp2
            have h9 := Hset.out (rb + 1)
            rw [Hk.out] at h9
            refine ⟨⟨k + 1, hlt, by go_num, ?_, (HB.out.setCell (p := ⟨g, j * 2 + 1, none⟩) hgb _).drew⟩, ?_⟩
            · rw [Hst.out]
              unfold RowPt at h9 ⊢
              rw [List.length_set, Hk.out] at h9 ⊢
              rw [← Hay.out]; exact h9
            · simp [intOf]; omega
        · have hd : (ra == y) = false := by simpa using hay
          have hst := Hmiss.out (fun h => hay h.2)
          have Hst := Lib.hid hst
          clear hst hay
          go_wp2
          go_region
          all_goals
            go_wp2_with (at_builtin; refine wpList_append_own _ rfl _ _ 23 rfl w.heap.size 41 i0 _ 2 16 Try.underlying23 hi hz0 hz1 hz2 rfl (by omega) _ _ (encPt q) rfl (World.ownsRow.alloc (show World.ownsRow wr.drew _ _ _ _ (j + 1) (encPt q) by rw [← Hk.out]; exact Hrow.out) _) ⟨wr.heap.size, 0, none⟩ 1 1 [.int .i64 y, .int .i64 1] rfl rfl (World.news_of_block (cs := #[.int .i64 y, .int .i64 1]) (t := 41) (fr := (0, 0)) (heap_alloc_new _ _)) (by simp [Value.oneCell']) (by unfold maxLen; omega) (by omega) (by simp; omega) ?_; intro v' w8 hown8 hgrow _)
            have HB8 := Lib.hid ((HB.out.drew.alloc hsz (.cells #[.int .i64 y, .int .i64 1] 41)).grown hgrow (by simp; omega) (fun j hj => ((show World.ownsRow wr.drew _ _ _ _ _ _ from Hrow.out).lt j (by rw [Hk.out]; exact hj)).1))
            have Hown8 := Lib.hid (show RowPt w8 w.heap.size v' (q ++ [⟨y, 1⟩]) from RowPt.snoc (by rw [Hk.out]; exact hown8))
            clear hown8 hgrow
            go_wp2
            exact ⟨⟨k + 1, hlt, by go_num, by rw [Hst.out]; exact Hown8.out, HB8.out⟩, by simp [intOf]; omega⟩
      · have hk0 : q.length = 0 := by omega
        have Hst := Lib.hid (hmiss (fun h => hpos h.1))
        have Hrow := Lib.hid hrow
        have Hk := Lib.hid hk0
        have HB := Lib.hid hbel
        rw [hk0]
        clear hhit hmiss hrow hbel hbd1 hbd2 hcap hown hblk hq hpos hk0 htk
        go_wp2
        go_region
        all_goals
          go_wp2_with (at_builtin; refine wpList_append_own _ rfl _ _ 23 rfl w.heap.size 41 i0 _ 2 16 Try.underlying23 hi hz0 hz1 hz2 rfl (by omega) _ _ (encPt q) rfl (World.ownsRow.alloc (show World.ownsRow wr.drew _ _ _ _ 0 (encPt q) by rw [← Hk.out]; exact Hrow.out) _) ⟨wr.heap.size, 0, none⟩ 1 1 [.int .i64 y, .int .i64 1] rfl rfl (World.news_of_block (cs := #[.int .i64 y, .int .i64 1]) (t := 41) (fr := (0, 0)) (heap_alloc_new _ _)) (by simp [Value.oneCell']) (by unfold maxLen; omega) (by omega) (by simp; omega) ?_; intro v' w8 hown8 hgrow _)
          have HB8 := Lib.hid ((HB.out.drew.alloc hsz (.cells #[.int .i64 y, .int .i64 1] 41)).grown hgrow (by simp; omega) (fun j hj => ((show World.ownsRow wr.drew _ _ _ _ _ _ from Hrow.out).lt j (by rw [Hk.out]; exact hj)).1))
          have Hown8 := Lib.hid (show RowPt w8 w.heap.size v' (q ++ [⟨y, 1⟩]) from RowPt.snoc (by rw [Hk.out]; exact hown8))
          clear hown8 hgrow
          go_wp2
          exact ⟨⟨k + 1, hlt, by go_num, by rw [Hst.out]; exact Hown8.out, HB8.out⟩, by simp [intOf]; omega⟩
    · obtain rfl : k = os.length := by omega
      rw [List.take_length] at hrow
      obtain ⟨ad2, cap2, rfl, _⟩ := hrow.row
      have HR := Lib.hid hrow
      have HB := Lib.hid hbel
      clear hrow hbel
      go_wp2
      go_ret
      exact ⟨ad2, cap2, rfl, HR.out, HB.out⟩

end Go.Proofs.Ythdkjjfnockldaa
