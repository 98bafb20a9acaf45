/- rosterOf; the program's RosterMake and TeamsLeast. -/
import Derived.Test.YtmcapcclnkicbabVS
import Derived.Test.YtmcapcclnkicbabUV
import Derived.Test.YtmcapcclnkicbabUW
import Derived.Test.YtmcapcclnkicbabIZ
namespace Go.Proofs.Ytmcapcclnkicbab
open Go.RowKit

theorem grown_touch {w w1 : World} {o : Obj} {ow : Option Nat} (hg : (w.alloc o).grownBy w1 ow) : Touch (fun k => ow = some k) w w1 :=
  ⟨hg.os, hg.tape, hg.output, by have := hg.size; simp at this; omega, fun j hj hn => (hg.block j (by simp; omega) (fun e => hn e.symm)).trans (Below.heap_alloc w o j hj)⟩

def RosterOfOut (l : List Rn) (rest : Int) (w : World) (e : Ending) (w' : World) : Prop :=
  ∃ (ad : Option Addr) (cap : Nat), e = .returned (.tuple #[.slice ad l.length cap, .int .i64 (cntTo l rest l.length : Nat)]) ∧ l.length ≤ cap ∧ OwnI w' ad (mkTo l rest l.length) ∧ (∀ j, inBlk ad j → w.heap.size ≤ j ∧ j < w'.heap.size) ∧ Below w.heap.size w w'

def RoRel (l : List Rn) (rest : Int) (w : World) (rv iv : Value) (wr : World) : Prop :=
  ∃ (k : Nat) (va vh : Value) (A H : List Pl), iv = .int .i64 k ∧ k ≤ l.length ∧ Stab wr (w.heap.size + 1) w.heap.size va vh A H (cntTo l rest k) ∧ TInv l rest k (lastU l k) A H (cntTo l rest k) ∧
    RowI wr (w.heap.size + 1) rv (mkTo l rest k) ∧ (∀ b, rv.ownBlock = some b → va.ownBlock ≠ some b ∧ vh.ownBlock ≠ some b) ∧ Below w.heap.size w wr

theorem own_nil (w : World) (B E c : Nat) : w.ownsRow B E c (.slice none 0 0) 0 [] := ⟨by simp, .inl ⟨rfl, rfl⟩⟩
theorem heap_nil : HeapTo [] ([] : List Pl).length := fun j h0 hj => by simp at hj

set_option maxRecDepth 100000 in
set_option maxHeartbeats 2000000 in
theorem rosterOf_any (v : Value) (l : List Rn) (rest : Int) (w : World) (hv : RnIn w v l) (hz : okR l rest = true) :
    Calls Try.prog 23 #[v, .int .i64 rest] w (RosterOfOut l rest w) := by
  obtain ⟨a, cap, rfl, hcap, ha⟩ := hv
  clear hcap
  have Ha := Lib.hid ha; clear ha
  obtain ⟨hz1, r0, r6⟩ := okR_parts.1 hz
  have h12 := (validU_iff.1 hz1).1
  have Hz1 := Lib.hid hz1
  have Hz := Lib.hid hz; clear hz hz1
  obtain ⟨i0, hi0, hz0, hz1, hz2⟩ := info_parts Try.info3
  have Hrow0 := Lib.hid (RowI.made (w.alloc (.cells #[.slice none 0 0, .slice none 0 0, .int .i64 0] 60)) (w.heap.size + 1) (by simp))
  have Hst0 := Lib.hid (show Stab ((w.alloc (.cells #[.slice none 0 0, .slice none 0 0, .int .i64 0] 60)).alloc (.cells #[] 3)) (w.heap.size + 1) w.heap.size (.slice none 0 0) (.slice none 0 0) [] [] (cntTo l rest 0) from
    ⟨(Whole.made w _ _).below ((Below.refl _ _).alloc (Nat.le_refl _) _) (by simp), own_nil _ _ _ _, own_nil _ _ _ _, heap_nil, heap_nil, fun k hk => by cases hk⟩)
  have Hb0 := Lib.hid (show Below w.heap.size w ((w.alloc (.cells #[.slice none 0 0, .slice none 0 0, .int .i64 0] 60)).alloc (.cells #[] 3)) from ((Below.refl _ _).alloc (Nat.le_refl _) _).alloc (by simp) _)
  go_enter Try.func23, Try.ntmps23
  go_wp2
  go_loopw [7, 15] (fun rv iv wr => RoRel l rest w rv iv wr) (fun _ i _ => l.length - (intOf i).toNat)
  case atStart =>
    refine ⟨0, .slice none 0 0, .slice none 0 0, [], [], rfl, Nat.zero_le _, Hst0.out, TInv.start l rest _, ?_, fun b hb => ⟨(fun h => by cases h), fun h => by cases h⟩, Hb0.out⟩
    have := Hrow0.out
    show RowI _ _ _ []
    simpa using this
  case round =>
    obtain ⟨k, va, vh, A, H, rfl, hk, hst, hti, hrow, hap, hbel⟩ := hrel
    by_cases hlt : k < l.length
    · obtain ⟨b, o, rfl, hb0, hrw⟩ := Ha.out (by rintro rfl; simp at hlt)
      obtain ⟨c0, c1⟩ := (hrw.below hbel hb0) k hlt
      have hat := validU_at Hz1.out hlt
      have hlast : lastU l (k + 1) = (l.getD k rn0).a := rfl
      have hmk : mkTo l rest (k + 1) = mkTo l rest k ++ [(leastT l rest (mkTo l rest k) k : Int)] := rfl
      obtain ⟨⟨xa, xb⟩, hr⟩ : ∃ r, l.getD k rn0 = r := ⟨_, rfl⟩
      rw [hr] at c0 c1 hat hlast
      simp only at c0 c1 hat hlast
      obtain ⟨p0, p1, p2, p3⟩ := hat
      have hs1 := hbel.size
      have hXl := hst.whole.lt
      have hB : Below wr.heap.size wr (wr.alloc (.cells #[.int .i64 xa, .int .i64 xb] 29)) := (Below.refl _ _).alloc (Nat.le_refl _) _
      have Hst := Lib.hid (hst.below hB)
      have Hti := Lib.hid (hti.mono p3)
      have Hrow := Lib.hid (hrow.below hB)
      have Hap := Lib.hid hap
      have HB := Lib.hid (hbel.alloc hs1 (.cells #[.int .i64 xa, .int .i64 xb] 29))
      have Hlast := Lib.hid hlast
      have Hmk := Lib.hid hmk
      have Hr := Lib.hid hr
      have hkl := mkTo_len l rest k
      have Hkl := Lib.hid hkl
      clear hst hti hrow hap hbel hlast hmk hr hkl hrw hB p3
      go_wp2_with fail
      refine (send_any l rest xa xb k (w.heap.size + 1) w.heap.size va vh A H _ Hz.out hlt Hr.out Hst.out Hti.out (by omega) (by simp; omega)).mono ?_; rintro e w2 ⟨rfl, va', vh', A', H', hst2, hti2, hna, hnh, ht2⟩
      have hrow2 : RowI w2 (w.heap.size + 1) u7 (mkTo l rest k) := own_touch Hrow.out ht2 (fun g hg => by
        have h1 := (Hrow.out.lt g hg).1
        obtain ⟨h2, h3⟩ := Hap.out g hg
        rintro (h | h | h)
        · omega
        · exact h2 h
        · exact h3 h)
      have hb2 : Below w.heap.size w w2 := HB.out.trans (ht2.below (fun j hj => by
        rcases hj with h | h | h
        · omega
        · have := (Hst.out.ownA.lt j h).1; omega
        · have := (Hst.out.ownH.lt j h).1; omega) HB.out.size)
      have hap2 : ∀ b, u7.ownBlock = some b → va'.ownBlock ≠ some b ∧ vh'.ownBlock ≠ some b := fun g hg => by
        have h1 := (Hrow.out.lt g hg).2
        obtain ⟨h2, h3⟩ := Hap.out g hg
        refine ⟨fun e => ?_, fun e => ?_⟩
        · rcases hna with h | ⟨x, q1, q2⟩
          · exact h2 (by rw [← h]; exact e)
          · have : x = g := by rw [q1] at e; injection e
            omega
        · rcases hnh with h | ⟨x, q1, q2⟩
          · exact h3 (by rw [← h]; exact e)
          · have : x = g := by rw [q1] at e; injection e
            omega
      have hs2 := hb2.size
      have hx2l := hst2.whole.lt
      have HSt := Lib.hid hst2
      have HTi := Lib.hid hti2
      have HAp := Lib.hid hap2
      have HB2 := Lib.hid hb2
      have hown := hrow2
      unfold RowI at hown
      have HOwn := Lib.hid hown
      clear hst2 hti2 hna hnh ht2 hrow2 hb2 hap2 Hst Hti Hrow Hap HB
      generalize (leastT l rest (mkTo l rest k) k : Int) = tk at *
      go_wp2_with (at_builtin; refine wpList_append_lies _ rfl _ _ _ rfl (w.heap.size + 1) 3 i0 (.int .i64 0) 1 8 Try.underlying41 hi0 hz0 hz1 hz2 rfl (by decide) u7 _ _ rfl (hown.alloc _) ⟨w2.heap.size, 0, none⟩ 1 1 [.int .i64 tk] rfl rfl (cell_one_new _ _ _) (by simp [Value.oneCell']) (by omega) (by rw [Hkl.out]; unfold maxLen; omega) (by rw [Hkl.out]; omega) (by simp; omega) (w2.heap.size + 1) (by simp) ?_; intro gg cap2 w3 hown3 hgrow hat3 hlt3)
      have ht3 := grown_touch hgrow
      have hst3 := HSt.out.touch ht3 (fun h => by have := (HOwn.out.lt _ h).1; omega) (fun g hg h => (HAp.out g h).1 hg) (fun g hg h => (HAp.out g h).2 hg)
      have hrow3 : RowI w3 (w.heap.size + 1) (.slice (some ⟨gg, 0, none⟩) ((mkTo l rest k).length + 1) cap2) (mkTo l rest (k + 1)) := by
        rw [Hmk.out]; exact RowI.snoc hown3
      have hb3 : Below w.heap.size w w3 := HB2.out.trans (ht3.below (fun j hj => by have := (HOwn.out.lt _ hj).1; omega) HB2.out.size)
      have hap3 : ∀ b, (Value.slice (some ⟨gg, 0, none⟩) ((mkTo l rest k).length + 1) cap2).ownBlock = some b → va'.ownBlock ≠ some b ∧ vh'.ownBlock ≠ some b := fun g hg => by
        have e' : gg = g := by injection hg
        rcases hat3 with h | h
        · exact HAp.out g (by rw [h, e'])
        · exact ⟨fun e => by have := (HSt.out.ownA.lt g e).2; omega, fun e => by have := (HSt.out.ownH.lt g e).2; omega⟩
      rw [Hkl.out] at hrow3 hap3
      have HS3 := Lib.hid hst3
      have HR3 := Lib.hid hrow3
      have HB3 := Lib.hid hb3
      have HA3 := Lib.hid hap3
      clear ht3 hst3 hrow3 hb3 hap3 hown3 hgrow hat3 hown
      rw [Hkl.out]
      go_wp2
      exact ⟨⟨k + 1, va', vh', A', H', by go_num, hlt, HS3.out, by rw [Hlast.out]; have := HTi.out; rwa [Hr.out] at this, HR3.out, HA3.out, HB3.out⟩, by simp [intOf]; omega⟩
    · obtain rfl : k = l.length := by omega
      have hx2 := hst.whole.cell (i := 2) rfl
      obtain ⟨ad, cp, rfl, hcp, hown, hblk⟩ := hrow.row
      rw [mkTo_len]
      rw [mkTo_len] at hcp
      have Hown := Lib.hid hown
      have Hblk := Lib.hid hblk
      have Hcp := Lib.hid hcp
      have HB := Lib.hid hbel
      clear hst hti hrow hap hown hblk hcp hbel
      generalize hcn : cntTo l rest l.length = cn at *
      have Hcn := Lib.hid hcn; clear hcn
      go_wp2
      go_quiet (fail)
      go_wp2
      go_ret2
      exact ⟨ad, cp, by rw [Hcn.out]; rfl, Hcp.out, Hown.out.below ((Below.refl _ _).drewN _), fun j hj => ⟨by have := (Hblk.out j hj).1; omega, (Hblk.out j hj).2⟩, HB.out.drewN _⟩

end Go.Proofs.Ytmcapcclnkicbab
