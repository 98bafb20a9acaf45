/- The program's StopsBack, as a row with its capacity. -/
import Derived.Test.YtmkcnoaphoiiaaaSN
import Derived.Test.YtmkcnoaphoiiaaaZR
namespace Go.Proofs.Ytmkcnoaphoiiaaa
open Go.RowKit

def B2zRel (l : List Rd) (k : Int) (hs : List Nat) (w : World) (gk : Nat) (v hv : Value) (wr : World) : Prop :=
  gk ≤ l.length ∧ hv = ptB (before hs gk) ∧ OwnS wr w.heap.size v (backTo l k gk) ∧ Below w.heap.size w wr

set_option maxRecDepth 100000 in
set_option maxHeartbeats 1000000 in
theorem back2z_any (n : Int) (v : Value) (l : List Rd) (k : Int) (w : World) (hv : RoadsIn w v l) (hm : l.length ≤ 1048576) (_wk : W64 k) :
    Calls Try.prog 74 #[.int .i64 n, v, .int .i64 k] w (TzOut (backL n l k) (backOk n l k) w) := by
  have Hc := Lib.hid (ttOf_any n v l w hv hm)
  clear hv
  obtain ⟨i0, hi0, hz0, hz1, hz2⟩ := info_parts stopInfo
  cases hz : validS n l with
  | false =>
    have hok : backOk n l k = false := by unfold backOk; rw [hz]; rfl
    have hl : backL n l k = [] := by unfold backL; rw [hok]; rfl
    rw [hok, hl]
    have Hz := Lib.hid hz; clear hz hok hl
    go_enter Try.func74, Try.ntmps74
    go_wp2_with fail
    refine (Hc.out).mono ?_; rintro e w1 ⟨_, h1⟩
    obtain ⟨rfl, hb⟩ := h1 Hz.out
    clear h1
    go_wp2
    go_ret2
    exact ⟨_, _, rfl, Nat.le_refl _, fun h => absurd rfl h, fun j hj => by obtain ⟨o, ho⟩ := hj; cases ho; exact ⟨hb.size, by simp⟩, hb.alloc hb.size _⟩
  | true =>
    have h8 := (validS_iff.1 hz).1.2.2.2
    have Hz := Lib.hid hz; clear hz
    go_enter Try.func74, Try.ntmps74
    go_wp2_with fail
    refine (Hc.out).mono ?_; rintro e w1 ⟨h1, _⟩
    obtain ⟨tb, hs, rfl, htt, _, hb⟩ := h1 Hz.out
    clear h1
    have c0' : w1.cell? ⟨tb, 1, none⟩ = some (ptB (before hs hs.length)) := htt.top.cell rfl
    have hb0 : Below w1.heap.size w1 (w1.alloc (.cells #[] 77)) := (Below.refl _ _).alloc (Nat.le_refl _) _
    have c0 : (w1.alloc (.cells #[] 77)).cell? ⟨tb, 1, none⟩ = some (ptB (before hs hs.length)) := (htt.below hb0).top.cell rfl
    have Hown0 := Lib.hid (OwnS.made w1 w1.heap.size (Nat.le_refl _))
    have Htt := Lib.hid htt; clear htt
    go_wp2
    clear c0 c0'
    go_loopg [10, 11] l.length (fun gk v hv wr => B2zRel l k hs w1 gk v hv wr)
    case atStart => exact ⟨Nat.le_refl _, by rw [Htt.out.len], by rw [backTo_end]; exact Hown0.out, hb0⟩
    case round =>
      obtain ⟨hgk, rfl, hown, hbel⟩ := hrel
      have Htr := Lib.hid (Htt.out.below hbel)
      by_cases hlt0 : 0 < gk
      · obtain ⟨i, rfl⟩ : ∃ i, gk = i + 1 := ⟨gk - 1, by omega⟩
        have hlt : i < l.length := by omega
        have e1 : ptB (before hs (i + 1)) = .pointer (some ⟨hs.getD i 0, 0, none⟩) := ptB_some (by rw [Htt.out.len]; exact hlt)
        rw [e1]
        have d0 := Htr.out.town hlt
        have d1 := Htr.out.arrive hlt
        have d2 := Htr.out.leave hlt
        have hgl := (Htr.out.halts i hlt).lt
        have htake := backTo_step l k hlt
        have Htake := Lib.hid htake; clear htake
        have hxl : (backTo l k (i + 1)).length = l.length - (i + 1) := backTo_len l k (i + 1)
        have Hxl := Lib.hid hxl; clear hxl
        have Hnext := Lib.hid (fun (w' : World) (h : TT w' tb hs l) => show w'.cell? ⟨hs.getD i 0, 4, none⟩ = some (ptB (before hs i)) from (h.halts i hlt).cell rfl)
        have hi8 : i ≤ 8 := by omega
        clear e1 hlt0 hgk
        have hlat : bacR k (l.getD i rd0) = ⟨(l.getD i rd0).a, IntKind.i64.wrap (k - (l.getD i rd0).m), IntKind.i64.wrap (k - (l.getD i rd0).b)⟩ := rfl
        have Hlat := Lib.hid hlat; clear hlat
        generalize (l.getD i rd0).a = xa at *
        generalize (l.getD i rd0).b = xb at *
        generalize (l.getD i rd0).m = xm at *
        generalize hs.getD i 0 = gi at *
        unfold OwnS at hown
        go_wp2_with fail
        go_region_law (first | (refine step_append_lies _ (by rfl) _ _ _ (by rfl) w1.heap.size 77 i0 _ 3 24 Try.underlying57 hi0 hz0 hz1 hz2 rfl (by omega) _ _ (encR (backTo l k (i + 1))) (by rfl) ((hown.alloc _).drew) ⟨wr.heap.size, 0, none⟩ 1 1 [.int .i64 xa, .int .i64 (IntKind.i64.wrap (k - xm)), .int .i64 (IntKind.i64.wrap (k - xb))] (by rfl) (by rfl) (World.news_of_block (cs := #[.int .i64 xa, .int .i64 (IntKind.i64.wrap (k - xm)), .int .i64 (IntKind.i64.wrap (k - xb))]) (t := 77) (fr := (0, 0)) (heap_alloc_new wr _)) (by simp [Value.oneCell']) (by omega) (by rw [Hxl.out]; unfold maxLen; omega) (by rw [Hxl.out]; omega) (by have := hbel.size; simp; omega) (wr.heap.size + 1) (by simp) ?_; intro gg cap2 w2 hown1 hgrow hat hlt2))
        all_goals
          have hsz := hbel.size
          have B6 : Below w1.heap.size w1 w2 := by
            refine Below.trans ?_ (Below.refl w1.heap.size w2)
            first
              | exact (((hbel.alloc hsz _).drew).grown hgrow (by simp; omega) (fun j hj => (hown.lt j hj).1))
              | exact (((hbel.drew).alloc hsz _).grown hgrow (by simp; omega) (fun j hj => (hown.lt j hj).1))
          have hown7 : OwnS w2 w1.heap.size (.slice (some ⟨gg, 0, none⟩) ((backTo l k (i + 1)).length + 1) cap2) (backTo l k i) := by
            rw [Htake.out, Hlat.out]
            exact OwnS.snoc hown1
          have d5 := Hnext.out w2 (Htt.out.below B6)
          have Hown7 := Lib.hid hown7
          have HB6 := Lib.hid B6
          clear hown7 B6 hown1 hgrow hat hown hbel d0 d1 d2
          go_wp2
          go_roundg i
          case measure => omega
          case rel => exact ⟨by omega, rfl, Hown7.out, HB6.out⟩
      · obtain rfl : gk = 0 := by omega
        have e1 : ptB (before hs 0) = .pointer none := rfl
        rw [e1]
        obtain ⟨ad, cap, rfl, hcx, hrd, hblk⟩ := RowTz.row hown
        have Hcx := Lib.hid hcx; clear hcx
        have hlen : (backTo l k 0).length ≤ 1048576 := by rw [backTo_len]; omega
        have HB := Lib.hid hbel
        have Hrd := Lib.hid hrd
        have Hblk := Lib.hid hblk
        clear e1 hown hbel hrd hblk
        go_wp2_with fail
        refine (ifT_any n ad cap (backTo l k 0) _ (Hrd.out.ins Hcx.out).roads hlen).mono ?_
        rintro e w2 ⟨hb2, ⟨hv, rfl⟩ | ⟨hv, g, hg1, hg2, rfl⟩⟩
        · have hok : backOk n l k = true := by unfold backOk; rw [Hz.out, hv]; rfl
          have hL : backL n l k = backTo l k 0 := if_pos hok
          have Hk := Lib.hid (And.intro hok hL)
          clear hok hL hv
          go_wp2
          go_ret2
          rw [Hk.out.1, Hk.out.2]
          exact ⟨ad, cap, rfl, Hcx.out, Hrd.out.below hb2, fun j hj => ⟨Nat.le_trans hb.size (Hblk.out j hj).1, Nat.lt_of_lt_of_le (Hblk.out j hj).2 hb2.size⟩, (hb.trans (HB.out.mono hb.size)).trans (hb2.mono (Nat.le_trans hb.size HB.out.size))⟩
        · have hok : backOk n l k = false := by unfold backOk; rw [Hz.out, hv]; rfl
          have hL : backL n l k = [] := by unfold backL; rw [hok]; rfl
          have Hk := Lib.hid (And.intro hok hL)
          clear hok hL hv
          go_wp2
          go_ret2
          rw [Hk.out.1, Hk.out.2]
          exact ⟨some ⟨g, 0, none⟩, 0, rfl, Nat.le_refl _, fun h => absurd rfl h, fun j hj => by obtain ⟨o, ho⟩ := hj; cases ho; exact ⟨Nat.le_trans (Nat.le_trans hb.size HB.out.size) hg1, hg2⟩, (hb.trans (HB.out.mono hb.size)).trans (hb2.mono (Nat.le_trans hb.size HB.out.size))⟩

end Go.Proofs.Ytmkcnoaphoiiaaa
