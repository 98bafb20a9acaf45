/- Draws: a number, a timetable and a time. -/
import Derived.Test.YtaclcpaeggmmcaaDC
import Derived.Deep.RegionWith
namespace Go.Proofs.Ytaclcpaeggmmcaa
open Go.RowKit

def DrawnNST (w : World) (e : Ending) (w' : World) : Prop :=
  ∃ (n : Int) (ad : Option Addr) (cap : Nat) (xs : List Rd) (t : Int), e = .returned (.tuple #[.int .i64 n, .slice ad xs.length cap, .int .i64 t]) ∧ 2 ≤ n ∧ n ≤ 6 ∧ xs.length ≤ cap ∧ xs.length ≤ 8 ∧ OwnRd w' ad xs ∧ Below w.heap.size w w'

theorem Reader.drew {w : World} {g : Nat} {l : List Int} {p : Nat} (h : Reader w g l p) : Reader w.drew g l p := h

theorem OwnRd.drew {w : World} {ad : Option Addr} {l : List Rd} (h : OwnRd w ad l) : OwnRd w.drew ad l := h

theorem OwnRd.grown {w w' : World} {ad : Option Addr} {l : List Rd} {g : Nat} (h : OwnRd w ad l) (hg : w.grownBy w' (some g)) (hn : ∀ j, inBlk ad j → j ≠ g) : OwnRd w' ad l :=
  h.touch (Touch.grown (S := fun j => j = g) hg rfl) hn

set_option maxRecDepth 100000 in
set_option maxHeartbeats 1000000 in
theorem drawWhere_any (v : Value) (l : List Int) (w : World) (hv : BytesIn w v l) (hm : l.length ≤ 1048576) :
    Calls Try.prog 22 #[v] w (DrawnNST w) := by
  have Hv := Lib.hid hv; clear hv
  go_enter Try.func22, Try.ntmps22
  go_wp2_with fail
  refine (l6Open_any _ l _ Hv.out hm).mono ?_; rintro e w1 ⟨rfl, ⟨l', hr⟩, hb, hs⟩
  have Hs := Lib.hid hs; clear hs
  generalize hgg : w.heap.size = g at *
  have Hgg := Lib.hid hgg; clear hgg
  go_wp2_with fail
  refine (one91_any _ l' 0 _ hr (by omega)).mono ?_; rintro e w2 ⟨n, ad, cap, xs, p', rfl, hn2, hn6, hcap, h8, hown, hblk, hr2, hp2, ht⟩
  have Hown := Lib.hid hown
  have Hr2 := Lib.hid hr2
  have hne : ∀ j, inBlk ad j → j ≠ g := fun j hj => by have := (hblk j hj).1; have := Hs.out; omega
  have Hne := Lib.hid hne
  have HB2 := Lib.hid (hb.trans (ht.below (B := g) (fun j hj => by rw [hj]; exact Nat.le_refl _) (by have := Hs.out; omega)))
  clear hown ht hr hr2 hne hblk hb
  by_cases hx : 0 < xs.length
  · have hxI : (0 : Int) < (xs.length : Int) := by omega
    go_wp2_with fail
    refine (pick_any g l' p' 5 _ Hr2.out (by omega) (by omega)).mono ?_; rintro e w3 ⟨⟨x, rfl, hx0, hx1⟩, hr3, hg3⟩
    have Hown3 := Lib.hid (Hown.out.grown hg3 Hne.out)
    have Hr3 := Lib.hid hr3
    have HB3 := Lib.hid (HB2.out.trans (Touch.below (B := g) (Touch.grown (S := fun j => j = g) hg3 rfl) (fun j hj => by rw [hj]; exact Nat.le_refl _) (Nat.le_of_lt Hr2.out.lt)))
    clear hr3 hg3 hx1
    by_cases hxp : 0 < x
    · go_wp2_with fail
      refine (pick_any g l' (p' + 1) (xs.length : Int) _ Hr3.out (by omega) (by omega)).mono ?_; rintro e w4 ⟨⟨y, rfl, hy0, hy1⟩, hr4, hg4⟩
      have hyl : y < (xs.length : Int) := by omega
      obtain ⟨kn, hk⟩ : ∃ kn : Nat, y = (kn : Int) := ⟨y.toNat, by omega⟩
      have hown4 := Hown3.out.grown hg4 Hne.out
      have Hown4 := Lib.hid hown4
      have HB4 := Lib.hid (HB3.out.trans (Touch.below (B := g) (Touch.grown (S := fun j => j = g) hg4 rfl) (fun j hj => by rw [hj]; exact Nat.le_refl _) (Nat.le_of_lt Hr3.out.lt)))
      obtain ⟨b, rfl, hbl, hrow, _⟩ := hown4 (by rintro rfl; simp at hx)
      obtain ⟨c0, c1, c2⟩ := hrow kn (by omega)
      simp only [Nat.zero_add] at c0 c1 c2
      subst hk
      have hk0 : (0 : Int) ≤ (kn : Int) := Int.natCast_nonneg _
      have Hr4 := Lib.hid hr4
      have hgs := hr4.lt
      have HBs := Lib.hid (show ∀ o, Below w4.heap.size w4 (w4.alloc o) from fun o => (Below.refl _ _).alloc (Nat.le_refl _) _)
      clear hr4 hg4 hy1 hown4 hrow
      generalize (xs.getD kn rd0).a = ya at *
      generalize (xs.getD kn rd0).b = yb at *
      generalize (xs.getD kn rd0).m = ym at *
      go_wp2
      go_region_with (go_at_call 26; refine (pick_any g l' (p' + 1 + 1) 30 _ (Reader.drew (Hr4.out.belowB (HBs.out _) hgs)) (by omega) (by omega)).mono ?_; rintro e w6 ⟨⟨z, rfl, hz0, hz1⟩, hr6, hg6⟩; have d6 : w6.cell? ⟨w4.heap.size, 1, none⟩ = some (.int .i64 yb) := by rw [World.cell?_of_block (a := ⟨w4.heap.size, 1, none⟩) (hg6.block w4.heap.size (by simp) (fun e => by injection e with e; omega))]; simp)
      all_goals
        have hown6 := (OwnRd.drew (Hown4.out.below (HBs.out _))).grown hg6 Hne.out
        have hB6 : Below g w w6 := ((HB4.out.alloc (Nat.le_of_lt hgs) _).drew).trans (Touch.below (B := g) (Touch.grown (S := fun j => j = g) hg6 rfl) (fun j hj => by rw [hj]; exact Nat.le_refl _) (by simp; omega))
        have H6 := Lib.hid (And.intro hown6 hB6)
        clear hown6 hB6 hr6 hg6 hz1
        go_wp2
        go_ret3
        exact ⟨n, _, cap, xs, _, rfl, hn2, hn6, hcap, h8, H6.out.1, by rw [Hgg.out]; exact H6.out.2⟩
    · have hxp' : ¬ 0 < x := hxp
      go_wp2_with fail
      refine (pick_any g l' (p' + 1) 900 _ Hr3.out (by omega) (by omega)).mono ?_; rintro e w4 ⟨⟨y, rfl, hy0, hy1⟩, hr4, hg4⟩
      have hown4 := Hown3.out.grown hg4 Hne.out
      have hB4 : Below g w w4 := HB3.out.trans (Touch.below (B := g) (Touch.grown (S := fun j => j = g) hg4 rfl) (fun j hj => by rw [hj]; exact Nat.le_refl _) (Nat.le_of_lt Hr3.out.lt))
      have H6 := Lib.hid (And.intro hown4 hB4)
      clear hown4 hB4 hr4 hg4 hy1
      go_wp2
      go_ret3
      exact ⟨n, _, cap, xs, _, rfl, hn2, hn6, hcap, h8, H6.out.1, by rw [Hgg.out]; exact H6.out.2⟩
  · have hxI : ¬ (0 : Int) < (xs.length : Int) := by omega
    go_wp2_with fail
    refine (pick_any g l' p' 900 _ Hr2.out (by omega) (by omega)).mono ?_; rintro e w4 ⟨⟨y, rfl, hy0, hy1⟩, hr4, hg4⟩
    have hown4 := Hown.out.grown hg4 Hne.out
    have hB4 : Below g w w4 := HB2.out.trans (Touch.below (B := g) (Touch.grown (S := fun j => j = g) hg4 rfl) (fun j hj => by rw [hj]; exact Nat.le_refl _) (Nat.le_of_lt Hr2.out.lt))
    have H6 := Lib.hid (And.intro hown4 hB4)
    clear hown4 hB4 hr4 hg4 hy1
    go_wp2
    go_ret3
    exact ⟨n, _, cap, xs, _, rfl, hn2, hn6, hcap, h8, H6.out.1, by rw [Hgg.out]; exact H6.out.2⟩

end Go.Proofs.Ytaclcpaeggmmcaa
