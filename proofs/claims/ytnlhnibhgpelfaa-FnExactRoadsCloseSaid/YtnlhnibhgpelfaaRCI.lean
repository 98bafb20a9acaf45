/- RoadsClose of the program. -/
import Derived.Test.YtnlhnibhgpelfaaRCS
namespace Go.Proofs.Ytnlhnibhgpelfaa
open Go.RowKit

theorem nand_or {p q : Prop} [Decidable p] (h : ¬ (p ∧ q)) : ¬ p ∨ (p ∧ ¬ q) := by
  by_cases hp : p
  · exact .inr ⟨hp, fun hq => h ⟨hp, hq⟩⟩
  · exact .inl hp

def RcRel (l : List Rd) (cl : Nat → List Rd) (B : Nat) (w : World) (v i : Value) (wr : World) : Prop :=
  ∃ k : Nat, k ≤ l.length ∧ i = .int .i64 k ∧ RowRz wr B v (cl k) ∧ Below w.heap.size w wr

set_option maxRecDepth 100000 in
set_option maxHeartbeats 2000000 in
theorem close2_any (n : Int) (b : Nat) (l : List Rd) (x y : Int) (w : World) (hv : RzIn w (.slice (some ⟨b, 0, none⟩) l.length l.length) l) (hm : l.length ≤ 1048576) (hw : RdWf l) (wx : W64 x) (wy : W64 y) :
    Calls Try.prog 22 #[.int .i64 n, .slice (some ⟨b, 0, none⟩) l.length l.length, .int .i64 x, .int .i64 y] w (RzOut (closeR n l x y) (closeOk n l x y) w) := by
  obtain ⟨i0, hi0, hz0, hz1, hz2⟩ := info_parts infoRz
  have Hv := Lib.hid hv; clear hv
  have Hd := Lib.hid (direct2_any n _ l x y w Hv.out.roads hm hw wx wy)
  have hge := (directOf_ge (n := n) (l := l) (a := x) (b := y)).1
  clear hw wx wy
  by_cases hd : directOf n l x y = -1
  · have HOK := Lib.hid (show closeOk n l x y = false by unfold closeOk; simp; omega)
    have HL := Lib.hid (show closeR n l x y = [] from if_neg (by rw [HOK.out]; simp))
    have Hd1 := Lib.hid hd; clear hd hge
    go_enter Try.func22, Try.ntmps22
    go_wp2_with fail
    refine (Hd.out).mono ?_; rintro e w1 ⟨rfl, hb1⟩
    have HB1 := Lib.hid hb1; clear hb1
    rw [Hd1.out]
    go_wp2
    go_ret2
    rw [HOK.out, HL.out]
    exact RzOut.no HB1.out.size HB1.out
  · have HOK1 := Lib.hid (show closeOk n l x y = true by unfold closeOk; simp; omega)
    have HOK := Lib.hid (And.intro (show closeR n l x y = closeL l x y l.length from if_pos HOK1.out) HOK1.out)
    have Hat := Lib.hid Hv.out.at0
    obtain ⟨mn, mx, hmn, hmx, hcs⟩ : ∃ mn mx : Int, min x y = mn ∧ max x y = mx ∧ (x < y ∧ mn = x ∧ mx = y ∨ y ≤ x ∧ mn = y ∧ mx = x) := by
      by_cases h : x < y
      · exact ⟨x, y, by omega, by omega, .inl ⟨h, rfl, rfl⟩⟩
      · exact ⟨y, x, by omega, by omega, .inr ⟨by omega, rfl, rfl⟩⟩
    obtain ⟨cl, Hcl0, Hcls, Hcln, Hcll⟩ : ∃ cl : Nat → List Rd, Hid (cl 0 = []) ∧ Hid (∀ k, k < l.length → cl (k + 1) = cl k ++ if (l.getD k rd0).a = mn ∧ (l.getD k rd0).b = mx then [] else [l.getD k rd0]) ∧ Hid (closeL l x y l.length = cl l.length) ∧ Hid (∀ k, (cl k).length ≤ k) := by
      refine ⟨closeL l x y, Lib.hid (by simp [closeL]), Lib.hid fun k hk => ?_, Lib.hid rfl, Lib.hid (closeL_len l x y)⟩
      rw [closeL_succ hk]
      congr 1
      unfold hit
      rw [hmn, hmx]
      simp
    have HOK := Lib.hid (And.intro (HOK.out.1.trans Hcln.out) HOK.out.2)
    clear hmn hmx Hcln
    have hq : (directOf n l x y == -1) = false := by simpa using hd
    clear hd
    clear HOK1
    have hcs' : (x < y ∧ ¬ y < x ∧ x ≤ y ∧ ¬ y ≤ x ∧ mn = x ∧ mx = y) ∨ (y < x ∧ ¬ x < y ∧ y ≤ x ∧ ¬ x ≤ y ∧ mn = y ∧ mx = x) ∨ (x = y ∧ x ≤ y ∧ ¬ x < y ∧ y ≤ x ∧ mn = x ∧ mx = x) := by omega
    clear hcs
    rcases hcs' with ⟨x1, x2, x3, x4, e1, e2⟩ | ⟨x1, x2, x3, x4, e1, e2⟩ | ⟨x1, x2, x3, x4, e1, e2⟩
    all_goals
      first | (subst x1) | skip
      subst e1 e2
      go_enter Try.func22, Try.ntmps22
      go_wp2_with fail
      refine (Hd.out).mono ?_; rintro e w1 ⟨rfl, hb1⟩
      have HB1 := Lib.hid hb1; clear hb1
      go_wp2
      go_loopw [10, 23] (fun v i wr => RcRel l cl w.heap.size w v i wr) (fun _ i _ => l.length - (intOf i).toNat)
      case atStart => exact ⟨0, Nat.zero_le _, rfl, by rw [Hcl0.out]; exact RowRz.made w1 w.heap.size HB1.out.size, HB1.out.alloc HB1.out.size _⟩
      case round =>
        obtain ⟨k, hk, rfl, hown, hbel⟩ := hrel
        by_cases hlt : k < l.length
        · have hlt' : (k : Int) < (l.length : Int) := by omega
          have hb0 := Hat.out.2 (fun e => by rw [e] at hlt; simp at hlt)
          obtain ⟨c0, c1, c2⟩ := (Hat.out.1.below hbel hb0) k hlt
          rw [Nat.zero_add] at c0 c1 c2
          have Hs := Lib.hid (Hcls.out k hlt)
          have Hcl := Lib.hid (Hcll.out k)
          have hsw := hbel.size
          have HB := Lib.hid hbel
          have Hown := Lib.hid hown
          clear hown hbel hb0
          generalize hr : l.getD k rd0 = r at *
          obtain ⟨ra, rb, rm⟩ := r
          clear hr
          dsimp only at c0 c1 c2 Hs
          have hbw : b < wr.heap.size := Nat.lt_of_lt_of_le (Hat.out.2 (fun e => by rw [e] at hlt; simp at hlt)) hsw
          have hrow : ∀ v' w', World.ownsRow w' w.heap.size 30 3 v' ((cl k).length + 1) (encRz (cl k) ++ [.int .i64 ra, .int .i64 rb, .int .i64 rm]) → RowRz w' w.heap.size v' (cl k ++ [⟨ra, rb, rm⟩]) := fun v' w' h => RowRz.snoc h
          have Hrow := Lib.hid hrow; clear hrow
          have HBd := Lib.hid ((HB.out.alloc HB.out.size (.cells #[.int .i64 ra, .int .i64 rb, .int .i64 rm] 30)).alloc (Nat.le_trans HB.out.size (by simp)) (.cells #[.int .i64 ra, .int .i64 rb, .int .i64 rm] 30))
          have Hownd := Lib.hid (World.ownsRow.alloc (World.ownsRow.alloc Hown.out (.cells #[.int .i64 ra, .int .i64 rb, .int .i64 rm] 30)) (.cells #[.int .i64 ra, .int .i64 rb, .int .i64 rm] 30))
          have Hown1 := Lib.hid (World.ownsRow.alloc Hown.out (.cells #[.int .i64 ra, .int .i64 rb, .int .i64 rm] 30))
          have HB1' := Lib.hid (HB.out.alloc HB.out.size (.cells #[.int .i64 ra, .int .i64 rb, .int .i64 rm] 30))
          have hcl := Hcl.out
          have h := Hs.out
          split at h
          · rename_i hc
            have Hh := Lib.hid (h.trans (List.append_nil _)); clear h
            obtain ⟨rfl, rfl⟩ := hc
            go_wp2
            exact ⟨⟨k + 1, hlt, by go_num, by rw [Hh.out]; exact Hown1.out, HB1'.out⟩, by simp [intOf]; omega⟩
          · rename_i hc
            have Hh := Lib.hid h; clear h
            rcases nand_or hc with h1 | ⟨h1, h2⟩
            · clear hc
              go_wp2_with (at_builtin; refine wpList_append_own _ rfl _ _ 26 rfl w.heap.size 30 i0 _ 3 24 Try.underlying26 hi0 hz0 hz1 hz2 rfl (by omega) _ _ (encRz (cl k)) rfl Hownd.out ⟨wr.heap.size + 1, 0, none⟩ 1 1 [.int .i64 ra, .int .i64 rb, .int .i64 rm] rfl rfl (news2 wr _ #[.int .i64 ra, .int .i64 rb, .int .i64 rm] 30) (by simp [Value.oneCell']) (by simp only [maxLen]; omega) (by omega) (by simp; omega) ?_; intro v' w2 hown2 hgrow _; have hrow2 := Lib.hid (Hrow.out _ _ hown2); have HB2 := Lib.hid (HBd.out.grown hgrow (by simp; omega) (fun j hj => ((Hownd.out).lt j hj).1)); clear hown2 hgrow)
              exact ⟨⟨k + 1, hlt, by go_num, by rw [Hh.out]; exact hrow2.out, HB2.out⟩, by simp [intOf]; omega⟩
            · clear hc
              subst h1
              go_wp2_with (at_builtin; refine wpList_append_own _ rfl _ _ 26 rfl w.heap.size 30 i0 _ 3 24 Try.underlying26 hi0 hz0 hz1 hz2 rfl (by omega) _ _ (encRz (cl k)) rfl Hownd.out ⟨wr.heap.size + 1, 0, none⟩ 1 1 [.int .i64 ra, .int .i64 rb, .int .i64 rm] rfl rfl (news2 wr _ #[.int .i64 ra, .int .i64 rb, .int .i64 rm] 30) (by simp [Value.oneCell']) (by simp only [maxLen]; omega) (by omega) (by simp; omega) ?_; intro v' w2 hown2 hgrow _; have hrow2 := Lib.hid (Hrow.out _ _ hown2); have HB2 := Lib.hid (HBd.out.grown hgrow (by simp; omega) (fun j hj => ((Hownd.out).lt j hj).1)); clear hown2 hgrow)
              exact ⟨⟨k + 1, hlt, by go_num, by rw [Hh.out]; exact hrow2.out, HB2.out⟩, by simp [intOf]; omega⟩
        · obtain hkl : k = l.length := by omega
          have Hown := Lib.hid hown; have HB := Lib.hid hbel
          have HOK2 := Lib.hid (show cl k = closeR n _ _ _ by rw [hkl]; exact HOK.out.1.symm)
          clear hown hbel hkl
          obtain ⟨ad, cp, rfl, hcp, ho, hblk⟩ := Hown.out.row
          have HO := Lib.hid (And.intro hcp (And.intro ho hblk)); clear hcp ho hblk
          go_wp2
          go_ret2
          rw [← HOK2.out, HOK.out.2]
          exact ⟨ad, cp, rfl, HO.out.1, HO.out.2.1, HO.out.2.2, HB.out⟩

end Go.Proofs.Ytnlhnibhgpelfaa
