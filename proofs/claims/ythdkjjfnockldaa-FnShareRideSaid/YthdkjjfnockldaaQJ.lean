/- dueOf and sharesOf: the program's shares. -/
import Derived.Test.YthdkjjfnockldaaQI
import Derived.Test.YthdkjjfnockldaaIO
import Derived.Deep.AppendLies
namespace Go.Proofs.Ythdkjjfnockldaa
open Go.RowKit

theorem IntAt.setQ {w : World} {b i : Nat} {l : List Int} {v : Int} (h : IntAt w b 0 l) (hi : i < l.length) : IntAt (w.setCell ⟨b, i, none⟩ (.int .i64 v)) b 0 (l.set i v) := by
  intro j hj
  rw [List.length_set] at hj
  have hi' := h i hi
  rw [Nat.zero_add] at hi' ⊢
  by_cases e : j = i
  · subst e
    rw [World.cell?_setCell_same _ _ _ hi']
    simp [List.getD, hi]
  · rw [World.cell?_setCell_other _ _ _ _ (by intro q; injection q; omega)]
    have hj' := h j hj
    rw [Nat.zero_add] at hj'
    rw [hj']
    simp [List.getD, List.getElem?_set, Ne.symm e]
theorem takeI {l : List Int} {k : Nat} (h : k < l.length) : l.take (k + 1) = l.take k ++ [l.getD k 0] := by
  rw [List.take_succ_eq_append_getElem h]; simp [List.getD, h]
theorem takeI_sum {l : List Int} {k : Nat} (h : k < l.length) : (l.take (k + 1)).sum = (l.take k).sum + l.getD k 0 := by rw [takeI h]; simp
theorem takeI_bd {l : List Int} {M : Int} (h : ∀ i, 0 ≤ l.getD i 0 ∧ l.getD i 0 ≤ M) : ∀ k, k ≤ l.length → 0 ≤ (l.take k).sum ∧ (l.take k).sum ≤ k * M
  | 0, _ => by simp
  | k + 1, hk => by
    have ih := takeI_bd h k (by omega)
    have := h k
    rw [takeI_sum (by omega), Int.natCast_add, Int.add_mul]
    simp only [Int.natCast_one, Int.one_mul]
    omega
theorem mul_bd {a b A B : Int} (h0 : 0 ≤ a) (hA : a ≤ A) (h1 : 0 ≤ b) (hB : b ≤ B) : 0 ≤ a * b ∧ a * b ≤ A * B :=
  ⟨Int.mul_nonneg h0 h1, Int.mul_le_mul hA hB h1 (by omega)⟩
theorem dueL_at (ms : List Int) (amt : Int) (i : Nat) : (dueL ms amt).getD i 0 = amt * ms.getD i 0 := by
  simp only [dueL, List.getD_eq_getElem?_getD, List.getElem?_map]
  cases ms[i]? <;> simp
theorem quoL_at (ds : List Int) (all : Int) (i : Nat) : (quoL ds all).getD i 0 = ds.getD i 0 / all := by
  simp only [quoL, List.getD_eq_getElem?_getD, List.getElem?_map]
  cases ds[i]? <;> simp
theorem rstL_at (ds : List Int) (all : Int) (i : Nat) : (rstL ds all).getD i 0 = ds.getD i 0 % all := by
  simp only [rstL, List.getD_eq_getElem?_getD, List.getElem?_map]
  cases ds[i]? <;> simp
theorem dueL_snoc (ms : List Int) (amt m : Int) : dueL (ms ++ [m]) amt = dueL ms amt ++ [amt * m] := by simp [dueL]
theorem quoL_snoc (ds : List Int) (all d : Int) : quoL (ds ++ [d]) all = quoL ds all ++ [d / all] := by simp [quoL]
theorem rstL_snoc (ds : List Int) (all d : Int) : rstL (ds ++ [d]) all = rstL ds all ++ [d % all] := by simp [rstL]

def DueRel (ms : List Int) (amt : Int) (w : World) (u s i : Value) (wr : World) : Prop :=
  ∃ k : Nat, k ≤ ms.length ∧ i = .int .i64 k ∧ s = .int .i64 (ms.take k).sum ∧ RowI wr w.heap.size u (dueL (ms.take k) amt) ∧ Below w.heap.size w wr

set_option maxRecDepth 100000 in
set_option maxHeartbeats 1000000 in
theorem due2_any (v : Value) (ms : List Int) (amt : Int) (w : World) (hv : IntsIn w v ms) (hn : ms.length ≤ 6) (hm : ∀ i, 0 ≤ ms.getD i 0 ∧ ms.getD i 0 ≤ 1188) (ha : 0 ≤ amt ∧ amt ≤ 1000000) :
    Calls Try.prog 74 #[v, .int .i64 amt] w fun e w' => ∃ (ad : Option Addr) (cap : Nat), e = .returned (.tuple #[.slice ad ms.length cap, .int .i64 ms.sum]) ∧ ms.length ≤ cap ∧ OwnI w' ad (dueL ms amt) ∧
      (∀ j, inBlk ad j → w.heap.size ≤ j ∧ j < w'.heap.size) ∧ Below w.heap.size w w' := by
  obtain ⟨i0, hi, hz0, hz1, hz2⟩ := info_parts Try.info3
  obtain ⟨a, cap, rfl, hcap, hal⟩ := hv
  clear hcap
  have Ha := Lib.hid hal; clear hal
  obtain ⟨a0, a1⟩ := ha
  have Hm := Lib.hid hm; clear hm
  go_enter Try.func74, Try.ntmps74
  go_wp2
  go_loopw [6, 7, 13] (fun u s i wr => DueRel ms amt w u s i wr) (fun _ _ i _ => ms.length - (intOf i).toNat)
  case atStart => exact ⟨0, Nat.zero_le _, rfl, by simp, RowI.made w w.heap.size (Nat.le_refl _), (Below.refl _ _).alloc (Nat.le_refl _) _⟩
  case round =>
    obtain ⟨k, hk, rfl, rfl, hrow, hbel⟩ := hrel
    by_cases hlt : k < ms.length
    · obtain ⟨b, o, rfl, hb0, hrw⟩ := Ha.out (by intro h; simp [h] at hlt)
      have c0 := (hrw.below hbel hb0) k hlt
      obtain ⟨m0, m1⟩ := Hm.out k
      obtain ⟨p0, p1⟩ := mul_bd a0 a1 m0 m1
      obtain ⟨s0, s1⟩ := takeI_bd Hm.out k hk
      have hsum := takeI_sum hlt
      have hdue : dueL (ms.take (k + 1)) amt = dueL (ms.take k) amt ++ [amt * ms.getD k 0] := by rw [takeI hlt, dueL_snoc]
      have hw : wrap64 (amt * ms.getD k 0) = amt * ms.getD k 0 := by unfold wrap64; omega
      have hlen : (dueL (ms.take k) amt).length = k := by rw [dueL_len, List.length_take]; omega
      have hown := hrow
      unfold RowI at hown
      rw [hlen] at hown
      have HB := Lib.hid hbel; clear hbel
      have hsz := HB.out.size
      have Hsum := Lib.hid hsum; clear hsum
      have Hdue := Lib.hid hdue; clear hdue
      have Hlen := Lib.hid hlen; clear hlen
      have hk6 : k < 6 := by omega
      generalize (ms.take k).sum = s at *
      generalize ms.getD k 0 = m at *
      have hs9 : s ≤ 7128 := by omega
      clear hrow hrw s1
      go_wp2_with (at_builtin; refine wpList_append_own _ rfl _ _ 25 rfl w.heap.size 3 i0 (.int .i64 0) 1 8 Try.underlying25 hi hz0 hz1 hz2 rfl (by decide) _ _ _ rfl (hown.alloc _) ⟨wr.heap.size, 0, none⟩ 1 1 [.int .i64 (amt * m)] rfl rfl (cell_one_new _ _ _) (by simp [Value.oneCell']) (by simp only [maxLen]; omega) (by omega) (by simp; omega) ?_; intro v' w8 hown8 hgrow _)
      have HB8 := Lib.hid ((HB.out.alloc hsz (.cells #[.int .i64 (amt * m)] 3)).grown hgrow (by simp; omega) (fun j hj => (hown.lt j hj).1))
      have Hown8 := Lib.hid (show RowI w8 w.heap.size v' (dueL (ms.take (k + 1)) amt) by
        rw [Hdue.out]
        refine RowI.snoc ?_
        rw [Hlen.out]
        exact hown8)
      clear hown8 hgrow hown
      go_wp2
      exact ⟨⟨k + 1, hlt, by go_num, by rw [Hsum.out], Hown8.out, HB8.out⟩, by simp [intOf]; omega⟩
    · obtain rfl : k = ms.length := by omega
      rw [List.take_length] at hrow ⊢
      obtain ⟨ad2, cap2, rfl, hc2, ho2, hin2⟩ := hrow.row
      rw [dueL_len] at hc2 ⊢
      have HB := Lib.hid hbel
      have HO := Lib.hid ho2
      have HI := Lib.hid hin2
      clear hbel ho2 hin2 hrow
      go_wp2
      go_ret2
      exact ⟨ad2, cap2, rfl, hc2, HO.out, HI.out, HB.out⟩

/-- The shares by the miles of a road, at a world of the call's. -/
theorem IntsOne.ok {xs ys : List Int} {ok : Bool} {w0 w : World} {e : Ending} {w' : World} (h : IntsOne xs w e w') (hb : Below w0.heap.size w0 w) (he : ys = xs) :
    ∃ (ad : Option Addr) (cap : Nat), e = .returned (.slice ad ys.length cap) ∧ IntsOk ys ok w0 (.returned (.tuple #[.slice ad ys.length cap, .bool ok])) w' := by
  subst he
  obtain ⟨ad, cap, rfl, hc, ho, hblk, hb'⟩ := h
  exact ⟨ad, cap, rfl, ad, cap, rfl, hc, ho, fun j hj => ⟨by have := (hblk j hj).1; have := hb.size; omega, (hblk j hj).2⟩, hb.trans (hb'.mono hb.size)⟩

/-- Two rows of the call's own, in blocks of their own. -/
theorem RowI.apart {w : World} {B g n : Nat} {v : Value} {xs : List Value} (h : w.ownsRow B 3 1 v n xs) (hg : g = w.heap.size) : v.ownBlock ≠ some g := fun e => by
  have := (h.lt g e).2; omega
def ShRel (ds : List Int) (amt all : Int) (B : Nat) (w1 : World) (u r lv i : Value) (wr : World) : Prop :=
  ∃ k : Nat, k ≤ ds.length ∧ i = .int .i64 k ∧ lv = .int .i64 (amt - (quoL (ds.take k) all).sum) ∧ RowI wr B u (quoL (ds.take k) all) ∧ RowI wr B r (rstL (ds.take k) all) ∧
    (∀ g, u.ownBlock = some g → r.ownBlock ≠ some g) ∧ (∃ g, u.ownBlock = some g) ∧ (∃ g, r.ownBlock = some g) ∧ Below B w1 wr

def GvRel (ds : List Int) (all : Int) (lf g b : Nat) (w1 : World) (i : Value) (wr : World) : Prop :=
  ∃ k : Nat, k ≤ lf ∧ i = .int .i64 k ∧ IntAt wr g 0 (giveP ((orderR (rstL ds all)).take k) (quoL ds all)) ∧ Room wr g ds.length ∧ IntAt wr b 0 ((orderR (rstL ds all)).map fun (i : Nat) => (i : Int)) ∧ Below w1.heap.size w1 wr

theorem quoL_bd {ds : List Int} {all M : Int} (h : 0 < all) (hd : ∀ i, 0 ≤ ds.getD i 0 ∧ ds.getD i 0 ≤ M) : ∀ i, 0 ≤ (quoL ds all).getD i 0 ∧ (quoL ds all).getD i 0 ≤ M := fun i => by
  rw [quoL_at]
  have := hd i
  refine ⟨Int.ediv_nonneg (by omega) (by omega), ?_⟩
  have h1 := Int.mul_ediv_add_emod (ds.getD i 0) all
  have h2 := Int.emod_nonneg (ds.getD i 0) (show all ≠ 0 by omega)
  have h3 : 0 ≤ ds.getD i 0 / all := Int.ediv_nonneg (by omega) (by omega)
  have h4 := Int.mul_le_mul_of_nonneg_right (show 1 ≤ all by omega) h3
  omega

set_option maxRecDepth 100000 in
set_option maxHeartbeats 2000000 in
theorem shares_any (v : Value) (ms : List Int) (amt : Int) (w : World) (hv : IntsIn w v ms) (hn : ms.length ≤ 6) (hm : ∀ i, 0 ≤ ms.getD i 0 ∧ ms.getD i 0 ≤ 1188) (ha : 0 ≤ amt ∧ amt ≤ 1000000) (hs : 0 < ms.sum ∧ ms.sum ≤ 7128) :
    Calls Try.prog 70 #[v, .int .i64 amt] w (IntsOne (shareL ms amt) w) := by
  obtain ⟨i0, hi, hz0, hz1, hz2⟩ := info_parts Try.info3
  have Hv := Lib.hid hv
  have hd0 : ∀ i, 0 ≤ (dueL ms amt).getD i 0 ∧ (dueL ms amt).getD i 0 ≤ 1188000000 := fun i => by
    rw [dueL_at]
    have := mul_bd ha.1 ha.2 (hm i).1 (hm i).2
    omega
  have hq0 := quoL_bd hs.1 hd0
  have hr0 : ∀ i, 0 ≤ (rstL (dueL ms amt) ms.sum).getD i 0 ∧ (rstL (dueL ms amt) ms.sum).getD i 0 ≤ 1000000 := fun i => by
    rw [rstL_at]
    have h1 := Int.emod_nonneg ((dueL ms amt).getD i 0) (show ms.sum ≠ 0 by omega)
    have h2 := Int.emod_lt_of_pos ((dueL ms amt).getD i 0) hs.1
    omega
  have hlf := leftL_bd amt hs.1
  have hdue := due2_any v ms amt w hv hn hm ha
  have hlen := dueL_len ms amt
  obtain ⟨a, cap, rfl, _, _⟩ := hv
  have hss : shareL ms amt = giveP ((orderR (rstL (dueL ms amt) ms.sum)).take (leftL ms amt).toNat) (quoL (dueL ms amt) ms.sum) := rfl
  have hll : leftL ms amt = amt - (quoL (dueL ms amt) ms.sum).sum := rfl
  obtain ⟨lf, hlf2⟩ : ∃ lf : Nat, leftL ms amt = lf := ⟨(leftL ms amt).toNat, by omega⟩
  rw [hlf2] at hss hll hlf
  rw [Int.toNat_natCast] at hss
  have hlf3 : lf ≤ ms.length := by omega
  generalize hds : dueL ms amt = ds at *
  generalize hall : ms.sum = all at *
  generalize shareL ms amt = out at *
  have Hdue := Lib.hid hdue
  have Hss := Lib.hid hss
  have Hll := Lib.hid hll
  have Hd0 := Lib.hid hd0
  have Hq0 := Lib.hid hq0
  have Hr0 := Lib.hid hr0
  have Hlen := Lib.hid hlen
  obtain ⟨s0, s9⟩ := hs
  obtain ⟨a0, a9⟩ := ha
  have Hlf2 := Lib.hid hlf2
  have Hlf := Lib.hid hlf
  clear hdue hss hll hd0 hq0 hr0 hlen hm hlf2 hlf hds hall
  have hnz : all ≠ 0 := by omega
  have hb0 : (all == 0) = false := by simpa using hnz
  go_enter Try.func70, Try.ntmps70
  go_wp2_with fail
  refine Hdue.out.mono ?_
  rintro e w1 ⟨ad1, cap1, rfl, hc1, ho1, hin1, hb1⟩
  have hs1 := hb1.size
  have Ho1 := Lib.hid ho1
  have Hb1 := Lib.hid hb1
  clear ho1 hin1 hb1 hc1
  rw [← Hlen.out]
  have hn' : ds.length ≤ 6 := by rw [Hlen.out]; exact hn
  go_wp2
  go_loopw [7, 8, 9, 25] (fun u r lv i wr => ShRel ds amt all w1.heap.size w1 u r lv i wr) (fun _ _ _ i _ => ds.length - (intOf i).toNat)
  case atStart =>
    refine ⟨0, Nat.zero_le _, rfl, by simp [quoL], (RowI.made w1 w1.heap.size (Nat.le_refl _)).below ((Below.refl _ _).alloc (Nat.le_refl _) _), ?_, ?_, ⟨_, rfl⟩, ⟨_, rfl⟩, ((Below.refl _ _).alloc (Nat.le_refl _) _).alloc (by simp) _⟩
    · have := RowI.made (w1.alloc (.cells #[] 3)) w1.heap.size (by simp)
      rw [World.size_alloc] at this
      exact this
    · intro g hg h
      simp [Value.ownBlock] at hg h
      omega
  case round =>
    obtain ⟨k, hk, rfl, rfl, hu, hr, hne, ⟨gu, hgu⟩, ⟨gr, hgr⟩, hbel⟩ := hrel
    by_cases hlt : k < ds.length
    · obtain ⟨b, rfl, hbl, hat, _⟩ := Ho1.out (by intro h; simp [h] at hlt)
      have c0 := (hat.below hbel hbl) k hlt
      rw [Nat.zero_add] at c0
      obtain ⟨d0, d9⟩ := Hd0.out k
      have hq : quoL (ds.take (k + 1)) all = quoL (ds.take k) all ++ [ds.getD k 0 / all] := by rw [takeI hlt, quoL_snoc]
      have hr2 : rstL (ds.take (k + 1)) all = rstL (ds.take k) all ++ [ds.getD k 0 % all] := by rw [takeI hlt, rstL_snoc]
      have hqs : (quoL (ds.take (k + 1)) all).sum = (quoL (ds.take k) all).sum + ds.getD k 0 / all := by rw [hq]; simp
      have hqk : quoL (ds.take k) all = (quoL ds all).take k := by simp [quoL, List.map_take]
      have hsb := takeI_bd Hq0.out k (by rw [quoL_len]; exact hk)
      rw [← hqk] at hsb
      have hqb := Hq0.out k
      rw [quoL_at] at hqb
      have hlq : (quoL (ds.take k) all).length = k := by rw [quoL_len, List.length_take]; omega
      have hlr : (rstL (ds.take k) all).length = k := by rw [rstL_len, List.length_take]; omega
      have hsz := hbel.size
      have HB := Lib.hid hbel
      unfold RowI at hu hr
      rw [hlq] at hu
      rw [hlr] at hr
      generalize ds.getD k 0 = d at *
      generalize hqv : (quoL (ds.take k) all).sum = qs at *
      go_wp2_with (first | (at_builtin; refine wpList_append_lies _ rfl _ _ 25 rfl w1.heap.size 3 i0 (.int .i64 0) 1 8 Try.underlying25 hi hz0 hz1 hz2 rfl (by decide) u7 k _ rfl (World.ownsRow.alloc hu _) ⟨wr.heap.size, 0, none⟩ 1 1 [.int .i64 (d / all)] rfl rfl (cell_one_new _ _ _) (by simp [Value.oneCell']) (by decide) (by simp only [maxLen]; omega) (by omega) (by simp; omega) _ rfl ?_; intro g2 cp2 w2 hown2 hgrow2 hlie2 hlt2; have hr8 := World.ownsRow.kept (World.ownsRow.alloc hr (.cells #[.int .i64 (d / all)] 3)) hgrow2 (by rw [hgu]; exact .inr (hne _ hgu)); have Hs2 := hgrow2.size; simp only [World.size_alloc] at Hs2) | (at_builtin; refine wpList_append_lies _ rfl _ _ 25 rfl w1.heap.size 3 i0 (.int .i64 0) 1 8 Try.underlying25 hi hz0 hz1 hz2 rfl (by decide) u8 k _ rfl (World.ownsRow.alloc hr8 _) ⟨w2.heap.size, 0, none⟩ 1 1 [.int .i64 (d % all)] rfl rfl (cell_one_new _ _ _) (by simp [Value.oneCell']) (by decide) (by simp only [maxLen]; omega) (by omega) (by simp; omega) _ rfl ?_; intro g3 cp3 w3 hown3 hgrow3 hlie3 hlt3))
      clear hbel
      have hg28 : u8.ownBlock ≠ some g2 := by
        rcases hlie2 with h | h
        · exact hne g2 h
        · intro e
          have := (hr.lt g2 e).2
          simp at h; omega
      have hg2 : g2 ≠ g3 := by
        rcases hlie3 with h | h
        · intro e; exact hg28 (by rw [h, e])
        · simp at h; omega
      have hown2' := World.ownsRow.kept (World.ownsRow.alloc hown2 (.cells #[.int .i64 (d % all)] 3)) hgrow3 (.inr (Ne.symm hg28))
      have hB2 := (HB.out.alloc hsz (.cells #[.int .i64 (d / all)] 3)).grown hgrow2 (by simp; omega) (fun j hj => (hu.lt j hj).1)
      have hB3 := (hB2.alloc (by omega) (.cells #[.int .i64 (d % all)] 3)).grown hgrow3 (by simp; omega) (fun j hj => (hr8.lt j hj).1)
      refine ⟨⟨k + 1, hlt, by go_num, by rw [hqs]; congr 1; omega, ?_, ?_, fun g hg => ?_, ⟨g2, rfl⟩, ⟨g3, rfl⟩, hB3⟩, by simp [intOf]; omega⟩
      · rw [hq]
        refine RowI.snoc ?_
        rw [hlq]; exact hown2'
      · rw [hr2]
        refine RowI.snoc ?_
        rw [hlr]; exact hown3
      · simp [Value.ownBlock] at hg ⊢
        omega
    · obtain rfl : k = ds.length := by omega
      rw [List.take_length] at hu hr ⊢
      rw [← Hll.out]
      obtain ⟨au, cu, rfl, hcu, hou, hiu⟩ := hu.row
      obtain ⟨ar, cr, rfl, hcr, hor, hir⟩ := hr.row
      rw [quoL_len] at hcu ⊢
      rw [rstL_len] at hcr ⊢
      have hn0 : 0 < ds.length := by have := Hlf.out.1; have := Hlf.out.2; have := Hlen.out; omega
      have hqn : quoL ds all ≠ [] := fun h => by have := congrArg List.length h; rw [quoL_len, List.length_nil] at this; omega
      have hrn : rstL ds all ≠ [] := fun h => by have := congrArg List.length h; rw [rstL_len, List.length_nil] at this; omega
      obtain ⟨g, rfl, hgl, hgi, hgr2⟩ := hou hqn
      have hby := byRest_any (.slice ar (rstL ds all).length cr) (rstL ds all) wr (hor.ints (by rw [rstL_len]; exact hcr)) (by rw [rstL_len]; omega) Hr0.out
      rw [rstL_len] at hby
      rw [quoL_len] at hgr2
      have Hby := Lib.hid hby
      have Hgi := Lib.hid hgi
      have Hgr := Lib.hid hgr2
      have HB := Lib.hid hbel
      have Hgw := Lib.hid (hiu g ⟨0, rfl⟩).1
      have hsz := hbel.size
      have hcu9 := hcu
      have hlf9 : lf ≤ ds.length := by rw [Hlen.out]; exact hlf3
      clear hby hgi hgr2 hbel hou hor hiu hir hu hr hne hgu hgr hcu hcr hk hlt
      have hlf0 : (lf : Int) ≤ (ds.length : Int) := by omega
      go_wp2_with fail
      refine Hby.out.mono ?_
      rintro e w4 ⟨ao, co, rfl, hco, hob, hb4⟩
      obtain ⟨b4, rfl, h4g, h4l, hi4⟩ := hob hrn
      rw [rstL_len] at hco ⊢
      have hgi4 := Hgi.out.below hb4 hgl
      have hgr4 := Hgr.out.below hb4 hgl
      have Hi4 := Lib.hid hi4
      have HB4 := Lib.hid (HB.out.trans (hb4.mono HB.out.size))
      have Hgi4 := Lib.hid hgi4
      have Hgr4 := Lib.hid hgr4
      have hlc : lf ≤ co := by omega
      have hlc2 : (lf : Int) ≤ (co : Int) := by omega
      have hs4 := hb4.size
      clear hi4 hgi4 hgr4 hob hb4
      go_wp2
      go_loopw [52] (fun i wq => GvRel ds all lf g b4 w1 i wq) (fun i _ => lf - (intOf i).toNat)
      case atStart => exact ⟨0, Nat.zero_le _, rfl, Hgi4.out, Hgr4.out, Hi4.out, HB4.out⟩
      case round =>
        obtain ⟨k, hk, rfl, h1, h2, h3, h4⟩ := hrel
        by_cases hlt : k < lf
        · have hko : k < (orderR (rstL ds all)).length := by rw [orderR_length, rstL_len]; omega
          have hq9 : (orderR (rstL ds all))[k] < ds.length := by
            have := orderR_mem.1 (List.getElem_mem hko)
            rwa [rstL_len] at this
          have co0 := h3 k (by rw [List.length_map]; exact hko)
          rw [Nat.zero_add, show ((orderR (rstL ds all)).map fun (i : Nat) => (i : Int)).getD k 0 = (((orderR (rstL ds all))[k] : Nat) : Int) by simp [List.getD, hko]] at co0
          have hst : giveP ((orderR (rstL ds all)).take (k + 1)) (quoL ds all) = (giveP ((orderR (rstL ds all)).take k) (quoL ds all)).set (orderR (rstL ds all))[k] ((giveP ((orderR (rstL ds all)).take k) (quoL ds all)).getD (orderR (rstL ds all))[k] 0 + 1) := by
            rw [List.take_succ_eq_append_getElem hko, giveP_snoc]
          generalize (orderR (rstL ds all))[k] = q at *
          have hgl2 := giveP_len ((orderR (rstL ds all)).take k) (quoL ds all)
          rw [quoL_len] at hgl2
          have hc := h1 q (by rw [hgl2]; exact hq9)
          rw [Nat.zero_add] at hc
          have hbd := giveP_bd ((orderR (rstL ds all)).take k) (quoL ds all) 1188000000 Hq0.out q
          have htl : ((orderR (rstL ds all)).take k).length ≤ 6 := by rw [List.length_take]; omega
          have hfz := h2.2 q
          generalize (giveP ((orderR (rstL ds all)).take k) (quoL ds all)).getD q 0 = c at *
          have hbd1 : 0 ≤ c ∧ c ≤ 1188000006 := by omega
          have H1 := Lib.hid h1
          have H2 := Lib.hid h2
          have H3 := Lib.hid h3
          have H4 := Lib.hid h4
          have Hst := Lib.hid hst
          have Hgl2 := Lib.hid hgl2
          have hqi : (q : Int) < (ds.length : Int) := by omega
          have hki : (k : Int) < (lf : Int) := by omega
          have Hw := Hgw.out
          have hne4 : b4 ≠ g := by omega
          clear h1 h2 h3 h4 hst hgl2 hbd htl hko
          go_wp2
          have hset := IntAt.setQ H1.out (v := c + 1) (show q < _ by rw [Hgl2.out]; exact hq9)
          refine ⟨⟨k + 1, hlt, by go_num, by rw [Hst.out]; exact hset, H2.out.setCell _ _, fun i hi => ?_, H4.out.setCell (p := ⟨g, q, none⟩) Hw _⟩, by simp [intOf]; omega⟩
          rw [World.cell?_setCell_other _ _ _ _ (by intro e; injection e with e; exact hne4 e.symm)]
          exact H3.out i hi
        · obtain rfl : k = lf := by omega
          rw [← Hss.out] at h1
          have H1 := Lib.hid h1
          have H2 := Lib.hid h2
          have H4 := Lib.hid h4
          have hol : out.length = ds.length := by rw [Hss.out, giveP_len, quoL_len]
          have Hol := Lib.hid hol
          have Hcu := Lib.hid hcu9
          clear h1 h2 h3 h4 hol
          go_wp2
          go_ret
          refine ⟨some ⟨g, 0, none⟩, cu, by rw [Hol.out]; rfl, by rw [Hol.out]; exact Hcu.out, fun _ => ⟨g, rfl, ?_, H1.out, by rw [Hol.out]; exact H2.out⟩, fun j hj => ?_, Hb1.out.trans (H4.out.mono hs1)⟩
          · have := World.block_lt_of_cell? _ _ (H1.out 0 (by rw [Hol.out]; exact hn0)); exact this
          · obtain ⟨o, ho⟩ := hj
            cases ho
            have := Hgw.out
            refine ⟨by omega, ?_⟩
            have := World.block_lt_of_cell? _ _ (H1.out 0 (by rw [Hol.out]; exact hn0)); exact this

end Go.Proofs.Ythdkjjfnockldaa
