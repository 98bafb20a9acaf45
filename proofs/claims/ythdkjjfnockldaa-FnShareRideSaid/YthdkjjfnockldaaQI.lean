/- byRest: the indexes of rests, the greatest first, by the library's insertion sort. -/
import Derived.Shelf.SlSortCmp.Insertion
import Derived.Test.YthdkjjfnockldaaQH
import Derived.Test.YthdkjjfnockldaaIZ
import Derived.Test.YthdkjjfnockldaaQW
import Derived.Deep.RegionHeld3
import Derived.Deep.RegionWith
namespace Go.Proofs
open Go.Shelf
def Try.insnR_ren : Go.Shelf.Ren := ⟨fun | 20 => 85 | n => n, fun | 22 => 25 | 24 => 3 | 3 => 3 | 0 => 0 | 4 => 4 | 25 => 85 | n => n, fun | n => n⟩
theorem Try.insnR : Go.Proofs.SlLaysF.n20 Try.prog Try.insnR_ren := {
  mixed := by kernel_rfl
  f20 := ⟨ "slices.insertionSortCmpFunc[int]", by decide, Try.func85.trans (congrArg some (by kernel_rfl))⟩
  t0 := Try.underlying0
  a0 := Try.isAgg0
  z0 := Try.sizeOf0
  v0 := Try.zeroValue0
  t3 := Try.underlying3
  a3 := Try.isAgg3
  z3 := Try.sizeOf3
  v3 := Try.zeroValue3
  t4 := Try.underlying4
  a4 := Try.isAgg4
  z4 := Try.sizeOf4
  v4 := Try.zeroValue4
  t22 := Try.underlying25
  a22 := Try.isAgg25
  z22 := Try.sizeOf25
  v22 := Try.zeroValue25
  a24 := Try.isAgg3
  z24 := Try.sizeOf3
  t25 := Try.underlying85
  a25 := Try.isAgg85
  z25 := Try.sizeOf85
  v25 := Try.zeroValue85 }
end Go.Proofs
namespace Go.Proofs.Ythdkjjfnockldaa
open Go.RowKit Go.Sort

def negR (rs : List Int) : List Rd := rs.map fun r => (⟨0, 0, -r⟩ : Rd)

theorem cfR_at (l : List Int) (m : Nat) (x y : Fin (m + 1)) : cfM (negR l) m x y = l.getD y.val 0 - l.getD x.val 0 := by
  unfold cfM negR
  rw [negR_at, negR_at]
  omega

set_option maxHeartbeats 400000 in
/-- The comparison: a closure over the list. -/
theorem cmpR_any (ad : Option Addr) (cap B i j : Nat) (l : List Int) (w : World) (hB : w.cell? ⟨B, 0, none⟩ = some (.slice ad l.length cap)) (hv : IntsIn w (.slice ad l.length cap) l) (hi : i < l.length) (hj : j < l.length) (hl : l.length ≤ 16)
    (hf : ∀ i, 0 ≤ l.getD i 0 ∧ l.getD i 0 ≤ 1000000) :
    Calls Try.prog 83 #[.int .i64 i, .int .i64 j, .pointer (some ⟨B, 0, none⟩)] w (Quiet (.int .i64 (l.getD j 0 - l.getD i 0)) w) := by
  obtain ⟨a, cap', hv, hcap, ha⟩ := hv
  injection hv with h1 h2 h3
  subst h1 h3
  obtain ⟨b, o, rfl, hb0, hrw⟩ := ha (by intro h; simp [h] at hi)
  have c0 := hrw i hi
  have d0 := hrw j hj
  have f1 := hf i
  have g1 := hf j
  clear ha hcap hrw hf
  generalize l.getD i 0 = x at *
  generalize l.getD j 0 = y at *
  have hi' : (i : Int) < (l.length : Int) := by omega
  have hj' : (j : Int) < (l.length : Int) := by omega
  have hs : IntKind.i64.wrap (y - x) = y - x := IntWalk.i64_in _ (by omega)
  have hs2 : wrap64 (y - x) = y - x := by unfold wrap64; omega
  go_enter Try.func83, Try.ntmps83
  go_wp2
  go_region
  go_wp2
  go_ret
  exact ⟨rfl, 1, rfl⟩

set_option maxRecDepth 100000 in
set_option maxHeartbeats 600000 in
/-- The stable sort of at most twenty is the insertion sort. -/
theorem stableR_any (sl fv : Value) (ad : Option Addr) (n cap : Nat) (w : World) (R : World → Prop) (hsl : sl = .slice ad n cap) (hn : n < 20)
    (hI : Calls Try.prog 85 #[sl, .int .i64 0, .int .i64 n, fv] w fun e w' => e = .returned (.tuple #[]) ∧ R w') :
    Calls Try.prog 84 #[sl, .int .i64 n, fv] w fun e w' => e = .returned (.tuple #[]) ∧ R w' := by
  have HI := Lib.hid hI; clear hI
  have h20 : ¬ ((20 : Int) ≤ (n : Int)) := by omega
  have h21 : ¬ ((20 : Int) < (n : Int)) := by omega
  subst hsl
  go_enter Try.func84, Try.ntmps84
  go_wp2
  refine wp_loop_rounds 1 ?_
  rw [rounds_succ]
  go_wp2_with fail
  refine HI.out.mono ?_
  rintro e w' ⟨rfl, hR⟩
  have HR := Lib.hid hR; clear hR
  go_wp2
  refine wp_loop_rounds 1 ?_
  rw [rounds_succ]
  go_wp2
  go_end0
  exact ⟨rfl, HR.out⟩

set_option maxHeartbeats 400000 in
theorem sortStableR_any (fv : Value) (ad : Option Addr) (n cap : Nat) (w : World) (R : World → Prop) (hn : n < 20)
    (hI : Calls Try.prog 85 #[.slice ad n cap, .int .i64 0, .int .i64 n, fv] w fun e w' => e = .returned (.tuple #[]) ∧ R w') :
    Calls Try.prog 82 #[.slice ad n cap, fv] w fun e w' => e = .returned (.tuple #[]) ∧ R w' := by
  have HI := Lib.hid (stableR_any _ fv ad n cap w R rfl hn hI); clear hI
  go_enter Try.func82, Try.ntmps82
  go_wp2_with fail
  refine HI.out.mono ?_
  rintro e w' ⟨rfl, hR⟩
  have HR := Lib.hid hR; clear hR
  go_wp2
  go_end0
  exact ⟨rfl, HR.out⟩

set_option maxHeartbeats 400000 in
theorem insertR_none (sl fv : Value) (ad : Option Addr) (cap : Nat) (w : World) (hsl : sl = .slice ad 0 cap) :
    Calls Try.prog 85 #[sl, .int .i64 0, .int .i64 (0 : Nat), fv] w fun e w' => e = .returned (.tuple #[]) ∧ w' = w := by
  subst hsl
  go_enter Try.func85, Try.ntmps85
  go_wp2
  refine wp_loop_rounds 1 ?_
  rw [rounds_succ]
  go_wp2
  go_end0
  exact ⟨rfl, rfl⟩

def encR6 (m : Nat) (x : Fin (m + 1)) : Value := .int .i64 ((x.val : Nat) : Int)

theorem putRowR_block {α : Type} [Inhabited α] (enc : α → Value) (w : World) {b j : Nat} (d : Array α) (h : j ≠ b) : (putRow enc w b 0 d).heap[j]? = w.heap[j]? := by
  simp [putRow, mapBlock, Array.getElem?_modify, Ne.symm h]

theorem sortWorldR_block {α : Type} [Inhabited α] (enc : α → Value) (w : World) {b m j : Nat} {d : Array α} {os : Array Obj} (h : j ≠ b) (hj : j < w.heap.size) : (sortWorld enc w b 0 m d os).heap[j]? = w.heap[j]? := by
  unfold sortWorld
  rw [heap_grow_old _ _ (by simpa using hj)]
  exact putRowR_block enc _ _ h

/-- The numbers of the bookings, sorted. -/
theorem insertR_any (ad : Option Addr) (cap cap' B b m : Nat) (l : List Int) (w : World) (hm : l.length = m + 1) (hB : w.cell? ⟨B, 0, none⟩ = some (.slice ad l.length cap)) (hv : IntsIn w (.slice ad l.length cap) l) (hl : l.length ≤ 16)
    (hf : ∀ i, 0 ≤ l.getD i 0 ∧ l.getD i 0 ≤ 1000000) (hBb : B ≠ b) (hbl : b < w.heap.size) (hvb : ∀ j, inBlk ad j → j ≠ b)
    (hH : IntAt w b 0 ((List.range l.length).map fun (i : Nat) => (i : Int))) (hfz : ∀ o, w.frozen? ⟨b, o, none⟩ = false) :
    Calls Try.prog 85 #[.slice (some ⟨b, 0, none⟩) l.length cap', .int .i64 0, .int .i64 l.length, .func (.func 83) #[] #[.pointer (some ⟨B, 0, none⟩)]] w fun e w' =>
      e = .returned (.tuple #[]) ∧ (IntAt w' b 0 ((orderR l).map fun (i : Nat) => (i : Int)) ∧ Touch (fun j => j = b) w w') := by
  have hBl := World.block_lt_of_cell? _ _ hB
  have hlt : ∀ x : Fin (m + 1), x.val < l.length := fun x => by have := x.isLt; omega
  have hcmp : CmpReads Try.prog 83 #[.pointer (some ⟨B, 0, none⟩)] (encR6 m) (cfM (negR l) m) b 0 (Array.ofFn (n := m + 1) id).size w := by
    intro n os dk _ x y
    have hblk : ∀ j, j ≠ b → j < w.heap.size → (sortWorld (encR6 m) w b 0 n dk os).heap[j]? = w.heap[j]? := fun j h1 h2 => sortWorldR_block _ _ h1 h2
    have hsz : w.heap.size ≤ (sortWorld (encR6 m) w b 0 n dk os).heap.size := by unfold sortWorld; simp [Sort.ahead]
    rw [cfR_at]
    refine cmpR_any ad cap B x.val y.val l _ ?_ ?_ (hlt x) (hlt y) hl hf
    · rw [World.cell?_of_block (a := ⟨B, 0, none⟩) (hblk B hBb hBl)]; exact hB
    · obtain ⟨a, c, e, hc, ha⟩ := hv
      injection e with e1 e2 e3
      subst e1 e3
      refine ⟨_, _, rfl, hc, fun hne => ?_⟩
      obtain ⟨b2, o2, e, hb2, hrw⟩ := ha hne
      exact ⟨b2, o2, e, Nat.lt_of_lt_of_le hb2 hsz, fun i hi => (World.cell?_of_block (a := ⟨b2, o2 + i, none⟩) (hblk b2 (hvb b2 ⟨o2, e⟩) hb2)).trans (hrw i hi)⟩
  have hH' : Holds (encR6 m) w b 0 (Array.ofFn (n := m + 1) id) := fun j hj => by
    have hj' : j < m + 1 := by simpa using hj
    refine ⟨?_, hfz _⟩
    rw [hH j (by simp; omega), getElem!_pos _ j hj]
    simp [List.getD, encR6, hm, hj']
  have hc := Any.insertionSortCmpFunc_one Try.insnR (encR6 m) (fun _ => rfl) (cfM (negR l) m) 83 #[.pointer (some ⟨B, 0, none⟩)] b 0 cap' 0 (m + 1) (Array.ofFn (n := m + 1) id) w
    (enters_of Try.func83 (by kernel_rfl) rfl) hcmp ?_ (Nat.zero_le _) (by simp) (by simp; omega)
  · rw [hm]
    have hsize : (Array.ofFn (n := m + 1) id).size = m + 1 := by simp
    rw [hsize] at hc
    refine Calls.mono hc fun e w' h => ?_
    obtain ⟨he, n, rfl⟩ := h
    have ho : _ = orderR l := sort_order (show (negR l).length = m + 1 by unfold negR; rw [List.length_map]; exact hm) (insertionSort (ltM (negR l) m) (Array.ofFn (n := m + 1) id) 0 (m + 1)) rfl
    have hds : (insertionSort (ltM (negR l) m) (Array.ofFn (n := m + 1) id) 0 (m + 1)).size = m + 1 := (sort_list (ltM_swo (negR l) m) _ rfl).1
    have hP := holds_putRow (encR6 m) w b 0 _ (insertionSort (ltM (negR l) m) (Array.ofFn (n := m + 1) id) 0 (m + 1)) hH' (by rw [hds, hsize])
    refine ⟨he, fun i hi => ?_, ⟨rfl, rfl, rfl, by simp [World.drewN], fun j hj hne => putRowR_block _ _ _ hne⟩⟩
    rw [← ho] at hi ⊢
    simp only [List.length_map, Array.length_toList, hds] at hi
    have h1 := (hP i (by rw [hds]; exact hi)).1
    refine Eq.trans h1 ?_
    rw [getElem!_pos _ i (by rw [hds]; exact hi)]
    simp [List.getD, encR6, hds, hi]
  · exact hH'

/-- What byRest gives. -/
def OrdR (l : List Int) (w : World) (e : Ending) (w' : World) : Prop :=
  ∃ (ad : Option Addr) (cap : Nat), e = .returned (.slice ad l.length cap) ∧ l.length ≤ cap ∧ (l ≠ [] → ∃ b, ad = some ⟨b, 0, none⟩ ∧ w.heap.size ≤ b ∧ b < w'.heap.size ∧ IntAt w' b 0 ((orderR l).map fun (i : Nat) => (i : Int))) ∧ Below w.heap.size w w'

def FrR (v : Value) (l : List Int) (w : World) (u i : Value) (wr : World) : Prop :=
  ∃ k : Nat, k ≤ l.length ∧ i = .int .i64 k ∧ RowI wr (w.heap.size + 1) u ((List.range k).map fun (i : Nat) => (i : Int)) ∧ Below (w.heap.size + 1) (w.alloc (.cells #[v] 25)) wr

theorem Below.of_allocR {w wr : World} {o : Obj} (h : Below (w.heap.size + 1) (w.alloc o) wr) : Below w.heap.size w wr :=
  ((Below.refl w.heap.size w).alloc (Nat.le_refl _) o).trans (h.mono (by omega))

set_option maxRecDepth 100000 in
set_option maxHeartbeats 1000000 in
theorem byRest_any (v : Value) (l : List Int) (w : World) (hv : IntsIn w v l) (hl : l.length ≤ 16) (hf : ∀ i, 0 ≤ l.getD i 0 ∧ l.getD i 0 ≤ 1000000) :
    Calls Try.prog 79 #[v] w (OrdR l w) := by
  obtain ⟨i0, hi, hz0, hz1, hz2⟩ := info_parts Try.info3
  have Hv := Lib.hid hv
  have hvl : ∀ ad cap, v = .slice ad l.length cap → ∀ j, inBlk ad j → l ≠ [] → j < w.heap.size := fun ad cap e j hj hne => by
    obtain ⟨a, c, e', _, ha⟩ := hv
    rw [e] at e'; injection e' with e1 e2 e3; subst e1
    obtain ⟨b2, o2, e3, hb2, _⟩ := ha hne
    obtain ⟨o, ho⟩ := hj
    rw [ho] at e3; injection e3 with e3; injection e3 with e3; rw [e3]; exact hb2
  have Hvl := Lib.hid hvl; clear hvl
  have Hf := Lib.hid hf; clear hf
  obtain ⟨ad, cap, rfl, hcap, ha⟩ := hv
  clear hcap ha
  go_enter Try.func79, Try.ntmps79
  go_wp2
  go_loopw [3, 8] (fun u i wr => FrR (.slice ad l.length cap) l w u i wr) (fun _ i _ => l.length - (intOf i).toNat)
  case atStart =>
    have e : (w.alloc (.cells #[.slice ad l.length cap] 25)).heap.size = w.heap.size + 1 := by simp
    refine ⟨0, Nat.zero_le _, rfl, ?_, ?_⟩
    · have h := RowI.made (w.alloc (.cells #[.slice ad l.length cap] 25)) (w.heap.size + 1) (by simp)
      rw [e] at h
      exact h
    · exact (Below.refl _ _).alloc (by simp) _
  case round =>
    obtain ⟨k, hk, rfl, hrow, hbel⟩ := hrel
    by_cases hlt : k < l.length
    · have hlt' : (k : Int) < (l.length : Int) := by omega
      have hlen : ((List.range k).map fun (i : Nat) => (i : Int)).length = k := by simp
      have hown := hrow
      unfold RowI at hown
      rw [hlen] at hown
      have hsz := hbel.size
      simp only [World.size_alloc] at hsz
      have HB := Lib.hid hbel; clear hbel
      clear hrow hlen
      generalize hys : (List.range k).map (fun (i : Nat) => (i : Int)) = ys at hown
      have Hys := Lib.hid hys; clear hys
      go_wp2_with (at_builtin; refine wpList_append_own _ rfl _ _ 25 rfl (w.heap.size + 1) 3 i0 (.int .i64 0) 1 8 Try.underlying25 hi hz0 hz1 hz2 rfl (by decide) _ _ _ rfl (hown.alloc _) ⟨wr.heap.size, 0, none⟩ 1 1 [.int .i64 k] rfl rfl (cell_one_new _ _ _) (by simp [Value.oneCell']) (by simp only [maxLen]; omega) (by omega) (by simp; omega) ?_; intro v' w8 hown8 hgrow _)
      have HB8 := Lib.hid ((HB.out.alloc (by omega) (.cells #[.int .i64 k] 3)).grown hgrow (by simp; omega) (fun j hj => (hown.lt j hj).1))
      have Hown8 := Lib.hid (show RowI w8 (w.heap.size + 1) v' ((List.range (k + 1)).map fun (i : Nat) => (i : Int)) by
        rw [List.range_succ, List.map_append]
        refine RowI.snoc ?_
        rw [Hys.out, ← Hys.out, List.length_map, List.length_range, Hys.out]
        exact hown8)
      clear hown8 hgrow hown
      go_wp2
      exact ⟨⟨k + 1, hlt, by go_num, Hown8.out, HB8.out⟩, by simp [intOf]; omega⟩
    · obtain rfl : k = l.length := by omega
      obtain ⟨ad2, cap2, rfl, hc2, ho2, hin2⟩ := hrow.row
      simp only [List.length_map, List.length_range] at hc2
      have e2 : ((List.range l.length).map fun (i : Nat) => (i : Int)).length = l.length := by simp
      rw [e2]
      have hB : wr.cell? ⟨w.heap.size, 0, none⟩ = some (.slice ad l.length cap) := by
        rw [hbel.cell (p := ⟨w.heap.size, 0, none⟩) (by simp)]
        exact cell_one_new w _ _ 0 _ rfl
      have hb1 := Below.of_allocR hbel
      have hv1 := Hv.out.below hb1
      have Hb1 := Lib.hid hb1; clear hb1
      have Hc2 := Lib.hid hc2
      clear hbel hrow hc2 e2
      rcases Nat.eq_zero_or_pos l.length with hm | hm
      · have HS := Lib.hid (sortStableR_any (.func (.func 83) #[] #[.pointer (some ⟨w.heap.size, 0, none⟩)]) ad2 l.length cap2 wr (fun w' => w' = wr) (by omega) (by rw [hm]; exact insertR_none _ _ ad2 cap2 wr rfl))
        have Hm := Lib.hid hm
        clear ho2 hin2 hB hv1 hm
        go_wp2_with fail
        refine HS.out.mono ?_; rintro e w' ⟨rfl, rfl⟩
        go_wp2
        go_ret
        exact ⟨ad2, cap2, rfl, Hc2.out, fun h => absurd (List.eq_nil_of_length_eq_zero Hm.out) h, Hb1.out⟩
      · have hne : l ≠ [] := fun h => by simp [h] at hm
        obtain ⟨b, rfl, hbl, hia, hro⟩ := ho2 (by simpa using hne)
        have hbB := (hin2 b ⟨0, rfl⟩).1
        have hS := sortStableR_any (.func (.func 83) #[] #[.pointer (some ⟨w.heap.size, 0, none⟩)]) (some ⟨b, 0, none⟩) l.length cap2 wr _ (by omega)
          (insertR_any ad cap cap2 w.heap.size b (l.length - 1) l wr (by omega) hB hv1 hl Hf.out (by omega) hbl (fun j hj => by have := Hvl.out ad cap rfl j hj hne; omega) hia hro.2)
        have HS := Lib.hid hS
        have Hne := Lib.hid hne
        clear hS ho2 hin2 hB hv1 hm hia hro hne
        go_wp2_with fail
        refine HS.out.mono ?_; rintro e w' ⟨rfl, hia', ht⟩
        have Hia := Lib.hid hia'
        have Ht := Lib.hid ht
        clear hia' ht
        go_wp2
        go_ret
        exact ⟨_, cap2, rfl, Hc2.out, fun _ => ⟨b, rfl, by omega, Nat.lt_of_lt_of_le hbl Ht.out.size, Hia.out⟩, Hb1.out.trans (Ht.out.below (fun j hj => by omega) Hb1.out.size)⟩

end Go.Proofs.Ythdkjjfnockldaa
