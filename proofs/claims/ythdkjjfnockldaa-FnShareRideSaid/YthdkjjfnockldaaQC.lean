/- workedOf: how many of the miles that come each proprietor works. -/
import Derived.Test.YthdkjjfnockldaaQB
import Derived.Test.YthdkjjfnockldaaIO
import Derived.Laws.OwnMore
namespace Go.Proofs.Ythdkjjfnockldaa
open Go.RowKit Go.Shelf
attribute [local go_sem] Oper.semAt_some

theorem IntAt.zeros6 (w : World) (t : TypeId) : IntAt (w.alloc (.cells (madeCells #[.int .i64 0] 6) t)) w.heap.size 0 [0, 0, 0, 0, 0, 0] := by
  intro i hi
  rw [Nat.zero_add, cell_of_row _ _ _ _ t (0, 0) (heap_alloc_new w _)]
  simp only [List.length_cons, List.length_nil] at hi
  rw [← Array.getElem?_toList, toList_madeCells_one, List.getElem?_replicate, if_pos (by omega)]
  rcases i with _ | _ | _ | _ | _ | _ | i <;> first | rfl | omega

theorem IntAt.set {w : World} {b i : Nat} {l : List Int} {v : Int} (h : IntAt w b 0 l) (hi : i < l.length) : IntAt (w.setCell ⟨b, i, none⟩ (.int .i64 v)) b 0 (l.set i v) := by
  intro j hj
  rw [List.length_set] at hj
  have hi' := h i hi
  rw [Nat.zero_add] at hi' ⊢
  by_cases e : j = i
  · subst e
    rw [World.cell?_setCell_same _ _ _ hi']
    simp [List.getD, hi]
  · rw [World.cell?_setCell_other _ _ _ _ (by intro q; injection q; omega)]
    have hj' := h j hj
    rw [Nat.zero_add] at hj'
    rw [hj']
    simp [List.getD, List.getElem?_set, Ne.symm e]

/-- The row of six at n, its box behind it. -/
def WoI (own : Nat → Int) (w : World) (T : Nat → Prop) (pre : List Nat) (W : World) : Prop :=
  Boxed W (w.heap.size + 1) 25 (.slice (some ⟨w.heap.size, 0, none⟩) 6 6) ∧ IntAt W w.heap.size 0 (cnt6 (pre.map own)) ∧ Room W w.heap.size 6 ∧ (¬ T w.heap.size ∧ ¬ T (w.heap.size + 1)) ∧ Below w.heap.size w W ∧ w.heap.size + 2 ≤ W.heap.size

theorem WoI.abide (own : Nat → Int) (w : World) : Abide (w.heap.size + 2) (WoI own w) := fun T T' s W W' ⟨h1, h2, h3, h4, h5, h6⟩ ht hT => by
  have e0 := ht.block w.heap.size (by omega) (fun e => by omega)
  have e1 := ht.block (w.heap.size + 1) (by omega) (fun e => by omega)
  refine ⟨e1.trans h1, fun i hi => (World.cell?_of_block (a := ⟨w.heap.size, 0 + i, none⟩) e0).trans (h2 i hi), ⟨fun j hj => ?_, fun o => (World.frozen?_of_block (a := ⟨w.heap.size, o, none⟩) e0).trans (h3.2 o)⟩,
    ⟨fun h => (hT _ h).elim h4.1 (fun h => by omega), fun h => (hT _ h).elim h4.2 (fun h => by omega)⟩, h5.trans (ht.below (fun j hj => by omega) (by omega)), Nat.le_trans h6 ht.size⟩
  obtain ⟨u, hu⟩ := h3.1 j hj
  exact ⟨u, (World.cell?_of_block (a := ⟨w.heap.size, j, none⟩) e0).trans hu⟩

set_option maxRecDepth 100000 in
set_option maxHeartbeats 2000000 in
theorem worked_any (own : Nat → Int) (hown : ∀ k, 0 ≤ own k ∧ own k ≤ 5) (gf : Nat) (lb : Array Value) (T₀ : Nat → Prop) (xs : List Nat) (w : World) (eg : ∀ args w, (callFunc gf args).run Try.prog w = .ok (.enter gf args) w)
    (hseq : Comes Try.prog gf lb (encO own) T₀ xs w) (hT₀ : ∀ j, T₀ j → j < w.heap.size) (hlen : xs.length ≤ 1188) :
    Calls Try.prog 50 #[.func (.func gf) #[] lb] w (IntsOne (cnt6 (xs.map own)) w) := by
  obtain ⟨i0, hi, hz0, hz1, hz2⟩ := info_parts Try.info3
  have hmk : ∀ W, (Instr.makeSlice 25 (.int .i64 6) (.int .i64 6)).run Try.prog W = .ok (.slice (some ⟨W.heap.size, 0, none⟩) 6 6) (W.alloc (.cells (madeCells #[.int .i64 0] (6 * i0.size)) 3)) := fun W =>
    run_make_rowN (P := Try.prog) 25 3 i0 _ Try.underlying25 hi hz0 .i64 .i64 6 6 (Nat.le_refl _) (by rw [hz2]; omega) (by omega) W
  have Hs := Lib.hid hseq
  have HT := Lib.hid hT₀
  have Ho := Lib.hid hown
  clear hseq hT₀ hown
  refine (callsIn_wide (n := 10)).1 ?_
  refine callsIn_of_wp_marks Try.func50 rfl trivial ?_ rfl
  simp only [Try.ntmps50, List.size_toArray, List.length_cons, List.length_nil, Nat.reduceAdd, Nat.reduceSub, Array.replicate_succ, Array.replicate_zero, List.push_toArray, List.append_toArray, List.nil_append, List.cons_append]
  gi_wp2
  obtain ⟨W0, hW0⟩ : ∃ W0, W0 = (w.alloc (.cells (madeCells #[.int .i64 0] 6) 3)).alloc (.cells #[.slice (some ⟨w.heap.size, 0, none⟩) 6 6] 25) := ⟨_, rfl⟩
  rw [← hW0]
  have hB0 : Below w.heap.size w W0 := by rw [hW0]; exact ((Below.refl _ w).alloc (Nat.le_refl _) _).alloc (by simp) _
  have hs0 : W0.heap.size = w.heap.size + 2 := by rw [hW0]; simp
  have hI0 : WoI own w T₀ [] W0 := by
    refine ⟨?_, ?_, ?_, ⟨fun h => by have := HT.out _ h; omega, fun h => by have := HT.out _ h; omega⟩, hB0, by omega⟩
    · have := Boxed.new (w.alloc (.cells (madeCells #[.int .i64 0] 6) 3)) 25 (.slice (some ⟨w.heap.size, 0, none⟩) 6 6)
      rw [World.size_alloc] at this
      rw [hW0]; exact this
    · rw [hW0]; exact (IntAt.zeros6 w 3).below ((Below.refl _ _).alloc (Nat.le_refl _) _) (by simp)
    · rw [hW0]; exact (Room.made w #[.int .i64 0] 6 3 (by simp)).below ((Below.refl _ _).alloc (Nat.le_refl _) _) (by simp)
  clear hW0
  refine rangeComes (gf := gf) (lb := lb) rfl eg Hs.out (fun j hj => by have := HT.out j hj; omega) hB0 (fun _ => rfl) (WoI own w) (fun _ _ _ _ => False) (by rw [hs0]; exact WoI.abide own w) (fun _ => Abide.never _) hI0
    (fun k => { tmps := #[.func (.func gf) #[] lb, undef, .slice none 0 0, .pointer (some ⟨w.heap.size + 1, 0, none⟩), undef, .int .i64 (own k), .slice (some ⟨w.heap.size, 0, none⟩) 6 6, .func (.func gf) #[] lb, .int .i64 (k : Nat), .int .i64 (own k), undef, undef, undef, undef, undef, undef, undef], defers := [] }) ?assign ?body ?done ?stop
  case assign =>
    intro l x W K hK
    simp only [encO]
    gi_wp2
    exact hK
  case body =>
    rintro l T pre x W hpre hsz hTl ⟨h1, h2, h3, h4, h5, h6⟩
    have hc := h1.cell
    obtain ⟨o0, o5⟩ := Ho.out x
    have hlen2 : pre.length < xs.length := by have := hpre.length_le; simp at this; omega
    have hbd := cnt6_bd (pre.map own) (own x).toNat
    rw [List.length_map] at hbd
    have h7 := h2 (own x).toNat (by rw [cnt6_len]; omega)
    rw [Nat.zero_add] at h7
    have hst := cnt6_snoc (pre.map own) (own x) o0 o5
    have hfz := h3.2 (own x).toNat
    generalize (cnt6 (pre.map own)).getD (own x).toNat 0 = c at *
    obtain ⟨m, hm⟩ : ∃ m : Nat, own x = m := ⟨(own x).toNat, by omega⟩
    rw [hm, Int.toNat_natCast] at hst h7 hfz
    rw [hm] at o5
    have hst' : cnt6 ((pre ++ [x]).map own) = (cnt6 (pre.map own)).set m (c + 1) := by rw [List.map_append, List.map_singleton, hm]; exact hst
    have hm6 : (m : Int) < 6 := by omega
    rw [hm]
    clear hst o0 hm
    have H1 := Lib.hid h1
    have H2 := Lib.hid h2
    have H3 := Lib.hid h3
    have H4 := Lib.hid h4
    have H5 := Lib.hid h5
    have Hst := Lib.hid hst'
    clear h1 h2 h3 h4 h5 hst' hTl hpre
    gi_wp2
    have hoth : Boxed (W.setCell ⟨w.heap.size, m, none⟩ (.int .i64 (c + 1))) (w.heap.size + 1) 25 (.slice (some ⟨w.heap.size, 0, none⟩) 6 6) := (Below.heap_setCell W ⟨w.heap.size, m, none⟩ _ _ (by simp)).trans H1.out
    have hidx : m < (cnt6 (pre.map own)).length := by rw [cnt6_len]; omega
    have hset := H2.out.set (v := c + 1) hidx
    change Keep T W _ ∧ WoI own w T _ _
    refine ⟨(Keep.refl T W).setCell (p := ⟨w.heap.size, m, none⟩) H4.out.1 _, hoth, ?_, H3.out.setCell _ _, H4.out, H5.out.setCell (p := ⟨w.heap.size, m, none⟩) (Nat.le_refl _) _, by rw [World.size_setCell]; exact h6⟩
    rw [Hst.out]
    exact hset
  case done =>
    rintro D T W hD hTD ⟨h1, h2, h3, h4, h5, h6⟩ hK
    have hc := h1.cell
    gi_wp2
    refine ⟨by simp, .inl ⟨_, _, rfl, run_takeDeferred hK, ?_⟩⟩
    have ht : Touch (fun j => w.heap.size + 2 ≤ j ∧ T j) W (W.putObj D (.deferred none)) := touch_putObj _ _ ⟨by omega, hTD⟩
    obtain ⟨k1, k2, k3, k4, k5, k6⟩ := (WoI.abide own w).own (s := xs) ⟨h1, h2, h3, h4, h5, h6⟩ ht
    refine ⟨_, results_tmp rfl _ _ _, some ⟨w.heap.size, 0, none⟩, 6, by rw [cnt6_len]; rfl, by rw [cnt6_len]; exact Nat.le_refl _, fun _ => ⟨w.heap.size, rfl, by omega, k2, by rw [cnt6_len]; exact k3⟩, fun j hj => ?_, k5⟩
    obtain ⟨o, ho⟩ := hj
    cases ho
    omega
  case stop =>
    rintro D c T pre W _ _ _ h _
    exact h.elim

end Go.Proofs.Ythdkjjfnockldaa
