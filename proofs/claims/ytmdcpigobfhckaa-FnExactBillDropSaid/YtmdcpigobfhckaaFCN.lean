/- BillDrop: parts of a list; of the program. -/
import Derived.Test.YtmdcpigobfhckaaFBI
import Derived.Test.YtmdcpigobfhckaaHD
namespace Go.Proofs.Ytmdcpigobfhckaa
open Go.RowKit

/-- Where list[f:] lies. -/
def tailA (b o cap f : Nat) : Addr := if cap = f then ⟨b, o, none⟩ else ⟨b, o + f * 3, none⟩
theorem tailA_block (b o cap f : Nat) : (tailA b o cap f).block = b := by unfold tailA; split <;> rfl

/-- The cells of a part of a list. -/
theorem FrIn.front {w : World} {b o cap : Nat} {l : List Fr} (h : FrIn w (.slice (some ⟨b, o, none⟩) l.length cap) l) (k : Nat) : ∀ j u, (encFr (l.take k))[j]? = some u → w.cell? ((⟨b, o, none⟩ : Addr).add j) = some u := by
  intro j u hj
  refine (h.news rfl).2 j u ?_
  have e : encFr l = encFr (l.take k) ++ encFr (l.drop k) := by rw [← encFr_append, List.take_append_drop]
  rw [e, List.getElem?_append]
  have hlt := (List.getElem?_eq_some_iff.1 hj).1
  rw [if_pos hlt]; exact hj
theorem FrIn.back {w : World} {b o cap : Nat} {l : List Fr} (h : FrIn w (.slice (some ⟨b, o, none⟩) l.length cap) l) (f : Nat) (hf : f ≤ l.length) : ∀ j u, (encFr (l.drop f))[j]? = some u → w.cell? ((tailA b o cap f).add j) = some u := by
  intro j u hj
  obtain ⟨a, c, he, hc, ha⟩ := h
  cases he
  by_cases hl : l.drop f = []
  · rw [hl] at hj; simp [encFr] at hj
  · have hlt : f < l.length := by
      rcases Nat.lt_or_ge f l.length with h | h
      · exact h
      · exact absurd (List.drop_eq_nil_of_le h) hl
    obtain ⟨b', o', he, hb, hr⟩ := ha (by rintro rfl; simp at hlt)
    cases he
    have ht : tailA b o cap f = ⟨b, o + f * 3, none⟩ := if_neg (by omega)
    have h1 := hr.news (f := f) (n := l.length - f) (by omega)
    rw [List.take_of_length_le (by simp)] at h1
    rw [ht]
    exact h1 j u hj
theorem FrIn.blk {w : World} {b o cap : Nat} {l : List Fr} (h : FrIn w (.slice (some ⟨b, o, none⟩) l.length cap) l) (hl : l ≠ []) : b < w.heap.size := (h.news rfl).1 hl

theorem cut_parts {W : World} {b o cap k : Nat} {l : List Fr} (hk : k < l.length) (hv : FrIn W (.slice (some ⟨b, o, none⟩) l.length cap) l) :
    Parts (W.alloc (.cells #[.slice (some ⟨b, o, none⟩) k cap, .slice (some (tailA b o cap (k + 1))) (l.length - (k + 1)) (cap - (k + 1))] 25)) W.heap.size
      (paF ⟨b, o, none⟩ (tailA b o cap (k + 1))) (pcF cap (cap - (k + 1))) (plF (l.take k) (l.drop (k + 1))) := by
  have hb2 : Below W.heap.size W (W.alloc (.cells #[.slice (some ⟨b, o, none⟩) k cap, .slice (some (tailA b o cap (k + 1))) (l.length - (k + 1)) (cap - (k + 1))] 25)) := (Below.refl _ _).alloc (Nat.le_refl _) _
  have hv2 := hv.below hb2
  have hne : l ≠ [] := by rintro rfl; simp at hk
  have hnew := heap_alloc_new W (.cells #[.slice (some ⟨b, o, none⟩) k cap, .slice (some (tailA b o cap (k + 1))) (l.length - (k + 1)) (cap - (k + 1))] 25)
  have hkl : min k l.length = k := by omega
  refine ⟨by simp, fun i hi => ?_, fun i hi hn => ?_, fun i hi => ?_⟩
  · rw [cell_of_row _ _ i _ _ _ hnew]
    rcases (by omega : i = 0 ∨ i = 1) with rfl | rfl
    · simp [paF, pcF, plF, hkl]
    · simp [paF, pcF, plF]
  · rcases (by omega : i = 0 ∨ i = 1) with rfl | rfl
    · exact hv2.blk hne
    · show (tailA b o cap (k + 1)).block < _; rw [tailA_block]; exact hv2.blk hne
  · rcases (by omega : i = 0 ∨ i = 1) with rfl | rfl
    · exact hv2.front k
    · exact hv2.back (k + 1) (by omega)

set_option maxRecDepth 100000 in
set_option maxHeartbeats 2000000 in
theorem cancel2_any (n : Int) (b o cap : Nat) (l : List Fr) (x : Int) (w : World) (hv : FrIn w (.slice (some ⟨b, o, none⟩) l.length cap) l) (hm : l.length ≤ 1048576) :
    Calls Try.prog 39 #[.int .i64 n, .slice (some ⟨b, o, none⟩) l.length cap, .int .i64 x] w (FrRow (cancelL n l x) (atOk n l x) w) := by
  have HV := Lib.hid (bill2_any n _ l w hv (by omega))
  have Hv := Lib.hid hv
  have hcap : l.length ≤ cap := by obtain ⟨a, c, he, hc, _⟩ := hv; cases he; exact hc
  clear hv
  cases hz : validF n l with
  | false =>
    have HOK := Lib.hid (show atOk n l x = false by unfold atOk; rw [hz]; rfl)
    rw [hz] at HV
    go_enter Try.func39, Try.ntmps39
    go_wp2_with fail
    refine HV.out.mono ?_; rintro e w1 ⟨rfl, hb1⟩
    have HB := Lib.hid hb1; clear hb1
    go_wp2
    go_ret2
    rw [cancelL_no HOK.out, HOK.out]
    exact FrRow.no HB.out.size HB.out
  | true =>
    rw [hz] at HV
    by_cases h0 : x < 0
    · have HOK := Lib.hid (show atOk n l x = false from Bool.eq_false_iff.2 fun h => by have := atOk_iff.1 h; omega)
      go_enter Try.func39, Try.ntmps39
      go_wp2_with fail
      refine HV.out.mono ?_; rintro e w1 ⟨rfl, hb1⟩
      have HB := Lib.hid hb1; clear hb1
      go_wp2
      go_ret2
      rw [cancelL_no HOK.out, HOK.out]
      exact FrRow.no HB.out.size HB.out
    · by_cases h1 : (l.length : Int) ≤ x
      · have HOK := Lib.hid (show atOk n l x = false from Bool.eq_false_iff.2 fun h => by have := atOk_iff.1 h; omega)
        go_enter Try.func39, Try.ntmps39
        go_wp2_with fail
        refine HV.out.mono ?_; rintro e w1 ⟨rfl, hb1⟩
        have HB := Lib.hid hb1; clear hb1
        go_wp2
        go_ret2
        rw [cancelL_no HOK.out, HOK.out]
        exact FrRow.no HB.out.size HB.out
      · obtain ⟨k, rfl⟩ : ∃ k : Nat, x = k := ⟨x.toNat, by omega⟩
        have hk : k < l.length := by omega
        have HOK := Lib.hid (show atOk n l (k : Int) = true from atOk_iff.2 ⟨hz, by omega, by omega⟩)
        have Hcl := Lib.hid (show cancelL n l (k : Int) = l.take k ++ l.drop (k + 1) by rw [cancelL_yes HOK.out]; rfl)
        have Hcat := Lib.hid (plF_cat (l.take k) (l.drop (k + 1)))
        have Hle := Lib.hid (show (l.take k ++ l.drop (k + 1)).length ≤ 1048577 by simp only [List.length_append, List.length_take, List.length_drop]; omega)
        clear hz h0 h1
        have hx0 : (0 : Int) ≤ (k : Int) := by omega
        have hx1 : (k : Int) < (l.length : Int) := by omega
        have hx2 : (k : Int) ≤ (cap : Int) := by omega
        have hx3 : (0 : Int) ≤ (k : Int) + 1 := by omega
        have hx4 : (k : Int) + 1 ≤ (l.length : Int) := by omega
        have hx5 : ((k : Int) + 1).toNat = k + 1 := by omega
        have hw1 : IntKind.i64.wrap ((k : Int) + 1) = (k : Int) + 1 := IntWalk.i64_in _ (by omega)
        have hw2 : wrap64 ((k : Int) + 1) = (k : Int) + 1 := by unfold wrap64; omega
        by_cases hck : cap = k + 1
        · subst hck
          have ht : tailA b o (k + 1) (k + 1) = ⟨b, o, none⟩ := if_pos rfl
          have HPt := Lib.hid (fun W (h : Below w.heap.size w W) => (cut_parts hk (Hv.out.below h)).below ((Below.refl _ _).drew))
          rw [ht] at HPt
          rw [show l.length - (k + 1) = 0 by omega, Nat.sub_self] at HPt
          clear ht
          go_enter Try.func39, Try.ntmps39
          go_wp2_with fail
          refine HV.out.mono ?_; rintro e w1 ⟨rfl, hb1⟩
          have HB := Lib.hid hb1; clear hb1
          go_wp2_with fail
          refine wp_region_any (by kernel_rfl) ?_
          change wpAny _ _ _ _ 11 #[false, false, false, false, false, false, false, false, false, false, false] _ (World.drew _)
          refine with_Q (fun _ _ _ _ _ h => h) (fun Q hQ hN => ?_)
          refine take_op (i := 0) (d := 23) (v := .slice (some ⟨b, o, none⟩) l.length (k + 1)) rfl rfl (by kernel_rfl) (by kernel_rfl) (by kernel_rfl) hQ (Or.inl ⟨by rfl, fun _ => by first | rfl | (go_simp; done) | (go_simp; rfl) | (go_simp; intro h; exfalso; omega)⟩) ?_
          simp only [Act.put, List.setIfInBounds_toArray, List.set_cons_zero, List.set_cons_succ]
          refine take_op (i := 1) (d := 24) (v := .int .i64 k) rfl rfl (by kernel_rfl) (by kernel_rfl) (by kernel_rfl) hQ (Or.inl ⟨by rfl, fun _ => by first | rfl | (go_simp; done) | (go_simp; rfl) | (go_simp; intro h; exfalso; omega)⟩) ?_
          simp only [Act.put, List.setIfInBounds_toArray, List.set_cons_zero, List.set_cons_succ]
          refine take_op (i := 2) (d := 25) (v := .slice (some ⟨b, o, none⟩) k (k + 1)) rfl rfl (by kernel_rfl) (by kernel_rfl) (by kernel_rfl) hQ (Or.inl ⟨by rfl, fun _ => by first | rfl | (go_simp; done) | (go_simp; rfl) | (go_simp; intro h; exfalso; omega)⟩) ?_
          simp only [Act.put, List.setIfInBounds_toArray, List.set_cons_zero, List.set_cons_succ]
          refine take_op (i := 3) (d := 26) (v := .slice (some ⟨b, o, none⟩) l.length (k + 1)) rfl rfl (by kernel_rfl) (by kernel_rfl) (by kernel_rfl) hQ (Or.inl ⟨by rfl, fun _ => by first | rfl | (go_simp; done) | (go_simp; rfl) | (go_simp; intro h; exfalso; omega)⟩) ?_
          simp only [Act.put, List.setIfInBounds_toArray, List.set_cons_zero, List.set_cons_succ]
          refine take_op (i := 4) (d := 27) (v := .int .i64 k) rfl rfl (by kernel_rfl) (by kernel_rfl) (by kernel_rfl) hQ (Or.inl ⟨by rfl, fun _ => by first | rfl | (go_simp; done) | (go_simp; rfl) | (go_simp; intro h; exfalso; omega)⟩) ?_
          simp only [Act.put, List.setIfInBounds_toArray, List.set_cons_zero, List.set_cons_succ]
          refine take_op (i := 5) (d := 28) (v := .int .i64 ((k : Int) + 1)) rfl rfl (by kernel_rfl) (by kernel_rfl) (by kernel_rfl) hQ (Or.inl ⟨by rfl, fun _ => by first | rfl | (go_simp; done) | (go_simp; rfl) | (go_simp; intro h; exfalso; omega)⟩) ?_
          simp only [Act.put, List.setIfInBounds_toArray, List.set_cons_zero, List.set_cons_succ]
          refine take_op (i := 6) (d := 29) (v := .slice (some ⟨b, o, none⟩) 0 0) rfl rfl (by kernel_rfl) (by kernel_rfl) (by kernel_rfl) hQ (Or.inl ⟨by rfl, fun _ => by first | rfl | (go_simp; done) | (go_simp; rfl) | (go_simp; intro h; exfalso; omega)⟩) ?_
          simp only [Act.put, List.setIfInBounds_toArray, List.set_cons_zero, List.set_cons_succ]
          refine wpAny_ready (rs := [7]) (by kernel_rfl) (by simp) ?_
          refine AllReady.cons rfl (fun K hK => ?_) AllReady.nil
          go_simp
          refine hK _ _ ?_
          try simp only [Act.put, List.setIfInBounds_toArray, List.set_cons_zero, List.set_cons_succ]
          clear hK K
          refine wpAny_ready (rs := [8]) (by kernel_rfl) (by simp) ?_
          refine AllReady.cons rfl (fun K hK => ?_) AllReady.nil
          go_simp
          go_at_call 77
          refine (concat_any _ _ _ _ _ (HPt.out _ HB.out) (by rw [Hcat.out]; exact Hle.out)).mono ?_; rintro e w2 ⟨v, rfl, hrow, hb2⟩
          refine hK _ _ ?_
          try simp only [Act.put, List.setIfInBounds_toArray, List.set_cons_zero, List.set_cons_succ]
          clear hK K
          refine take_op (i := 9) (d := 6) (v := v) rfl rfl (by kernel_rfl) (by kernel_rfl) (by kernel_rfl) hQ (Or.inl ⟨by rfl, fun _ => by first | rfl | (go_simp; done) | (go_simp; rfl) | (go_simp; intro h; exfalso; omega)⟩) ?_
          simp only [Act.put, List.setIfInBounds_toArray, List.set_cons_zero, List.set_cons_succ]
          refine take_op (i := 10) (d := 7) (v := .bool true) rfl rfl (by kernel_rfl) (by kernel_rfl) (by kernel_rfl) hQ (Or.inl ⟨by rfl, fun _ => by first | rfl | (go_simp; done) | (go_simp; rfl) | (go_simp; intro h; exfalso; omega)⟩) ?_
          simp only [Act.put, List.setIfInBounds_toArray, List.set_cons_zero, List.set_cons_succ]
          refine wpAny_done (by kernel_rfl) (hN _ _ ?_) _
          rw [Hcat.out] at hrow
          have HR := Lib.hid hrow
          have HB2 := Lib.hid ((HB.out.alloc HB.out.size _).drew.trans (hb2.mono (by have := HB.out.size; simp; omega)))
          have hs := HB.out.size
          clear hrow hb2
          go_wp2
          go_ret2
          rw [Hcl.out, HOK.out]
          exact ⟨_, rfl, HR.out.mono (by simp; omega), HB2.out⟩
        · have ht : tailA b o cap (k + 1) = ⟨b, o + (k + 1) * 3, none⟩ := if_neg hck
          have HPt := Lib.hid (fun W (h : Below w.heap.size w W) => (cut_parts hk (Hv.out.below h)).below ((Below.refl _ _).drew))
          rw [ht] at HPt
          clear ht
          go_enter Try.func39, Try.ntmps39
          go_wp2_with fail
          refine HV.out.mono ?_; rintro e w1 ⟨rfl, hb1⟩
          have HB := Lib.hid hb1; clear hb1
          go_wp2_with fail
          refine wp_region_any (by kernel_rfl) ?_
          change wpAny _ _ _ _ 11 #[false, false, false, false, false, false, false, false, false, false, false] _ (World.drew _)
          refine with_Q (fun _ _ _ _ _ h => h) (fun Q hQ hN => ?_)
          refine take_op (i := 0) (d := 23) (v := .slice (some ⟨b, o, none⟩) l.length cap) rfl rfl (by kernel_rfl) (by kernel_rfl) (by kernel_rfl) hQ (Or.inl ⟨by rfl, fun _ => by first | rfl | (go_simp; done) | (go_simp; rfl) | (go_simp; intro h; exfalso; omega)⟩) ?_
          simp only [Act.put, List.setIfInBounds_toArray, List.set_cons_zero, List.set_cons_succ]
          refine take_op (i := 1) (d := 24) (v := .int .i64 k) rfl rfl (by kernel_rfl) (by kernel_rfl) (by kernel_rfl) hQ (Or.inl ⟨by rfl, fun _ => by first | rfl | (go_simp; done) | (go_simp; rfl) | (go_simp; intro h; exfalso; omega)⟩) ?_
          simp only [Act.put, List.setIfInBounds_toArray, List.set_cons_zero, List.set_cons_succ]
          refine take_op (i := 2) (d := 25) (v := .slice (some ⟨b, o, none⟩) k cap) rfl rfl (by kernel_rfl) (by kernel_rfl) (by kernel_rfl) hQ (Or.inl ⟨by rfl, fun _ => by first | rfl | (go_simp; done) | (go_simp; rfl) | (go_simp; intro h; exfalso; omega)⟩) ?_
          simp only [Act.put, List.setIfInBounds_toArray, List.set_cons_zero, List.set_cons_succ]
          refine take_op (i := 3) (d := 26) (v := .slice (some ⟨b, o, none⟩) l.length cap) rfl rfl (by kernel_rfl) (by kernel_rfl) (by kernel_rfl) hQ (Or.inl ⟨by rfl, fun _ => by first | rfl | (go_simp; done) | (go_simp; rfl) | (go_simp; intro h; exfalso; omega)⟩) ?_
          simp only [Act.put, List.setIfInBounds_toArray, List.set_cons_zero, List.set_cons_succ]
          refine take_op (i := 4) (d := 27) (v := .int .i64 k) rfl rfl (by kernel_rfl) (by kernel_rfl) (by kernel_rfl) hQ (Or.inl ⟨by rfl, fun _ => by first | rfl | (go_simp; done) | (go_simp; rfl) | (go_simp; intro h; exfalso; omega)⟩) ?_
          simp only [Act.put, List.setIfInBounds_toArray, List.set_cons_zero, List.set_cons_succ]
          refine take_op (i := 5) (d := 28) (v := .int .i64 ((k : Int) + 1)) rfl rfl (by kernel_rfl) (by kernel_rfl) (by kernel_rfl) hQ (Or.inl ⟨by rfl, fun _ => by first | rfl | (go_simp; done) | (go_simp; rfl) | (go_simp; intro h; exfalso; omega)⟩) ?_
          simp only [Act.put, List.setIfInBounds_toArray, List.set_cons_zero, List.set_cons_succ]
          refine take_op (i := 6) (d := 29) (v := .slice (some ⟨b, o + (k + 1) * 3, none⟩) (l.length - (k + 1)) (cap - (k + 1))) rfl rfl (by kernel_rfl) (by kernel_rfl) (by kernel_rfl) hQ (Or.inl ⟨by rfl, fun _ => by first | rfl | (go_simp; done) | (go_simp; rfl) | (go_simp; intro h; exfalso; omega)⟩) ?_
          simp only [Act.put, List.setIfInBounds_toArray, List.set_cons_zero, List.set_cons_succ]
          refine wpAny_ready (rs := [7]) (by kernel_rfl) (by simp) ?_
          refine AllReady.cons rfl (fun K hK => ?_) AllReady.nil
          go_simp
          refine hK _ _ ?_
          try simp only [Act.put, List.setIfInBounds_toArray, List.set_cons_zero, List.set_cons_succ]
          clear hK K
          refine wpAny_ready (rs := [8]) (by kernel_rfl) (by simp) ?_
          refine AllReady.cons rfl (fun K hK => ?_) AllReady.nil
          go_simp
          go_at_call 77
          refine (concat_any _ _ _ _ _ (HPt.out _ HB.out) (by rw [Hcat.out]; exact Hle.out)).mono ?_; rintro e w2 ⟨v, rfl, hrow, hb2⟩
          refine hK _ _ ?_
          try simp only [Act.put, List.setIfInBounds_toArray, List.set_cons_zero, List.set_cons_succ]
          clear hK K
          refine take_op (i := 9) (d := 6) (v := v) rfl rfl (by kernel_rfl) (by kernel_rfl) (by kernel_rfl) hQ (Or.inl ⟨by rfl, fun _ => by first | rfl | (go_simp; done) | (go_simp; rfl) | (go_simp; intro h; exfalso; omega)⟩) ?_
          simp only [Act.put, List.setIfInBounds_toArray, List.set_cons_zero, List.set_cons_succ]
          refine take_op (i := 10) (d := 7) (v := .bool true) rfl rfl (by kernel_rfl) (by kernel_rfl) (by kernel_rfl) hQ (Or.inl ⟨by rfl, fun _ => by first | rfl | (go_simp; done) | (go_simp; rfl) | (go_simp; intro h; exfalso; omega)⟩) ?_
          simp only [Act.put, List.setIfInBounds_toArray, List.set_cons_zero, List.set_cons_succ]
          refine wpAny_done (by kernel_rfl) (hN _ _ ?_) _
          rw [Hcat.out] at hrow
          have HR := Lib.hid hrow
          have HB2 := Lib.hid ((HB.out.alloc HB.out.size _).drew.trans (hb2.mono (by have := HB.out.size; simp; omega)))
          have hs := HB.out.size
          clear hrow hb2
          go_wp2
          go_ret2
          rw [Hcl.out, HOK.out]
          exact ⟨_, rfl, HR.out.mono (by simp; omega), HB2.out⟩

theorem cancel2_out (n : Int) (b o cap : Nat) (l : List Fr) (x : Int) (w : World) (hv : FrIn w (.slice (some ⟨b, o, none⟩) l.length cap) l) (hm : l.length ≤ 1048576) :
    Calls Try.prog 39 #[.int .i64 n, .slice (some ⟨b, o, none⟩) l.length cap, .int .i64 x] w (FrOut (cancelL n l x) (atOk n l x) w) :=
  (cancel2_any n b o cap l x w hv hm).mono fun _ _ h => h.out

end Go.Proofs.Ytmdcpigobfhckaa
