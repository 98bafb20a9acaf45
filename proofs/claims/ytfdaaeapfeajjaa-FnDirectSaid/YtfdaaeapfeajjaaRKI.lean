/- RoadsAdd of the program. -/
import Derived.Test.YtfdaaeapfeajjaaRKC
import Derived.Test.YtfdaaeapfeajjaaRKS
namespace Go.Proofs.Ytfdaaeapfeajjaa
open Go.RowKit

def paF (a0 a1 : Addr) : Nat → Addr | 0 => a0 | _ => a1
def pcF (a0 a1 : Nat) : Nat → Nat | 0 => a0 | _ => a1
def plF (a0 a1 : List Rz) : Nat → List Rz | 0 => a0 | _ => a1

theorem plF_cat (l r : List Rz) : catTo (plF l r) 2 = l ++ r := by simp [catTo, plF]

theorem parts_mk {w W : World} {b cp : Nat} {l : List Rz} (r : Rd) (hv : RzIn w (.slice (some ⟨b, 0, none⟩) l.length cp) l) (hb : Below w.heap.size w W) :
    Parts ((W.alloc (.cells #[.int .i64 r.a, .int .i64 r.b, .int .i64 r.m] 50)).alloc (.cells #[.slice (some ⟨b, 0, none⟩) l.length cp, .slice (some ⟨W.heap.size, 0, none⟩) 1 1] 43)) (W.heap.size + 1)
      (paF ⟨b, 0, none⟩ ⟨W.heap.size, 0, none⟩) (pcF cp 1) (plF l [r]) := by
  have hb2 := (hb.alloc hb.size (.cells #[.int .i64 r.a, .int .i64 r.b, .int .i64 r.m] 50)).alloc (Nat.le_trans hb.size (by simp)) (.cells #[.slice (some ⟨b, 0, none⟩) l.length cp, .slice (some ⟨W.heap.size, 0, none⟩) 1 1] 43)
  obtain ⟨hlt, hnw⟩ := (hv.below hb2).news
  have hnew := heap_alloc_new (W.alloc (.cells #[.int .i64 r.a, .int .i64 r.b, .int .i64 r.m] 50)) (.cells #[.slice (some ⟨b, 0, none⟩) l.length cp, .slice (some ⟨W.heap.size, 0, none⟩) 1 1] 43)
  have hsz : (W.alloc (.cells #[.int .i64 r.a, .int .i64 r.b, .int .i64 r.m] 50)).heap.size = W.heap.size + 1 := by simp
  rw [hsz] at hnew
  refine ⟨by simp, fun i hi => ?_, fun i hi hn => ?_, fun i hi => ?_⟩
  · rw [cell_of_row _ _ i _ _ _ hnew]
    rcases (by omega : i = 0 ∨ i = 1) with rfl | rfl
    · simp [paF, pcF, plF]
    · simp [paF, pcF, plF]
  · rcases (by omega : i = 0 ∨ i = 1) with rfl | rfl
    · exact hlt (fun e => hn (by rw [e]; rfl))
    · show W.heap.size < _; simp; omega
  · rcases (by omega : i = 0 ∨ i = 1) with rfl | rfl
    · exact hnw
    · intro j u hj
      have h1 := World.news_of_block (cs := #[.int .i64 r.a, .int .i64 r.b, .int .i64 r.m]) (t := 50) (fr := (0, 0)) (heap_alloc_new W _) j u hj
      exact (((Below.refl _ (W.alloc (.cells #[.int .i64 r.a, .int .i64 r.b, .int .i64 r.m] 50))).alloc (Nat.le_refl _) _).cell (by show (Addr.add ⟨W.heap.size, 0, none⟩ j).block < _; rw [addr_blk]; simp)).trans h1

theorem wf_snoc {l : List Rd} {r : Rd} (h : RdWf l) (ha : W64 r.a) (hb : W64 r.b) (hm : W64 r.m) : RdWf (l ++ [r]) := by
  intro x hx
  simp only [List.mem_append, List.mem_singleton] at hx
  rcases hx with hx | rfl
  · exact h x hx
  · exact ⟨ha, hb, hm⟩

set_option maxRecDepth 100000 in
set_option maxHeartbeats 1000000 in
theorem radd2_any {cp : Nat} (n : Int) (b : Nat) (l : List Rd) (r : Rd) (w : World) (hv : RzIn w (.slice (some ⟨b, 0, none⟩) l.length cp) l) (hm : l.length ≤ 1048576) (hw : RdWf l) (ha : W64 r.a) (hb : W64 r.b) (hc : W64 r.m) :
    Calls Try.prog 29 #[.int .i64 n, .slice (some ⟨b, 0, none⟩) l.length cp, .agg #[.int .i64 r.a, .int .i64 r.b, .int .i64 r.m]] w (RzRow (addR n l r) (addROk n l r) w) := by
  have Hwf := Lib.hid (wf_snoc hw ha hb hc)
  have HB0 := Lib.hid (show Below w.heap.size w (w.alloc (.cells #[.int .i64 r.a, .int .i64 r.b, .int .i64 r.m] 50)) from (Below.refl _ _).alloc (Nat.le_refl _) _)
  have Hc := Lib.hid (roadsValid_any n _ l _ (hv.below HB0.out).roads hm hw)
  have Hpm := Lib.hid (fun W (hb : Below w.heap.size w W) => parts_mk r hv hb)
  clear hv hw ha hb hc
  obtain ⟨xs, hxs⟩ : ∃ xs, l ++ [r] = xs := ⟨_, rfl⟩
  have Hxs := Lib.hid hxs; clear hxs
  have Hlen := Lib.hid (show xs.length = l.length + 1 by rw [← Hxs.out]; simp)
  have Hpos := Lib.hid (show 0 < xs.length by rw [Hlen.out]; omega)
  have Hcat := Lib.hid (show catTo (plF l [r]) 2 = xs by rw [plF_cat]; exact Hxs.out)
  have HbigL := Lib.hid (show xs.length ≤ 1048577 by rw [Hlen.out]; omega)
  have Hv2 := Lib.hid (fun v w' (h : RoadsIn w' v xs) => roadsValid_big n v xs w' h (by rw [Hlen.out]; omega) (by rw [← Hxs.out]; exact Hwf.out))
  have Hfr := Lib.hid (show validR n xs = true → validR n l = true from fun h => by rw [← Hxs.out] at h; exact validR_front h)
  obtain ⟨ra, rb, rm⟩ := r
  dsimp only at *
  cases hz : validR n l with
  | false =>
    have HOK := Lib.hid (show addROk n l ⟨ra, rb, rm⟩ = false by
      unfold addROk; rw [Hxs.out]
      cases h : validR n xs with
      | false => rfl
      | true => have := Hfr.out h; rw [hz] at this; cases this)
    have Hz := Lib.hid hz; clear hz hm
    go_enter Try.func29, Try.ntmps29
    go_wp2_with fail
    refine (Hc.out).mono ?_; rintro e w1 ⟨rfl, hb⟩
    have HB1 := Lib.hid (HB0.out.trans (hb.mono HB0.out.size)); clear hb
    rw [Hz.out]
    go_wp2
    go_ret2
    have e1 : addR n l ⟨ra, rb, rm⟩ = [] := if_neg (by rw [HOK.out]; simp)
    rw [e1, HOK.out]
    exact RzRow.no HB1.out.size HB1.out
  | true =>
    have Hz := Lib.hid hz; clear hz hm
    go_enter Try.func29, Try.ntmps29
    go_wp2_with fail
    refine (Hc.out).mono ?_; rintro e w1 ⟨rfl, hb⟩
    have q0 : w1.cell? ⟨w.heap.size, 0, none⟩ = some (.int .i64 ra) := (hb.cell (p := ⟨w.heap.size, 0, none⟩) (by simp)).trans (by go_simp)
    have q1 : w1.cell? ⟨w.heap.size, 1, none⟩ = some (.int .i64 rb) := (hb.cell (p := ⟨w.heap.size, 1, none⟩) (by simp)).trans (by go_simp)
    have q2 : w1.cell? ⟨w.heap.size, 2, none⟩ = some (.int .i64 rm) := (hb.cell (p := ⟨w.heap.size, 2, none⟩) (by simp)).trans (by go_simp)
    have HB1 := Lib.hid (HB0.out.trans (hb.mono HB0.out.size)); clear hb
    have Hpt := Lib.hid (Hpm.out w1 HB1.out)
    rw [Hz.out]
    go_wp2_with fail
    refine (concat_any _ _ _ _ _ Hpt.out (by rw [Hcat.out]; exact Hpos.out) (by rw [Hcat.out]; exact HbigL.out)).mono ?_; rintro e w2 ⟨v, rfl, hrow, hb2⟩
    rw [Hcat.out] at hrow
    have HR := Lib.hid hrow
    have HB2 := Lib.hid (((HB1.out.alloc HB1.out.size _).alloc (Nat.le_trans HB1.out.size (by simp)) _).trans (hb2.mono (Nat.le_trans HB1.out.size (by simp; omega))))
    have hsz1 := HB1.out.size
    clear hrow hb2 q0 q1 q2
    obtain ⟨adv, capv, rfl, hcv⟩ := HR.out.full Hpos.out
    cases hy : validR n xs with
    | false =>
      have HOK := Lib.hid (show addROk n l ⟨ra, rb, rm⟩ = false by unfold addROk; rw [Hxs.out]; exact hy)
      have Hy := Lib.hid hy; clear hy
      go_wp2_with fail
      refine (Hv2.out _ _ (HR.out.in_ hcv)).mono ?_; rintro e w5 ⟨rfl, hb5⟩
      have HB5 := Lib.hid (HB2.out.trans (hb5.mono HB2.out.size)); clear hb5
      rw [Hy.out]
      go_wp2
      go_ret2
      have e1 : addR n l ⟨ra, rb, rm⟩ = [] := if_neg (by rw [HOK.out]; simp)
      rw [e1, HOK.out]
      exact RzRow.no HB5.out.size HB5.out
    | true =>
      have HOK := Lib.hid (show addROk n l ⟨ra, rb, rm⟩ = true by unfold addROk; rw [Hxs.out]; exact hy)
      have Hy := Lib.hid hy; clear hy
      go_wp2_with fail
      refine (Hv2.out _ _ (HR.out.in_ hcv)).mono ?_; rintro e w5 ⟨rfl, hb5⟩
      have HB5 := Lib.hid (HB2.out.trans (hb5.mono HB2.out.size))
      have HF5 := Lib.hid (HR.out.below hb5); clear hb5
      rw [Hy.out]
      go_wp2
      go_ret2
      have e1 : addR n l ⟨ra, rb, rm⟩ = xs := by unfold addR; rw [if_pos HOK.out]; exact Hxs.out
      rw [e1, HOK.out]
      exact ⟨adv, capv, rfl, hcv, HF5.out.mono (by simp; omega), HB5.out⟩

theorem radd1_out (n : Int) (b : Nat) (l : List Rd) (r : Rd) (w : World) (hv : RzIn w (.slice (some ⟨b, 0, none⟩) l.length l.length) l) (hm : l.length ≤ 1048576) :
    Calls Try.prog 88 #[.int .i64 n, .slice (some ⟨b, 0, none⟩) l.length l.length, .agg #[.int .i64 r.a, .int .i64 r.b, .int .i64 r.m]] w (RzOut (addR n l r) (addROk n l r) w) :=
  (radd1_any n _ _ l r w hv hm).mono fun _ _ h => h.out
theorem radd2_out (n : Int) (b : Nat) (l : List Rd) (r : Rd) (w : World) (hv : RzIn w (.slice (some ⟨b, 0, none⟩) l.length l.length) l) (hm : l.length ≤ 1048576) (hw : RdWf l) (ha : W64 r.a) (hb : W64 r.b) (hc : W64 r.m) :
    Calls Try.prog 29 #[.int .i64 n, .slice (some ⟨b, 0, none⟩) l.length l.length, .agg #[.int .i64 r.a, .int .i64 r.b, .int .i64 r.m]] w (RzOut (addR n l r) (addROk n l r) w) :=
  (radd2_any n b l r w hv hm hw ha hb hc).mono fun _ _ h => h.out

end Go.Proofs.Ytfdaaeapfeajjaa
