/- Heaps of homeTeam: pop. -/
import Derived.Test.YtmcapcclnkicbabVBE
import Derived.Test.YtmcapcclnkicbabVAE
namespace Go.Proofs.Ytmcapcclnkicbab
open Go.RowKit

set_option maxRecDepth 100000 in
set_option maxHeartbeats 1000000 in
theorem popB_any (F1 X g cap : Nat) (vo tv : Value) (l : List Pl) (w : World) (hwh : Whole w X 60 #[vo, .slice (some ⟨g, 0, none⟩) l.length cap, tv]) (hrow : RowB w F1 g cap l) (hh : HeapTo l l.length) (h0 : 0 < l.length) (hl : l.length ≤ 50) (hXF : X < F1) :
    Calls Try.prog 40 #[.pointer (some ⟨X, 1, none⟩)] w (PopBOut F1 X g cap vo tv l w) := by
  have hX := hwh.lt
  have hx := hwh.cell (i := 1) rfl
  have hgl := hrow.lt
  have hgx : g ≠ X := by have := hrow.base; omega
  obtain ⟨m, hm⟩ : ∃ m, l.length = m + 1 := ⟨l.length - 1, by omega⟩
  obtain ⟨c1, _⟩ := hrow.cells (i := 0) (by omega)
  generalize hx1 : (l.getD 0 pl0).2 = x1 at c1
  have HX1 := Lib.hid hx1; clear hx1
  have HBA := Lib.hid (show Below w.heap.size w w from Below.refl _ _)
  have HRA := Lib.hid (hrow.below HBA.out)
  have HWA := Lib.hid (hwh.below HBA.out hX)
  have hxA : w.cell? ⟨X, 1, none⟩ = some (.slice (some ⟨g, 0, none⟩) l.length cap) := HWA.out.cell (i := 1) rfl
  have Hcap := Lib.hid hrow.len
  have Hh := Lib.hid hh
  have Hm := Lib.hid hm
  have hl0 : (0 : Int) < (l.length : Int) := by omega
  have hmi : (l.length : Int) - 1 = (m : Int) := by omega
  have hmw : IntKind.i64.wrap ((l.length : Int) - 1) = (m : Int) := by rw [IntWalk.i64_in _ (by omega)]; exact hmi
  have hmle : m ≤ cap := by have := hrow.len; omega
  have hml : (m : Int) ≤ (cap : Int) := by omega
  have hm0 : (0 : Int) ≤ (m : Int) := Int.natCast_nonneg _
  clear hrow hwh hh hm
  go_enter Try.func40, Try.ntmps40
  go_wp2_with fail
  (try rw [hmi])
  refine (swapB_any F1 g cap X l 0 m _ hxA HRA.out (by omega) (by have := Hm.out; omega) hgx).mono ?_; rintro e w2 ⟨rfl, hr2, ht2⟩
  have hw2 := HWA.out.keptT ht2 (Ne.symm hgx)
  have hx2 := hw2.cell (i := 1) rfl
  have hf2 := hw2.free 1
  have HW2 := Lib.hid hw2
  have HR2 := Lib.hid hr2
  have HT2 := Lib.hid ht2
  have hw3 := HW2.out.set 1 (.slice (some ⟨g, 0, none⟩) m cap)
  have hlt : ((swapL l 0 m).take m).length = m := by rw [List.length_take, swapL_length]; have := Hm.out; omega
  have hr3 : RowB (w2.setCell ⟨X, 1, none⟩ (.slice (some ⟨g, 0, none⟩) m cap)) F1 g cap ((swapL l 0 m).take m) := (HR2.out.take m).kept (Below.heap_setCell _ _ _ _ hgx)
  have hd3 : DownOk ((swapL l 0 m).take m) m 0 := DownOk.take0 (HeapTo.swap0 (by rw [← Hm.out]; exact Hh.out) (by rw [Hm.out]; exact Nat.le_refl _))
  have ht3 : Touch (fun k => k = X ∨ k = g) w (w2.setCell ⟨X, 1, none⟩ (.slice (some ⟨g, 0, none⟩) m cap)) := (HT2.out.mono (fun j hj => .inr hj)).setCell (.inl rfl) _
  have hx3 : (w2.setCell ⟨X, 1, none⟩ (.slice (some ⟨g, 0, none⟩) m cap)).cell? ⟨X, 1, none⟩ = some (.slice (some ⟨g, 0, none⟩) m cap) := World.cell?_setCell_same _ _ _ hx2
  have HW3 := Lib.hid hw3
  have HR3 := Lib.hid hr3
  have HD3 := Lib.hid hd3
  have HT3 := Lib.hid ht3
  have HX3 := Lib.hid hx3
  have Hlt := Lib.hid hlt
  clear hw2 hr2 ht2 hw3 hr3 hd3 ht3 hx3 hlt
  go_wp2_with fail
  refine (sinkB_any F1 g cap X ((swapL l 0 m).take m) _ (by rw [Hlt.out]; exact HX3.out) (by rw [Hlt.out]; have := Hm.out; omega) HR3.out (by rw [Hlt.out]; exact HD3.out) hgx).mono ?_; rintro e w4 ⟨rfl, l', hh4, hp4, hr4, ht4⟩
  have hll : l'.length = m := hp4.length_eq.trans Hlt.out
  have HH4 := Lib.hid hh4
  have HP4 := Lib.hid (show (l.getD 0 pl0 :: l').Perm l from (hp4.cons _).trans (swap0_perm l Hm.out))
  have HR4 := Lib.hid hr4
  have HT4 := Lib.hid (HT3.out.trans2 ht4 (fun j hj _ => .inr hj))
  have HW4 := Lib.hid (show Whole w4 X 60 #[vo, .slice (some ⟨g, 0, none⟩) l'.length cap, tv] by rw [hll]; exact HW3.out.keptT ht4 (Ne.symm hgx))
  clear hh4 hp4 hr4 ht4 hll
  go_wp2
  go_ret
  exact ⟨ret_int HX1.out.symm, l', HH4.out, HP4.out, HR4.out, HW4.out, (Touch.of_below HBA.out).trans HT4.out⟩

end Go.Proofs.Ytmcapcclnkicbab
