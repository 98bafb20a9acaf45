/- slices.Clone of gates. -/
import Derived.Test.YthhllpnbmelidaaGA
import Derived.Test.YthhllpnbmelidaaHD
import Derived.Lib.SliceRun
import Derived.WalkKit
import Derived.WalkSpells
import Derived.WalkLawsBesides
import Derived.IntWalk
import Derived.BigRegion
import Derived.Outline
namespace Go.Proofs.Ythhllpnbmelidaa
open Go.RowKit

/-- A copy of the call's own. -/
def CpGOut (l : List Gt) (w : World) (e : Ending) (w' : World) : Prop := ∃ v, e = .returned v ∧ RowGt w' w.heap.size v l ∧ Below w.heap.size w w'

set_option maxHeartbeats 400000 in
theorem cloneGt_any (b o cap : Nat) (l : List Gt) (w : World) (hb : b < w.heap.size) (hr : GtAt w b o l) (hlr : l.length ≤ 1048576) :
    Calls Try.prog 73 #[.slice (some ⟨b, o, none⟩) l.length cap] w (CpGOut l w) := by
  obtain ⟨i0, hi0, hz0, hz1, hz2⟩ := info_parts infoGt
  have hb1 : Below w.heap.size w (w.alloc (.cells #[] 33)) := (Below.refl _ _).alloc (Nat.le_refl _) _
  have hnews : ∀ j u, (encGt l)[j]? = some u → (w.alloc (.cells #[] 33)).cell? ((⟨b, o, none⟩ : Addr).add j) = some u := by
    have := GtAt.news (f := 0) (n := l.length) (hr.below hb1 hb) (by omega)
    simpa using this
  have hown := RowGt.made w w.heap.size (Nat.le_refl _)
  unfold RowGt at hown
  clear hr
  have hq := fun (w : World) (a : Option Addr) (n c : Nat) => Lib.run_eql_slice_nil (P := Try.prog) w 25 33 a n c 0 0 Try.underlying25
  go_enter Try.func73, Try.ntmps73
  go_wp2_with (at_builtin; refine wpList_append_own _ rfl _ _ 25 rfl w.heap.size 33 i0 _ 3 24 Try.underlying25 hi0 hz0 hz1 hz2 rfl (by omega) _ _ (encGt []) rfl hown ⟨b, o, none⟩ l.length cap (encGt l) rfl (encGt_len l) hnews (encGt_one l) (by unfold maxLen; simp; omega) (by simp; omega) (by simp) ?_; intro v' w1 hown1 hgrow _)
  have hrow : RowGt w1 w.heap.size v' l := by unfold RowGt; simpa [encGt] using hown1
  have hbel : Below w.heap.size w w1 := hb1.grown hgrow (by simp) (fun j hj => (hown.lt j hj).1)
  have Hrow := Lib.hid hrow
  clear hrow hown1 hgrow hown hnews
  go_wp2
  go_ret
  exact ⟨_, rfl, Hrow.out, hbel⟩

end Go.Proofs.Ythhllpnbmelidaa
