/- Helpers for walks of laws: answers as values that read as a list. -/
import Derived.Test.YthdkjjfnockldaaIZ
import Derived.Test.YthdkjjfnockldaaPA
namespace Go.Proofs.Ythdkjjfnockldaa
open Go.RowKit

theorem okIn {ys : List Int} {ok : Bool} {w w' : World} {e : Ending} (h : IntsOk ys ok w e w') : ∃ v, e = .returned (.tuple #[v, .bool ok]) ∧ IntsIn w' v ys ∧ Below w.heap.size w w' := by
  obtain ⟨ad, cap, rfl, hc, ho, _, hb⟩ := h
  exact ⟨_, rfl, ho.ints hc, hb⟩
theorem outPt_in {ys : List Pt} {ok : Bool} {w w' : World} {e : Ending} (h : PtOut ys ok w e w') : ∃ v, e = .returned (.tuple #[v, .bool ok]) ∧ PtIn w' v ys ∧ Below w.heap.size w w' := by
  obtain ⟨ad, cap, rfl, hc, ho, _, hb⟩ := h
  exact ⟨_, rfl, ho.ins hc, hb⟩
theorem six {w : World} {v : Value} {t : List Int} (h : IntsIn w v t) (h6 : t.length = 6) : ∃ b o cap, v = .slice (some ⟨b, o, none⟩) 6 cap ∧ b < w.heap.size ∧ IntAt w b o t := by
  obtain ⟨a, cap, rfl, _, ha⟩ := h
  obtain ⟨b, o, rfl, hb, hr⟩ := ha (by rintro rfl; simp at h6)
  exact ⟨b, o, cap, by rw [h6], hb, hr⟩

end Go.Proofs.Ythdkjjfnockldaa
