/- RoadsMany of model and program. -/
import Derived.Test.YtfdaaeapfeajjaaU
import Derived.Test.YtfdaaeapfeajjaaWF
namespace Go.Proofs.Ytfdaaeapfeajjaa
open Go.RowKit Go.Maps

theorem distN_get {n : Int} {l : List Rd} (hz : validR n l = true) (s x : Int) : 0 ≤ (distN n (edge l) s x).getD 0 ∧ (distN n (edge l) s x).getD 0 ≤ 1000 := by
  cases h : distN n (edge l) s x with
  | none => simp
  | some d =>
    unfold distN at h
    split at h
    · have := (edges_ok hz).dist (distO_some.1 h)
      simp only [Option.getD_some]; omega
    · cases h

/-- What RoadsMany is. -/
noncomputable def manyV (n : Int) (l : List Rd) (a b : Int) : Int :=
  if validR n l = true then (if reachB n (edge l) a b = true then manyN n (edge l) (distN n (edge l) b) 1001 a else -1) else -1

theorem reach_in {n : Int} {l : List Rd} (hz : validR n l = true) {a b : Int} (h : reachB n (edge l) a b = true) : (0 ≤ a ∧ a < n) ∧ (0 ≤ b ∧ b < n) ∧ ∃ d, Dist (edge l) b a d := by
  unfold reachB distN at h
  split at h
  · rename_i ha
    obtain ⟨d, hd⟩ := Option.isSome_iff_exists.1 h
    have hD := distO_some.1 hd
    exact ⟨ha, (edges_ok hz).town hD ha, d, hD.symm (fun x y => edge_symm l x y)⟩
  · cases h

end Go.Proofs.Ytfdaaeapfeajjaa
