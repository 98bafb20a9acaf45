/- What a law's marks leave as it was. -/
import Derived.Test.YtlkhgnglblgldaaAB
namespace Go.Proofs.Ytlkhgnglblgldaa
open Go.RowKit Go.Maps

theorem wayL_len (n : Int) (l : List Rd) (b : Int) : ∀ k t, (wayL n l b k t).length ≤ k + 1
  | 0, t => by simp [wayL]
  | k + 1, t => by
    unfold wayL
    split
    · simp
    · have := wayL_len n l b k (nextT n l b t)
      simp only [List.length_cons]; omega

theorem wayOf_len (n : Int) (l : List Rd) (a b : Int) : (wayOf n l a b).length ≤ 1048576 := by
  unfold wayOf
  split
  · have := wayL_len n l b 800 a; omega
  · simp

end Go.Proofs.Ytlkhgnglblgldaa
