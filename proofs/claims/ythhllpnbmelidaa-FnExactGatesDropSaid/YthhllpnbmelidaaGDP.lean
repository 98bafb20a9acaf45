/- A row of gates with one of them left out, in its own block. -/
import Derived.Test.YthhllpnbmelidaaGI
import Derived.Test.YthhllpnbmelidaaGB
import Derived.Laws.OwnMore
namespace Go.Proofs.Ythhllpnbmelidaa
open Go.RowKit
set_option linter.unusedVariables false
set_option linter.unusedSimpArgs false

def putL (xs : List Value) (o : Nat) : List Value → List Value
  | [] => xs
  | v :: r => putL (xs.set o v) (o + 1) r
theorem putL_len : ∀ (vs xs : List Value) (o : Nat), (putL xs o vs).length = xs.length
  | [], _, _ => rfl
  | v :: r, xs, o => by rw [putL, putL_len r, List.length_set]
theorem putL_low : ∀ (vs xs : List Value) (o n : Nat), n ≤ o → (putL xs o vs).take n = xs.take n
  | [], _, _, _, _ => rfl
  | v :: r, xs, o, n, h => by rw [putL, putL_low r _ _ n (by omega), List.take_set_of_le h]
theorem putL_is : ∀ (vs xs : List Value) (o : Nat), o + vs.length ≤ xs.length → (putL xs o vs).take (o + vs.length) = xs.take o ++ vs
  | [], xs, o, h => by simp [putL]
  | v :: r, xs, o, h => by
    rw [List.length_cons] at h
    have ho : o < xs.length := by omega
    have ih := putL_is r (xs.set o v) (o + 1) (by rw [List.length_set]; omega)
    rw [putL, List.length_cons, show o + (r.length + 1) = o + 1 + r.length by omega, ih]
    rw [List.take_add_one]
    simp [ho, List.take_set_of_le]
theorem stored_many {e : TypeId} {size base g cap n : Nat} : ∀ (vs : List Value) (o : Nat) (w : World) (xs : List Value), w.ownsRow base e size (.slice (some ⟨g, 0, none⟩) n cap) n xs →
    (w.setCells g o vs).ownsRow base e size (.slice (some ⟨g, 0, none⟩) n cap) n (putL xs o vs) ∧ Touch (fun j => j = g) w (w.setCells g o vs)
  | [], o, w, xs, h => ⟨h, Touch.refl _ _⟩
  | v :: r, o, w, xs, h => by
    obtain ⟨h1, h2⟩ := h.stored o v
    obtain ⟨h3, h4⟩ := stored_many r (o + 1) _ _ h1
    exact ⟨h3, (Touch.grown (S := fun j => j = g) h2 rfl).trans h4⟩
theorem row_less {w : World} {e : TypeId} {size base g cap n m : Nat} {xs : List Value} (h : w.ownsRow base e size (.slice (some ⟨g, 0, none⟩) n cap) n xs) (hm : m ≤ n) :
    w.ownsRow base e size (.slice (some ⟨g, 0, none⟩) m cap) m (xs.take (m * size)) := by
  obtain ⟨hl, h2⟩ := h
  have hms : m * size ≤ n * size := Nat.mul_le_mul_right _ hm
  rcases h2 with ⟨h0, _⟩ | ⟨g', cap', cur, he, hg, hh, hn, hcap, hsz, htake⟩
  · cases h0
  · cases he
    refine ⟨by rw [List.length_take, hl]; omega, .inr ⟨g, cap, cur, rfl, hg, hh, by omega, hcap, hsz, ?_⟩⟩
    rw [← htake, List.take_take, Nat.min_eq_left hms]
theorem encGt_take (l : List Gt) (k : Nat) : (encGt l).take (k * 3) = encGt (l.take k) := by
  induction l generalizing k with
  | nil => simp [encGt]
  | cons r l ih =>
    cases k with
    | zero => simp [encGt]
    | succ k =>
      rw [List.take_succ_cons, show (k + 1) * 3 = k * 3 + 1 + 1 + 1 by omega]
      show (Value.int .i64 r.a :: Value.int .i64 r.b :: Value.int .i64 r.m :: encGt l).take _ = Value.int .i64 r.a :: Value.int .i64 r.b :: Value.int .i64 r.m :: encGt (l.take k)
      rw [List.take_succ_cons, List.take_succ_cons, List.take_succ_cons, ih]
/-- The rest moved down, the last row's cells overwritten: the row without the k-th. -/
theorem drop_row {w : World} {B g cap k : Nat} {l : List Gt} {zs : List Value} (h : RowGt w B (.slice (some ⟨g, 0, none⟩) l.length cap) l) (hk : k < l.length) :
    RowGt ((w.setCells g (k * 3) (encGt (l.drop (k + 1)))).setCells g ((l.length - 1) * 3) zs) B (.slice (some ⟨g, 0, none⟩) (l.length - 1) cap) (dropG l k) ∧ Touch (fun j => j = g) w ((w.setCells g (k * 3) (encGt (l.drop (k + 1)))).setCells g ((l.length - 1) * 3) zs) := by
  unfold RowGt at h
  obtain ⟨h1, t1⟩ := stored_many (encGt (l.drop (k + 1))) (k * 3) w _ h
  obtain ⟨h2, t2⟩ := stored_many zs ((l.length - 1) * 3) _ _ h1
  refine ⟨?_, t1.trans t2⟩
  have h3 := row_less h2 (m := l.length - 1) (by omega)
  have hnl : (encGt (l.drop (k + 1))).length = (l.length - (k + 1)) * 3 := by rw [encGt_len, List.length_drop]
  have e : (putL (putL (encGt l) (k * 3) (encGt (l.drop (k + 1)))) ((l.length - 1) * 3) zs).take ((l.length - 1) * 3) = encGt (dropG l k) := by
    rw [putL_low _ _ _ _ (Nat.le_refl _)]
    have := putL_is (encGt (l.drop (k + 1))) (encGt l) (k * 3) (by rw [hnl, encGt_len]; omega)
    rw [hnl, show k * 3 + (l.length - (k + 1)) * 3 = (l.length - 1) * 3 by omega] at this
    rw [this, encGt_take]
    unfold dropG
    rw [encGt_append]
  rw [e] at h3
  unfold RowGt
  rw [dropG_len l hk]
  exact h3

end Go.Proofs.Ythhllpnbmelidaa
