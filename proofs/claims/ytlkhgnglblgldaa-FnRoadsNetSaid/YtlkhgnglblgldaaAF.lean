/- The list without a road. No program. -/
import Derived.Test.YtlkhgnglblgldaaG
namespace Go.Proofs.Ytlkhgnglblgldaa

theorem no_twin {n : Int} {l : List Rd} (h : okTo n l l.length = true) {i : Nat} (hi : i < l.length) {s : Rd} (hs : s ∈ l.take i ++ l.drop (i + 1)) : ¬ (s.a = (l.getD i rd0).a ∧ s.b = (l.getD i rd0).b) := by
  rintro ⟨ha, hb⟩
  rcases List.mem_append.1 hs with h1 | h1
  · have := ((okAt_iff n l i).1 (okTo_at n l h hi)).2 s h1
    simp [same, ha, hb] at this
  · obtain ⟨j, hj, rfl⟩ := List.mem_iff_getElem.1 h1
    rw [List.length_drop] at hj
    have hk : i + 1 + j < l.length := by omega
    have h2 := ((okAt_iff n l (i + 1 + j)).1 (okTo_at n l h hk)).2 (l.getD i rd0) (by
      rw [List.mem_iff_getElem]
      refine ⟨i, by rw [List.length_take]; omega, ?_⟩
      simp [List.getD, hi])
    rw [List.getElem_drop] at ha hb
    have e : l.getD (i + 1 + j) rd0 = l[i + 1 + j] := by simp [List.getD, hk]
    rw [e] at h2
    simp [same, ha, hb] at h2

/-- The edges of the list without road i: those of the list, without that road. -/
theorem edge_erase {n : Int} {l : List Rd} (h : okTo n l l.length = true) {i : Nat} (hi : i < l.length) (x y : Int) :
    edge (l.take i ++ l.drop (i + 1)) x y = if (x = (l.getD i rd0).a ∧ y = (l.getD i rd0).b) ∨ (x = (l.getD i rd0).b ∧ y = (l.getD i rd0).a) then none else edge l x y := by
  have hf := ((okAt_iff n l i).1 (okTo_at n l h hi)).1
  have hab := ((fits_iff n _).1 hf).2.1
  have hno := fun s hs => no_twin h hi (s := s) hs
  have hl : l = l.take i ++ l.getD i rd0 :: l.drop (i + 1) := by
    have e : l.getD i rd0 = l[i] := by simp [List.getD, hi]
    rw [e, List.getElem_cons_drop, List.take_append_drop]
  generalize hr : l.getD i rd0 = r at *
  have key : edge l x y = edge (l.take i ++ r :: l.drop (i + 1)) x y := congrArg (fun z => edge z x y) hl
  rw [key]
  clear key hl
  generalize l.take i = p at *
  generalize l.drop (i + 1) = q at *
  unfold edge
  split
  · rename_i hc
    have hh := (hit_iff r hab x y).2 hc
    have hn : (p ++ q).find? (fun s => decide (s.a = min x y) && decide (s.b = max x y)) = none := by
      rw [List.find?_eq_none]
      intro s hsm hsx
      simp only [Bool.and_eq_true, decide_eq_true_eq] at hh hsx
      exact hno s hsm ⟨by omega, by omega⟩
    rw [hn]; rfl
  · rename_i hc
    have hh : (decide (r.a = min x y) && decide (r.b = max x y)) = false := by
      rw [Bool.eq_false_iff]; intro h'; exact hc ((hit_iff r hab x y).1 h')
    rw [List.find?_append, List.find?_append, List.find?_cons, hh]

theorem okTo_iff (n : Int) (l : List Rd) : okTo n l l.length = true ↔ (∀ r ∈ l, fits n r = true) ∧ l.Pairwise (fun s r => same s r = false) := by
  have hg : ∀ k (hk : k < l.length), l.getD k rd0 = l[k] := fun k hk => by simp [List.getD, hk]
  constructor
  · intro h
    refine ⟨fun r hr => ?_, ?_⟩
    · obtain ⟨k, hk, rfl⟩ := List.mem_iff_getElem.1 hr
      rw [← hg k hk]; exact ((okAt_iff n l k).1 (okTo_at n l h hk)).1
    · rw [List.pairwise_iff_getElem]
      intro i j hi hj hij
      rw [← hg j hj]
      exact ((okAt_iff n l j).1 (okTo_at n l h hj)).2 _ (by
        rw [List.mem_iff_getElem]
        exact ⟨i, by rw [List.length_take]; omega, by simp⟩)
  · rintro ⟨hf, hp⟩
    rw [List.pairwise_iff_getElem] at hp
    simp only [okTo, List.all_eq_true, List.mem_range]
    intro k hk
    rw [okAt_iff, hg k hk]
    refine ⟨hf _ (List.getElem_mem hk), fun s hs => ?_⟩
    obtain ⟨i, hi, rfl⟩ := List.mem_iff_getElem.1 hs
    rw [List.length_take] at hi
    rw [List.getElem_take]
    exact hp i k (by omega) hk (by omega)

theorem erase_sub (l : List Rd) (i : Nat) : (l.take i ++ l.drop (i + 1)).Sublist l := by
  rw [← List.eraseIdx_eq_take_drop_succ]; exact List.eraseIdx_sublist l i

/-- The list without a road is one of roads, too. -/
theorem valid_erase {n : Int} {l : List Rd} (h : validR n l = true) (i : Nat) : validR n (l.take i ++ l.drop (i + 1)) = true := by
  unfold validR at h ⊢
  simp only [Bool.and_eq_true, decide_eq_true_eq] at h ⊢
  obtain ⟨⟨⟨h1, h8⟩, h16⟩, hok⟩ := h
  have hs := erase_sub l i
  obtain ⟨hf, hp⟩ := (okTo_iff n l).1 hok
  exact ⟨⟨⟨h1, h8⟩, Nat.le_trans hs.length_le h16⟩, (okTo_iff n _).2 ⟨fun r hr => hf r (hs.subset hr), hp.sublist hs⟩⟩

end Go.Proofs.Ytlkhgnglblgldaa
