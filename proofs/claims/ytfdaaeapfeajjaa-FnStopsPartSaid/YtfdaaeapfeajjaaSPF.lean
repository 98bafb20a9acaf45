/- A part of a timetable: its run, and that it is its own part; no program. -/
import Derived.Test.YtfdaaeapfeajjaaSR
import Derived.Test.YtfdaaeapfeajjaaSE
namespace Go.Proofs.Ytfdaaeapfeajjaa

theorem ext_rdP {a b : List Rd} (hl : a.length = b.length) (h : ∀ j, j < a.length → a.getD j rd0 = b.getD j rd0) : a = b := by
  apply List.ext_getElem hl
  intro j h1 h2
  have := h j h1
  rwa [getD_eq a h1, getD_eq b h2] at this
theorem part_facts {n : Int} {l : List Rd} {f t : Int} (h : partOk n l f t = true) : ∃ (F T : Nat) (xs : List Rd), f = (F : Int) ∧ t = (T : Int) ∧ F + 1 ≤ T ∧ T < l.length ∧ l.length ≤ 8 ∧ partL n l f t = xs ∧ xs.length = T - F + 1 ∧
    (∀ i, i < xs.length → xs.getD i rd0 = l.getD (F + i) rd0) ∧ partOk n xs 0 ((xs.length : Int) - 1) = true ∧ partL n xs 0 ((xs.length : Int) - 1) = xs ∧
    runV n xs = (l.getD T rd0).b - (l.getD F rd0).m ∧ runV n xs ≤ runV n l ∧ (∀ i, i < l.length → 0 ≤ (l.getD i rd0).b ∧ (l.getD i rd0).b ≤ 10000 ∧ 0 ≤ (l.getD i rd0).m ∧ (l.getD i rd0).m ≤ 10000) := by
  have h' := h
  unfold partOk at h'
  simp only [Bool.and_eq_true, inB_iff] at h'
  obtain ⟨⟨hz, h1⟩, h2⟩ := h'
  have h3 := (validS_iff.1 hz).1
  obtain ⟨F, rfl⟩ : ∃ F : Nat, f = (F : Int) := ⟨f.toNat, by omega⟩
  obtain ⟨T, rfl⟩ : ∃ T : Nat, t = (T : Int) := ⟨t.toNat, by omega⟩
  have hT : T < l.length := by omega
  have hFT : F + 1 ≤ T := by omega
  have e : partL n l (F : Int) (T : Int) = partTo l F T l.length := by unfold partL; rw [if_pos h, Int.toNat_natCast, Int.toNat_natCast]
  have hlen := partTo_len l (f := F) hT
  have hval := part_valid hz hT hFT
  have hget : ∀ i, i < (partTo l F T l.length).length → (partTo l F T l.length).getD i rd0 = l.getD (F + i) rd0 := fun i hi => partTo_get l hT (by omega)
  have hok2 : partOk n (partTo l F T l.length) 0 (((partTo l F T l.length).length : Int) - 1) = true := by
    have := partOk_yes (f := 0) (t := (partTo l F T l.length).length - 1) hval (by omega) (by omega)
    rw [show (((partTo l F T l.length).length - 1 : Nat) : Int) = ((partTo l F T l.length).length : Int) - 1 by omega] at this
    exact this
  refine ⟨F, T, partTo l F T l.length, rfl, rfl, hFT, hT, by omega, e, by omega, hget, hok2, ?_, ?_, ?_, fun i hi => by have := validS_at hz hi; omega⟩
  · unfold partL
    rw [if_pos hok2]
    have e2 : (((partTo l F T l.length).length : Int) - 1).toNat = (partTo l F T l.length).length - 1 := by omega
    rw [e2, show ((0 : Int)).toNat = 0 from rfl]
    generalize partTo l F T l.length = xs at *
    have hl2 := partTo_len xs (f := 0) (t := xs.length - 1) (by omega)
    refine ext_rdP (by omega) fun j hj => ?_
    rw [partTo_get xs (f := 0) (by omega) (by omega), Nat.zero_add]
  · unfold runV runS
    rw [if_pos hval, hget _ (by omega), hget _ (by omega), hlen]
    rw [show F + (T + 1 - F - 1) = T by omega, Nat.add_zero]
  · unfold runV runS
    rw [if_pos hval, if_pos hz, hget _ (by omega), hget _ (by omega), hlen]
    rw [show F + (T + 1 - F - 1) = T by omega, Nat.add_zero]
    have hb : (l.getD T rd0).b ≤ (l.getD (l.length - 1) rd0).b := by
      by_cases e3 : T = l.length - 1
      · rw [← e3]; exact Int.le_refl _
      · have := validS_lt hz (j := T) (i := l.length - 1) (by omega) (by omega)
        have := validS_at hz hT; omega
    have hm : (l.getD 0 rd0).m ≤ (l.getD F rd0).m := by
      by_cases e3 : F = 0
      · rw [e3]; exact Int.le_refl _
      · have := validS_lt hz (j := 0) (i := F) (by omega) (by omega)
        have := validS_at hz (show F < l.length by omega); omega
    omega

end Go.Proofs.Ytfdaaeapfeajjaa
