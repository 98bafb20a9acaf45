/- Timetables: the walks of stopFits, in, takes, add. -/
import Derived.Test.YtmkcnoaphoiiaaaSM
import Derived.Deep.RegionHeld3
import Derived.Laws.MakeOwn
import Derived.WalkKit
import Derived.WalkSpells
import Derived.WalkLawsBesides
import Derived.IntWalk
import Derived.Deep.QuietTactic
import Derived.BigQuiet
import Derived.RegionTactic
import Derived.ChangeAlike
import Derived.Deep.LoopGhost
import Derived.Outline
namespace Go.Proofs.Ytmkcnoaphoiiaaa
open Go.RowKit

set_option maxHeartbeats 800000 in
theorem stopFits_any (n a b m : Int) (w : World) :
    Calls Try.prog 103 #[.int .i64 n, .agg #[.int .i64 a, .int .i64 b, .int .i64 m]] w fun e w' => e = .returned (.bool (fitsS n ⟨a, b, m⟩)) ∧ Below w.heap.size w w' := by
  by_cases h1 : 0 ≤ a
  · by_cases h2 : a < n
    · by_cases h3 : 0 ≤ b ∧ b ≤ 10000
      · have t1 : isT b = true := (isT_iff b).2 h3
        by_cases h4 : 0 ≤ m ∧ m ≤ 10000
        · have t2 : isT m = true := (isT_iff m).2 h4
          by_cases h5 : b ≤ m
          · have Hf := Lib.hid (show fitsS n ⟨a, b, m⟩ = true from (fitsS_iff _ _).2 (by simp only; omega))
            obtain ⟨h3a, h3b⟩ := h3
            obtain ⟨h4a, h4b⟩ := h4
            go_enter Try.func103, Try.ntmps103
            go_wp2_with (go_at_call 77; refine (isTime_any _ _).mono ?_; rintro e w' ⟨rfl, rfl⟩)
            go_ret
            exact ⟨ret_bool (by first | (rw [Hf.out]; done) | (rw [Hf.out]; simp; done) | (rw [Hf.out]; simp; omega)), (Below.refl _ _).alloc (Nat.le_refl _) _⟩
          · have Hf := Lib.hid (show fitsS n ⟨a, b, m⟩ = false from (by rw [Bool.eq_false_iff]; intro h; have := (fitsS_iff _ _).1 h; simp only at this; omega))
            obtain ⟨h3a, h3b⟩ := h3
            obtain ⟨h4a, h4b⟩ := h4
            go_enter Try.func103, Try.ntmps103
            go_wp2_with (go_at_call 77; refine (isTime_any _ _).mono ?_; rintro e w' ⟨rfl, rfl⟩)
            go_ret
            exact ⟨ret_bool (by first | (rw [Hf.out]; done) | (rw [Hf.out]; simp; done) | (rw [Hf.out]; simp; omega)), (Below.refl _ _).alloc (Nat.le_refl _) _⟩
        · have t2 : isT m = false := Bool.eq_false_iff.2 (fun h => h4 ((isT_iff m).1 h))
          have Hf := Lib.hid (show fitsS n ⟨a, b, m⟩ = false from (by rw [Bool.eq_false_iff]; intro h; have := (fitsS_iff _ _).1 h; simp only at this; omega))
          obtain ⟨h3a, h3b⟩ := h3
          clear h4
          go_enter Try.func103, Try.ntmps103
          go_wp2_with (go_at_call 77; refine (isTime_any _ _).mono ?_; rintro e w' ⟨rfl, rfl⟩)
          go_ret
          exact ⟨ret_bool (by first | (rw [Hf.out]; done) | (rw [Hf.out]; simp; done) | (rw [Hf.out]; simp; omega)), (Below.refl _ _).alloc (Nat.le_refl _) _⟩
      · have t1 : isT b = false := Bool.eq_false_iff.2 (fun h => h3 ((isT_iff b).1 h))
        have Hf := Lib.hid (show fitsS n ⟨a, b, m⟩ = false from (by rw [Bool.eq_false_iff]; intro h; have := (fitsS_iff _ _).1 h; simp only at this; omega))
        clear h3
        go_enter Try.func103, Try.ntmps103
        go_wp2_with (go_at_call 77; refine (isTime_any _ _).mono ?_; rintro e w' ⟨rfl, rfl⟩)
        go_ret
        exact ⟨ret_bool (by first | (rw [Hf.out]; done) | (rw [Hf.out]; simp; done) | (rw [Hf.out]; simp; omega)), (Below.refl _ _).alloc (Nat.le_refl _) _⟩
    · have Hf := Lib.hid (show fitsS n ⟨a, b, m⟩ = false from (by rw [Bool.eq_false_iff]; intro h; have := (fitsS_iff _ _).1 h; simp only at this; omega))
      go_enter Try.func103, Try.ntmps103
      go_wp2_with (go_at_call 77; refine (isTime_any _ _).mono ?_; rintro e w' ⟨rfl, rfl⟩)
      go_ret
      exact ⟨ret_bool (by first | (rw [Hf.out]; done) | (rw [Hf.out]; simp; done) | (rw [Hf.out]; simp; omega)), (Below.refl _ _).alloc (Nat.le_refl _) _⟩
  · have Hf := Lib.hid (show fitsS n ⟨a, b, m⟩ = false from (by rw [Bool.eq_false_iff]; intro h; have := (fitsS_iff _ _).1 h; simp only at this; omega))
    go_enter Try.func103, Try.ntmps103
    go_wp2_with (go_at_call 77; refine (isTime_any _ _).mono ?_; rintro e w' ⟨rfl, rfl⟩)
    go_ret
    exact ⟨ret_bool (by first | (rw [Hf.out]; done) | (rw [Hf.out]; simp; done) | (rw [Hf.out]; simp; omega)), (Below.refl _ _).alloc (Nat.le_refl _) _⟩

/-- Where the town stands first, from k on. -/
def InRel (hs : List Nat) (l : List Rd) (t : Int) (w : World) (hv : Value) (wr : World) : Prop :=
  wr = w ∧ ∃ k : Nat, k ≤ l.length ∧ hv = ptB hs[k]? ∧ newS l k t = true

theorem ptB_some {hs : List Nat} {k : Nat} (h : k < hs.length) : ptB hs[k]? = .pointer (some ⟨hs.getD k 0, 0, none⟩) := by
  rw [getNat hs h]; rfl
theorem ptB_none {hs : List Nat} {k : Nat} (h : hs.length ≤ k) : ptB hs[k]? = .pointer none := by
  rw [List.getElem?_eq_none h]; rfl

theorem newS_succ (l : List Rd) (k : Nat) (t : Int) : newS l (k + 1) t = (newS l k t && decide ((l.getD k rd0).a ≠ t)) := by
  simp [newS, List.range_succ]

/-- What 'in' gives: the first halt in a town. -/
def InOut (hs : List Nat) (l : List Rd) (t : Int) (w : World) (e : Ending) (w' : World) : Prop :=
  w' = w ∧ ((∃ k : Nat, k < l.length ∧ e = .returned (.pointer (some ⟨hs.getD k 0, 0, none⟩)) ∧ newS l k t = true ∧ (l.getD k rd0).a = t) ∨ (e = .returned (.pointer none) ∧ newS l l.length t = true))

set_option maxHeartbeats 400000 in
theorem in_any (tb : Nat) (hs : List Nat) (l : List Rd) (t : Int) (w : World) (h : TT w tb hs l) (_hl : l.length ≤ 8) :
    Calls Try.prog 97 #[.pointer (some ⟨tb, 0, none⟩), .int .i64 t] w (InOut hs l t w) := by
  have hfst : w.cell? ⟨tb, 0, none⟩ = some (ptB hs[0]?) := h.top.cell rfl
  have Hf := Lib.hid hfst
  go_enter Try.func97, Try.ntmps97
  go_wp2
  go_loopg [5] l.length (fun gk hv wr => wr = w ∧ ∃ k : Nat, k + gk = l.length ∧ hv = ptB hs[k]? ∧ newS l k t = true)
  case atStart => exact ⟨rfl, 0, by omega, rfl, rfl⟩
  case round =>
    obtain ⟨rfl, k, hk, rfl, hn⟩ := hrel
    have Hn := Lib.hid hn; clear hn hfst
    by_cases hlt : k < l.length
    · have e1 : ptB hs[k]? = .pointer (some ⟨hs.getD k 0, 0, none⟩) := ptB_some (by rw [h.len]; exact hlt)
      rw [e1]
      have c0 := h.town hlt
      have c5 : wr.cell? ⟨hs.getD k 0, 5, none⟩ = some (ptB hs[k + 1]?) := (h.halts k hlt).cell rfl
      have hk1 : k + 1 ≤ l.length := hlt
      have Hk := Lib.hid hk
      have H := Lib.hid h
      clear e1 hk h hlt
      generalize hga : (l.getD k rd0).a = x at *
      have Hga := Lib.hid hga; clear hga
      generalize hgb : hs.getD k 0 = bk at *
      have Hgb := Lib.hid hgb; clear hgb
      by_cases hx : (x == t) = true
      · go_wp2
        go_ret
        exact ⟨rfl, .inl ⟨k, hk1, by rw [Hgb.out]; rfl, Hn.out, by rw [Hga.out]; simpa using hx⟩⟩
      · have hx' : (x == t) = false := by simpa using hx
        clear hx
        obtain ⟨gk', rfl⟩ : ∃ g, gk = g + 1 := ⟨gk - 1, by have := Hk.out; omega⟩
        go_wp2
        go_roundg gk'
        case measure => omega
        case rel => exact ⟨rfl, k + 1, by have := Hk.out; omega, rfl, by rw [newS_succ, Hn.out, Hga.out]; simpa using hx'⟩
    · obtain rfl : k = l.length := by omega
      have e1 : ptB hs[l.length]? = .pointer none := ptB_none (by rw [h.len]; exact Nat.le_refl _)
      rw [e1]
      clear e1
      go_wp2
      go_ret
      exact ⟨rfl, .inr ⟨rfl, Hn.out⟩⟩

theorem newS_town {l : List Rd} {t : Int} {k : Nat} (hk : k < l.length) (h : (l.getD k rd0).a = t) : newS l l.length t = false := by
  rw [Bool.eq_false_iff]
  intro h'
  exact (newS_iff _ _ _).1 h' k hk h

set_option maxHeartbeats 400000 in
theorem takes_any (tb : Nat) (hs : List Nat) (l : List Rd) (a b m : Int) (w : World) (h : TT w tb hs l) (hl : l.length ≤ 8) (hb : 0 ≤ b) :
    Calls Try.prog 104 #[.pointer (some ⟨tb, 0, none⟩), .agg #[.int .i64 a, .int .i64 b, .int .i64 m]] w fun e w' => e = .returned (.bool (decide (lastS l l.length < b) && newS l l.length a)) ∧ Below w.heap.size w w' := by
  have hlt := h.top.lt
  have H := Lib.hid h
  have Hlt := Lib.hid hlt
  cases hll : l.length with
  | zero =>
    have c1 : (w.alloc (.cells #[.int .i64 a, .int .i64 b, .int .i64 m] 77)).cell? ⟨tb, 1, none⟩ = some (.pointer none) := by
      rw [World.cell?_alloc_lt w _ _ hlt]; exact h.last_none hll
    have hb0 : Below w.heap.size w (w.alloc (.cells #[.int .i64 a, .int .i64 b, .int .i64 m] 77)) := (Below.refl _ _).alloc (Nat.le_refl _) _
    have e1 : (decide (lastS l 0 < b) && newS l 0 a) = true := by
      have h1 : lastS l 0 = -1 := rfl
      have h2 : newS l 0 a = true := rfl
      rw [h1, h2]; simp; omega
    rw [e1]
    have Hll := Lib.hid hll
    clear e1 h hll hlt
    go_enter Try.func104, Try.ntmps104
    go_wp2
    go_quiet (fail)
    go_wp2_with fail
    refine (in_any tb hs l a _ ((H.out.below hb0).drewN _) hl).mono ?_
    rintro e w' ⟨rfl, h2⟩
    obtain rfl : e = .returned (.pointer none) := by
      rcases h2 with ⟨k, hk, _⟩ | ⟨he, _⟩
      · have := Hll.out; omega
      · exact he
    clear h2
    go_wp2
    go_ret
    exact ⟨rfl, hb0.drewN _⟩
  | succ k =>
    have hk : k < l.length := by omega
    have hbk := (h.halts k hk).lt
    have c1 : (w.alloc (.cells #[.int .i64 a, .int .i64 b, .int .i64 m] 77)).cell? ⟨tb, 1, none⟩ = some (.pointer (some ⟨hs.getD k 0, 0, none⟩)) := by
      rw [World.cell?_alloc_lt w _ _ hlt]; exact h.last_some hll
    have c2 : (w.alloc (.cells #[.int .i64 a, .int .i64 b, .int .i64 m] 77)).cell? ⟨hs.getD k 0, 2, none⟩ = some (.int .i64 (l.getD k rd0).m) := by
      rw [World.cell?_alloc_lt w _ _ hbk]; exact h.leave hk
    have hb0 : Below w.heap.size w (w.alloc (.cells #[.int .i64 a, .int .i64 b, .int .i64 m] 77)) := (Below.refl _ _).alloc (Nat.le_refl _) _
    have e0 : lastS l (k + 1) = (l.getD k rd0).m := rfl
    rw [e0]
    have Hll := Lib.hid hll
    generalize hgb : hs.getD k 0 = bk at *
    generalize hgm : (l.getD k rd0).m = x at *
    by_cases hx : x < b
    · have hd : decide (b ≤ x) = false := by simp; omega
      have hd2 : decide (x < b) = true := by simpa using hx
      rw [hd2, Bool.true_and, show newS l (k + 1) a = newS l l.length a by rw [hll]]
      clear hd2 h hll hlt hk hbk e0 hgb hgm
      go_enter Try.func104, Try.ntmps104
      go_wp2
      go_quiet (fail)
      go_wp2_with fail
      refine (in_any tb hs l a _ ((H.out.below hb0).drewN _) hl).mono ?_
      rintro e w' ⟨rfl, h2⟩
      rcases h2 with ⟨j, hj, rfl, _, ht⟩ | ⟨rfl, hn⟩
      · have hn := newS_town hj ht
        have Hn := Lib.hid hn; clear hn ht hj
        go_wp2
        go_ret
        exact ⟨ret_bool Hn.out.symm, hb0.drewN _⟩
      · have Hn := Lib.hid hn; clear hn
        go_wp2
        go_ret
        exact ⟨ret_bool Hn.out.symm, hb0.drewN _⟩
    · have hd : decide (b ≤ x) = true := by simp; omega
      have hd2 : decide (x < b) = false := by simpa using hx
      rw [hd2, Bool.false_and]
      clear hd2 h hll hlt hk hbk e0 hgb hgm hx
      go_enter Try.func104, Try.ntmps104
      go_wp2
      go_quiet (fail)
      go_wp2
      go_ret
      exact ⟨rfl, hb0.drewN _⟩

/-- What 'add' leaves. -/
def AddOut (tb : Nat) (hs : List Nat) (l : List Rd) (r : Rd) (w : World) (e : Ending) (w' : World) : Prop :=
  e = .returned (.tuple #[]) ∧ (∃ nb, w.heap.size ≤ nb ∧ nb < w'.heap.size ∧ TT w' tb (hs ++ [nb]) (l ++ [r])) ∧ Below tb w w'

set_option maxHeartbeats 400000 in
theorem add_any (tb : Nat) (hs : List Nat) (l : List Rd) (a b m : Int) (i : Int) (w : World) (h : TT w tb hs l) (hi : i = (l.length : Int)) :
    Calls Try.prog 105 #[.pointer (some ⟨tb, 0, none⟩), .int .i64 i, .agg #[.int .i64 a, .int .i64 b, .int .i64 m]] w (AddOut tb hs l ⟨a, b, m⟩ w) := by
  have hlt := h.top.lt
  have H := Lib.hid h
  have Hi := Lib.hid hi; clear hi
  cases hll : l.length with
  | zero =>
    obtain rfl : l = [] := List.eq_nil_of_length_eq_zero hll
    obtain rfl : hs = [] := List.eq_nil_of_length_eq_zero (by rw [h.len]; rfl)
    obtain rfl : i = 0 := by have := Hi.out; simpa using this
    have c1 := h.last_none rfl
    have c0 := h.first_none rfl
    have f0 := h.top.free 0
    have f1 := h.top.free 1
    clear h hll
    go_enter Try.func105, Try.ntmps105
    go_wp2
    go_region
    go_wp2
    go_end0
    refine ⟨rfl, ⟨w.heap.size + 1, by omega, by simp, ?_⟩, ?_⟩
    · refine H.out.push_first (r := ⟨a, b, m⟩) (w' := _) ?_ ?_ (by omega)
      · exact (((Below.refl _ _).alloc (by simp) _).alloc (by simp) _).drew
      · exact Whole.made2 _ _ _ _ (by simp)
    · exact ((((Below.refl _ _).setCell (by simp) _).setCell (by simp) _).alloc (by simp; omega) _).alloc (by simp; omega) _ |>.drew
  | succ k =>
    have hk : k < l.length := by omega
    obtain rfl : i = ((k + 1 : Nat) : Int) := by rw [Hi.out, hll]
    have c1 := h.last_some hll
    have f1 := h.top.free 1
    have c5 := h.next_none (show k + 1 = l.length by omega)
    have f5 := (h.halts k hk).free 5
    have hup := h.up k hk
    have hne : tb ≠ hs.getD k 0 := by omega
    have Hll := Lib.hid hll
    have hbk := (h.halts k hk).lt
    clear h hll hk
    generalize hgb : hs.getD k 0 = bk at *
    have Hgb := Lib.hid hgb; clear hgb
    go_enter Try.func105, Try.ntmps105
    go_wp2
    go_region
    go_wp2
    go_end0
    refine ⟨rfl, ⟨w.heap.size + 1, by omega, by simp, ?_⟩, ?_⟩
    · refine H.out.push_more (r := ⟨a, b, m⟩) (w' := _) Hll.out ?_ ?_ (by omega)
      · rw [Hgb.out]; exact (((Below.refl _ _).alloc (by simp) _).alloc (by simp) _).drew
      · rw [Hgb.out]; exact Whole.made2 _ _ _ _ (by simp)
    · exact ((((Below.refl _ _).setCell (by simp; omega) _).setCell (by simp) _).alloc (by simp; omega) _).alloc (by simp; omega) _ |>.drew

end Go.Proofs.Ytmkcnoaphoiiaaa
