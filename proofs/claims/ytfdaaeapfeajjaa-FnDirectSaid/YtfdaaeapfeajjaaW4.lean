/- The program's networkOf, RoadsValid, RoadsDirect. -/
import Derived.Test.YtfdaaeapfeajjaaW2
import Derived.Test.YtfdaaeapfeajjaaW3
namespace Go.Proofs.Ytfdaaeapfeajjaa
open Go.RowKit

set_option maxHeartbeats 400000 in
theorem roadFits_any (n a b m : Int) (w : World) :
    Calls Try.prog 76 #[.int .i64 n, .agg #[.int .i64 a, .int .i64 b, .int .i64 m]] w (Gives (.bool (fits n ⟨a, b, m⟩)) w) := by
  have hf : fits n ⟨a, b, m⟩ = (decide (0 ≤ a) && decide (a < b) && decide (b < n) && decide (1 ≤ m) && decide (m ≤ 99)) := rfl
  have Hf := Lib.hid hf; clear hf
  by_cases h1 : 0 ≤ a
  · by_cases h2 : a < b
    · by_cases h3 : b < n
      · by_cases h4 : 1 ≤ m
        · go_enter Try.func76, Try.ntmps76
          go_wp2
          go_ret
          exact ⟨ret_bool (by rw [Hf.out]; simp [h1, h2, h3, h4]), (Below.refl _ _).alloc (Nat.le_refl _) _⟩
        · go_enter Try.func76, Try.ntmps76
          go_wp2
          go_ret
          exact ⟨ret_bool (by rw [Hf.out]; simp; omega), (Below.refl _ _).alloc (Nat.le_refl _) _⟩
      · go_enter Try.func76, Try.ntmps76
        go_wp2
        go_ret
        exact ⟨ret_bool (by rw [Hf.out]; simp; omega), (Below.refl _ _).alloc (Nat.le_refl _) _⟩
    · go_enter Try.func76, Try.ntmps76
      go_wp2
      go_ret
      exact ⟨ret_bool (by rw [Hf.out]; simp; omega), (Below.refl _ _).alloc (Nat.le_refl _) _⟩
  · go_enter Try.func76, Try.ntmps76
    go_wp2
    go_ret
    exact ⟨ret_bool (by rw [Hf.out]; simp; omega), (Below.refl _ _).alloc (Nat.le_refl _) _⟩

theorem joinE_eq (n : Int) (l : List Rd) (k : Nat) (hk : k < l.length) (h : okAt n l k = true) : joinE (edge (l.take k)) (l.getD k rd0).a (l.getD k rd0).b (l.getD k rd0).m = edge (l.take (k + 1)) := by
  funext x y
  rw [edge_snoc n l k hk h]
  unfold joinE setE
  by_cases h1 : x = (l.getD k rd0).b ∧ y = (l.getD k rd0).a
  · rw [if_pos h1, if_pos (.inr h1)]
  · rw [if_neg h1]
    by_cases h2 : x = (l.getD k rd0).a ∧ y = (l.getD k rd0).b
    · rw [if_pos h2, if_pos (.inl h2)]
    · rw [if_neg h2, if_neg (by intro h'; rcases h' with h' | h'; exact h2 h'; exact h1 h')]

/-- A network of its own, with the edges of l. -/
def NetOut (n : Int) (l : List Rd) (w : World) (e : Ending) (w' : World) : Prop :=
  ∃ (nb : Nat) (bs : Int → Nat) (cnt : Nat), e = .returned (.tuple #[.map (some nb), .bool true]) ∧ NetAt w' nb n bs cnt (edge l) ∧ cnt ≤ 32 ∧ w.heap.size ≤ nb ∧ (∀ t, 0 ≤ t → t < n → w.heap.size ≤ bs t) ∧ Below w.heap.size w w'

def NetNo (w : World) (e : Ending) (w' : World) : Prop := e = .returned (.tuple #[.map none, .bool false]) ∧ Below w.heap.size w w'

def NofRel (n : Int) (l : List Rd) (w : World) (i : Value) (wr : World) : Prop :=
  ∃ (k : Nat) (bs : Int → Nat), k ≤ l.length ∧ i = .int .i64 k ∧ okTo n l k = true ∧ NetAt wr w.heap.size n bs (2 * k) (edge (l.take k)) ∧ (∀ t, 0 ≤ t → t < n → w.heap.size < bs t) ∧ Below w.heap.size w wr

/-- What networkOf gives. -/
def NofOut (n : Int) (l : List Rd) (w : World) (e : Ending) (w' : World) : Prop :=
  (validR n l = true → NetOut n l w e w') ∧ (validR n l = false → NetNo w e w')

theorem nof_no {n : Int} {l : List Rd} {w w' : World} {e : Ending} (hz : validR n l = false) (h : NetNo w e w') : NofOut n l w e w' :=
  ⟨(fun h' => by rw [hz] at h'; cases h'), (fun _ => h)⟩
theorem nof_yes {n : Int} {l : List Rd} {w w' : World} {e : Ending} (hz : validR n l = true) (h : NetOut n l w e w') : NofOut n l w e w' :=
  ⟨(fun _ => h), (fun h' => by rw [hz] at h'; cases h')⟩

set_option maxHeartbeats 400000 in
theorem networkOf_big (n : Int) (v : Value) (l : List Rd) (w : World) (hv : RoadsIn w v l) (hl : l.length ≤ 1048577) (hw : RdWf l) :
    Calls Try.prog 54 #[.int .i64 n, v] w (NofOut n l w) := by
  obtain ⟨a, cap, rfl, ha⟩ := hv
  have Ha := Lib.hid ha; clear ha
  by_cases hn1 : 1 ≤ n
  · by_cases hn2 : n ≤ 8
    · by_cases h16 : l.length ≤ 16
      · have hn0 : 0 ≤ n := by omega
        have d16 : decide ((16 : Int) < (l.length : Int)) = false := by simp; omega
        go_enter Try.func54, Try.ntmps54
        go_wp2_with (go_at_call 75; refine (newNetwork_any _ _ hn0 hn2).mono ?_; rintro e w1 ⟨bs0, rfl, hnet0, hbs0, hbel0⟩)
        have Hbs0 := Lib.hid hbs0; clear hbs0
        go_loopw [24] (fun i wr => NofRel n l w i wr) (fun i _ => l.length - (intOf i).toNat)
        case atStart => exact ⟨0, bs0, Nat.zero_le _, rfl, rfl, (by rw [show edge (l.take 0) = fun _ _ => none from by funext x y; rfl]; exact hnet0), Hbs0.out, hbel0⟩
        case round =>
          obtain ⟨k, bs, hk, rfl, hok, hnet, hbs, hbel⟩ := hrel
          have Hok := Lib.hid hok; clear hok
          have Hbs := Lib.hid hbs; clear hbs
          by_cases hlt : k < l.length
          · obtain ⟨b, o, rfl, hb0, hrw⟩ := Ha.out (by intro h; simp [h] at hlt)
            obtain ⟨c0, c1, c2⟩ := (hrw.below hbel hb0) k hlt
            have Hrw := Lib.hid hrw; clear hrw
            have hwf := hw (l.getD k rd0) (by rw [getD_eq l hlt]; exact List.getElem_mem hlt)
            have hx : fits n ⟨(l.getD k rd0).a, (l.getD k rd0).b, (l.getD k rd0).m⟩ = fits n (l.getD k rd0) := rfl
            have Hx := Lib.hid hx; clear hx
            by_cases hf : fits n (l.getD k rd0) = true
            · by_cases hno : okAt n l k = true
              · have hne := (no_edge_iff n l k hf).2 hno
                have hd : dirOf n (edge (l.take k)) (l.getD k rd0).a (l.getD k rd0).b = -1 := by
                  have := (fits_iff _ _).1 hf
                  unfold dirOf; rw [if_pos (by omega), Option.isNone_iff_eq_none.1 hne]; rfl
                have hf' : fits n ⟨(l.getD k rd0).a, (l.getD k rd0).b, (l.getD k rd0).m⟩ = true := by rw [Hx.out]; exact hf
                have hj := joinE_eq n l k hlt hno
                have Hj := Lib.hid hj; clear hj hne
                have hok2 : okTo n l (k + 1) = true := by rw [okTo_succ, Hok.out, hno]; rfl
                have Hok2 := Lib.hid hok2; clear hok2 hno
                obtain ⟨f1, f2, f3, f4, f5⟩ := (fits_iff _ _).1 hf
                clear hf
                obtain ⟨w64a, w64b, w64m⟩ := hwf
                generalize (l.getD k rd0).a = ra at *
                generalize (l.getD k rd0).b = rb at *
                generalize (l.getD k rd0).m = rm at *
                have f0 : 0 ≤ rb := by omega
                have fa : ra < n := by omega
                have hc : 2 * k < 1000 := by omega
                go_wp2_with (first | (go_at_call 76; refine (roadFits_any _ _ _ _ _).mono ?_; rintro e w1 ⟨rfl, hb1⟩; have hq := (hnet.below ((Below.refl _ wr).alloc (Nat.le_refl _) _)).below hb1; have q0 := keepCell hb1 (a := ⟨wr.heap.size, 0, none⟩) (v := .int .i64 ra) (by simp); have q1 := keepCell hb1 (a := ⟨wr.heap.size, 1, none⟩) (v := .int .i64 rb) (by simp); have q2 := keepCell hb1 (a := ⟨wr.heap.size, 2, none⟩) (v := .int .i64 rm) (by simp)) | (go_at_call 55; refine (direct_any _ n bs (2 * k) _ _ _ _ (by assumption) w64a w64b).mono ?_; rintro e w2 ⟨rfl, rfl⟩) | (go_at_call 77; refine (join_any _ n bs (2 * k) _ _ _ _ _ (by assumption) f1 fa f0 f3 hn2 w64m hc).mono ?_; rintro e w3 ⟨rfl, hnet3, ht3⟩))
                have hs := hbel.size
                have b1 : Below w.heap.size w w1 := (hbel.alloc hbel.size _).trans (hb1.mono (by simp; omega))
                have b2 : Below w.heap.size w1 w3 := ht3.below (by
                  intro j hj
                  rcases hj with rfl | rfl
                  · exact Nat.le_of_lt (Hbs.out _ f1 fa)
                  · exact Nat.le_of_lt (Hbs.out _ f0 f3)) b1.size
                rw [Hj.out] at hnet3
                refine ⟨⟨k + 1, bs, hlt, by go_num, Hok2.out, hnet3, Hbs.out, b1.trans b2⟩, by simp [intOf]; omega⟩
              · have hne := mt (no_edge_iff n l k hf).1 hno
                have hz := validR_no (n := n) hlt (by simpa using hno)
                have Hz := Lib.hid hz; clear hz hno
                obtain ⟨m, hm⟩ : ∃ m, edge (l.take k) (l.getD k rd0).a (l.getD k rd0).b = some m := by
                  cases h : edge (l.take k) (l.getD k rd0).a (l.getD k rd0).b with
                  | none => rw [h] at hne; exact absurd rfl hne
                  | some m => exact ⟨m, rfl⟩
                have hm1 := (edge_bounds Hok.out hm).2.2.2.2.1
                have hd : dirOf n (edge (l.take k)) (l.getD k rd0).a (l.getD k rd0).b = m := by
                  have := (fits_iff _ _).1 hf
                  unfold dirOf; rw [if_pos (by omega), hm]; rfl
                have hmq : (m != -1) = true := by simp; omega
                have hf' : fits n ⟨(l.getD k rd0).a, (l.getD k rd0).b, (l.getD k rd0).m⟩ = true := by rw [Hx.out]; exact hf
                clear hf hne hm
                obtain ⟨w64a, w64b, w64m⟩ := hwf
                generalize (l.getD k rd0).a = ra at *
                generalize (l.getD k rd0).b = rb at *
                generalize (l.getD k rd0).m = rm at *
                go_wp2_with (first | (go_at_call 76; refine (roadFits_any _ _ _ _ _).mono ?_; rintro e w1 ⟨rfl, hb1⟩; have hq := (hnet.below ((Below.refl _ wr).alloc (Nat.le_refl _) _)).below hb1; have q0 := keepCell hb1 (a := ⟨wr.heap.size, 0, none⟩) (v := .int .i64 ra) (by simp); have q1 := keepCell hb1 (a := ⟨wr.heap.size, 1, none⟩) (v := .int .i64 rb) (by simp); have q2 := keepCell hb1 (a := ⟨wr.heap.size, 2, none⟩) (v := .int .i64 rm) (by simp)) | (go_at_call 55; refine (direct_any _ n bs (2 * k) _ _ _ _ (by assumption) w64a w64b).mono ?_; rintro e w2 ⟨rfl, rfl⟩))
                go_ret2
                exact nof_no Hz.out ⟨rfl, (hbel.alloc hbel.size _).trans (hb1.mono (by have := hbel.size; simp; omega))⟩
            · have hz := validR_no (n := n) hlt (by rw [Bool.eq_false_iff]; intro h; exact hf ((okAt_iff n l k).1 h).1)
              have Hz := Lib.hid hz; clear hz
              have hf' : fits n ⟨(l.getD k rd0).a, (l.getD k rd0).b, (l.getD k rd0).m⟩ = false := by rw [Hx.out]; simpa using hf
              clear hf
              generalize (l.getD k rd0).a = ra at *
              generalize (l.getD k rd0).b = rb at *
              generalize (l.getD k rd0).m = rm at *
              go_wp2_with (go_at_call 76; refine (roadFits_any _ _ _ _ _).mono ?_; rintro e w1 ⟨rfl, hb1⟩)
              go_ret2
              exact nof_no Hz.out ⟨rfl, (hbel.alloc hbel.size _).trans (hb1.mono (by have := hbel.size; simp; omega))⟩
          · obtain rfl : k = l.length := by omega
            have hz := validR_yes ⟨hn1, hn2, h16⟩ Hok.out
            have Hz := Lib.hid hz; clear hz
            have hnet' : NetAt wr w.heap.size n bs (2 * l.length) (edge l) := by have h := hnet; rwa [List.take_length] at h
            clear hnet
            go_wp2
            go_ret2
            exact nof_yes Hz.out ⟨w.heap.size, bs, 2 * l.length, rfl, hnet', by omega, Nat.le_refl _, fun t t0 t1 => Nat.le_of_lt (Hbs.out t t0 t1), hbel⟩
      · have hz := validR_small (n := n) (l := l) (by omega)
        have Hz := Lib.hid hz; clear hz
        go_enter Try.func54, Try.ntmps54
        go_wp2
        go_ret2
        exact nof_no Hz.out ⟨rfl, Below.refl _ _⟩
    · have hz := validR_small (n := n) (l := l) (by omega)
      have Hz := Lib.hid hz; clear hz
      go_enter Try.func54, Try.ntmps54
      go_wp2
      go_ret2
      exact nof_no Hz.out ⟨rfl, Below.refl _ _⟩
  · have hz := validR_small (n := n) (l := l) (by omega)
    have Hz := Lib.hid hz; clear hz
    go_enter Try.func54, Try.ntmps54
    go_wp2
    go_ret2
    exact nof_no Hz.out ⟨rfl, Below.refl _ _⟩

theorem networkOf_any (n : Int) (v : Value) (l : List Rd) (w : World) (hv : RoadsIn w v l) (hl : l.length ≤ 1048576) (hw : RdWf l) :
    Calls Try.prog 54 #[.int .i64 n, v] w (NofOut n l w) := networkOf_big n v l w hv (by omega) hw

set_option maxHeartbeats 400000 in
theorem roadsValid_big (n : Int) (v : Value) (l : List Rd) (w : World) (hv : RoadsIn w v l) (hl : l.length ≤ 1048577) (hw : RdWf l) :
    Calls Try.prog 58 #[.int .i64 n, v] w (Gives (.bool (validR n l)) w) := by
  have hc := networkOf_big n v l w hv hl hw
  have Hc := Lib.hid hc; clear hc hv
  cases hz : validR n l with
  | true =>
    have Hz := Lib.hid hz; clear hz
    go_enter Try.func58, Try.ntmps58
    go_wp2_with (go_at_call 54; refine (Hc.out).mono ?_; rintro e w1 ⟨h1, _⟩; obtain ⟨nb, bs, cnt, rfl, _, _, _, _, hb⟩ := h1 Hz.out; clear h1)
    go_ret
    exact ⟨rfl, hb⟩
  | false =>
    have Hz := Lib.hid hz; clear hz
    go_enter Try.func58, Try.ntmps58
    go_wp2_with (go_at_call 54; refine (Hc.out).mono ?_; rintro e w1 ⟨_, h1⟩; obtain ⟨rfl, hb⟩ := h1 Hz.out; clear h1)
    go_ret
    exact ⟨rfl, hb⟩

theorem roadsValid_any (n : Int) (v : Value) (l : List Rd) (w : World) (hv : RoadsIn w v l) (hl : l.length ≤ 1048576) (hw : RdWf l) :
    Calls Try.prog 58 #[.int .i64 n, v] w (Gives (.bool (validR n l)) w) := roadsValid_big n v l w hv (by omega) hw

end Go.Proofs.Ytfdaaeapfeajjaa
