/- The model's l7Ok, l7Ready. -/
import Derived.Test.YtmkcnoaphoiiaaaM1
import Derived.Test.YtmkcnoaphoiiaaaJR
import Derived.BigRegion
import Derived.Shelf.RegionOpen
namespace Go.Proofs.Ytmkcnoaphoiiaaa
open Go.RowKit

set_option maxRecDepth 100000 in
set_option maxHeartbeats 1000000 in
theorem l7Ok_any (n : Int) (v : Value) (net : List (List Rd)) (f t0 ch : Int) (w : World) (hv : NtIn w v net) (hm : totN net ≤ 1048577) (wn : W64 n) :
    Calls Try.prog 64 #[.int .i64 n, v, .int .i64 f, .int .i64 t0, .int .i64 ch] w (Gives (.bool (okT7 n net f t0 ch)) w) := by
  have HC := Lib.hid (netValid1_any n v net w hv hm)
  have Hk := Lib.hid (show okT7 n net f t0 ch = (okNet n net && okDl ch && isTown n f && isT t0) from rfl)
  clear hv hm
  cases hp : okNet n net with
  | false =>
    rw [hp] at HC
    have Ho := Lib.hid (show okT7 n net f t0 ch = false by rw [Hk.out, hp]; rfl)
    clear hp Hk
    go_enter Try.func64, Try.ntmps64
    go_wp2_with fail
    refine HC.out.mono ?_; rintro e w1 ⟨rfl, hb⟩
    go_wp2
    go_ret
    exact ⟨ret_bool (by rw [Ho.out]), hb⟩
  | true =>
    rw [hp] at HC Hk
    have hn := (okNet_iff.1 hp).1
    have n1 := hn.1
    have n8 := hn.2.1
    clear hp hn
    have hI := fun (x lo hi : Int) (w : World) => l6In_any x lo hi w
    by_cases hf : 0 ≤ f ∧ f ≤ n - 1
    · have hf1 : inB f 0 (n - 1) = true := (inB_iff _ _ _).2 hf
      have hf2 : isTown n f = true := isTown_iff.2 ⟨hf.1, by omega⟩
      rw [hf2] at Hk
      by_cases ht : 0 ≤ t0 ∧ t0 ≤ 10000
      · have ht1 : inB t0 0 10000 = true := (inB_iff _ _ _).2 ht
        rw [(isT_iff t0).2 ht] at Hk
        by_cases hc : 0 ≤ ch ∧ ch ≤ 300
        · have hc1 : inB ch 0 300 = true := (inB_iff _ _ _).2 hc
          rw [okDl_iff.2 hc] at Hk
          clear hf ht hc hf2 hI
          go_enter Try.func64, Try.ntmps64
          go_wp2_with fail
          refine HC.out.mono ?_; rintro e w1 ⟨rfl, hb⟩
          go_wp2_with (go_at_call 59; refine (l6In_any _ _ _ _).mono ?_; rintro e w' ⟨rfl, rfl⟩)
          go_ret
          exact ⟨ret_bool (by rw [Hk.out]; simp [hc1]), hb⟩
        · have hc1 : inB ch 0 300 = false := Bool.eq_false_iff.2 (fun h => hc ((inB_iff _ _ _).1 h))
          rw [show okDl ch = false from Bool.eq_false_iff.2 (fun h => hc (okDl_iff.1 h))] at Hk
          clear hf ht hc hf2 hI
          go_enter Try.func64, Try.ntmps64
          go_wp2_with fail
          refine HC.out.mono ?_; rintro e w1 ⟨rfl, hb⟩
          go_wp2_with (go_at_call 59; refine (l6In_any _ _ _ _).mono ?_; rintro e w' ⟨rfl, rfl⟩)
          go_ret
          exact ⟨ret_bool (by rw [Hk.out]; simp [hc1]), hb⟩
      · have ht1 : inB t0 0 10000 = false := Bool.eq_false_iff.2 (fun h => ht ((inB_iff _ _ _).1 h))
        rw [show isT t0 = false from Bool.eq_false_iff.2 (fun h => ht ((isT_iff t0).1 h))] at Hk
        clear hf ht hf2 hI
        go_enter Try.func64, Try.ntmps64
        go_wp2_with fail
        refine HC.out.mono ?_; rintro e w1 ⟨rfl, hb⟩
        go_wp2_with (go_at_call 59; refine (l6In_any _ _ _ _).mono ?_; rintro e w' ⟨rfl, rfl⟩)
        go_ret
        exact ⟨ret_bool (by rw [Hk.out]; simp), hb⟩
    · have hf1 : inB f 0 (n - 1) = false := Bool.eq_false_iff.2 (fun h => hf ((inB_iff _ _ _).1 h))
      rw [show isTown n f = false from Bool.eq_false_iff.2 (fun h => hf (by have := isTown_iff.1 h; omega))] at Hk
      clear hf hI
      go_enter Try.func64, Try.ntmps64
      go_wp2_with fail
      refine HC.out.mono ?_; rintro e w1 ⟨rfl, hb⟩
      go_wp2_with (go_at_call 59; refine (l6In_any _ _ _ _).mono ?_; rintro e w' ⟨rfl, rfl⟩)
      go_ret
      exact ⟨ret_bool (by rw [Hk.out]; simp), hb⟩

/-- A table of times in memory. -/
def TbOk (N : Nat) (T : List Int) : Prop := T.length = N ∧ ∀ i, i < N → -1 ≤ fT T (i : Int) ∧ fT T (i : Int) ≤ 10000
theorem fT_get {T : List Int} {i : Nat} (h : i < T.length) : fT T (i : Int) = T.getD i 0 := by
  rw [fT_at]; simp [List.getD, h]
structure TabAt (w : World) (g N : Nat) (T : List Int) : Prop where
  ok : TbOk N T
  lt : g < w.heap.size
  at_ : IntAt w g 0 T
  room : Room w g N

section
variable {w w' : World} {g N : Nat} {T : List Int}
theorem TabAt.cell (h : TabAt w g N T) {i : Nat} (hi : i < N) : w.cell? ⟨g, i, none⟩ = some (.int .i64 (fT T (i : Int))) := by
  have := h.at_ i (by rw [h.ok.1]; exact hi)
  rw [Nat.zero_add] at this
  rw [this, fT_get (by rw [h.ok.1]; exact hi)]
theorem TabAt.below (h : TabAt w g N T) (hb : Below w.heap.size w w') : TabAt w' g N T :=
  ⟨h.ok, Nat.lt_of_lt_of_le h.lt hb.size, h.at_.below hb h.lt, h.room.below hb h.lt⟩
theorem TabAt.set (h : TabAt w g N T) {i : Nat} (hi : i < N) {x : Int} (h0 : -1 ≤ x) (h1 : x ≤ 10000) : TabAt (w.setCell ⟨g, i, none⟩ (.int .i64 x)) g N (T.set i x) := by
  have hl := h.ok.1
  refine ⟨⟨by simpa using hl, fun j hj => ?_⟩, by simpa using h.lt, fun j hj => ?_, h.room.setCell _ _⟩
  · have e := fT_set (T := T) (a := (i : Int)) (x := x) (u := (j : Int)) (by omega) (by omega) (by omega)
    rw [show ((i : Int)).toNat = i from rfl] at e
    rw [e]
    split
    · exact ⟨h0, h1⟩
    · exact h.ok.2 j hj
  · simp only [List.length_set] at hj
    rw [Nat.zero_add]
    by_cases hij : i = j
    · subst hij
      obtain ⟨u, hu⟩ := h.room.1 i hi
      rw [World.cell?_setCell_same _ _ _ hu]
      simp [List.getD, hj]
    · rw [World.cell?_setCell_other _ _ _ _ (by intro e; injection e; omega)]
      have := h.at_ j hj
      rw [Nat.zero_add] at this
      rw [this]
      simp [List.getD, List.getElem?_set, hij]
end

set_option maxRecDepth 100000 in
set_option maxHeartbeats 1000000 in
theorem l7Ready_any (g N cap : Nat) (T : List Int) (f a b m ch : Int) (w : World) (h : TabAt w g N T) (ha : 0 ≤ a ∧ a < N) (hc0 : 0 ≤ ch) (hc1 : ch ≤ 300) :
    Calls Try.prog 96 #[.slice (some ⟨g, 0, none⟩) N cap, .int .i64 f, .agg #[.int .i64 a, .int .i64 b, .int .i64 m], .int .i64 ch] w (Gives (.bool (rdyX T ch f ⟨a, b, m⟩)) w) := by
  obtain ⟨i, rfl⟩ : ∃ i : Nat, a = (i : Int) := ⟨a.toNat, by omega⟩
  have hi : i < N := by omega
  have hi' : (i : Int) < (N : Int) := by omega
  have hb : Below w.heap.size w (w.alloc (.cells #[.int .i64 (i : Int), .int .i64 b, .int .i64 m] 77)) := (Below.refl _ _).alloc (Nat.le_refl _) _
  have hl := Whole.made w 77 #[.int .i64 (i : Int), .int .i64 b, .int .i64 m]
  have c0 := (h.below hb).cell hi
  have e0 : (w.alloc (.cells #[.int .i64 (i : Int), .int .i64 b, .int .i64 m] 77)).cell? ⟨w.heap.size, 0, none⟩ = some (.int .i64 (i : Int)) := hl.cell rfl
  have e2 : (w.alloc (.cells #[.int .i64 (i : Int), .int .i64 b, .int .i64 m] 77)).cell? ⟨w.heap.size, 2, none⟩ = some (.int .i64 m) := hl.cell rfl
  obtain ⟨x0, x1⟩ := h.ok.2 i hi
  have HB := Lib.hid hb
  have HR := Lib.hid (show rdyX T ch f ⟨(i : Int), b, m⟩ = (decide (0 ≤ fT T (i : Int)) && decide (fT T (i : Int) + dl ch f (i : Int) ≤ m)) from rfl)
  clear h hb hl ha
  generalize fT T (i : Int) = x at *
  by_cases hx : x < 0
  · have Hr := Lib.hid (show rdyX T ch f ⟨(i : Int), b, m⟩ = false by rw [HR.out, decide_eq_false (by omega)]; rfl)
    clear HR
    go_enter Try.func96, Try.ntmps96
    go_wp2
    go_ret
    exact ⟨ret_bool (by rw [Hr.out]), HB.out⟩
  · rw [decide_eq_true (show 0 ≤ x by omega), Bool.true_and] at HR
    by_cases hf : (i : Int) = f
    · rw [show dl ch f (i : Int) = 0 from if_pos hf, Int.add_zero] at HR
      have hq : ((i : Int) == f) = true := by simpa using hf
      have Hf := Lib.hid hf
      clear hf
      by_cases hm : x ≤ m
      · have hd : decide (x ≤ m) = true := decide_eq_true hm
        go_enter Try.func96, Try.ntmps96
        go_wp2
        go_quiet (fail)
        all_goals go_wp2
        all_goals go_ret
        all_goals exact ⟨ret_bool (by rw [HR.out, hd]), by first | exact HB.out | exact HB.out.drewN _ | exact HB.out.drew⟩
      · have hd : decide (x ≤ m) = false := decide_eq_false hm
        go_enter Try.func96, Try.ntmps96
        go_wp2
        go_quiet (fail)
        all_goals go_wp2
        all_goals go_ret
        all_goals exact ⟨ret_bool (by rw [HR.out, hd]), by first | exact HB.out | exact HB.out.drewN _ | exact HB.out.drew⟩
    · rw [show dl ch f (i : Int) = ch from if_neg hf] at HR
      have hq : ((i : Int) == f) = false := by simpa using hf
      have hw : wrap64 (x + ch) = x + ch := by unfold wrap64; omega
      have hw2 : IntKind.i64.wrap (x + ch) = x + ch := IntWalk.i64_in _ (by omega)
      clear hf
      by_cases hm : x + ch ≤ m
      · have hd : decide (x + ch ≤ m) = true := decide_eq_true hm
        go_enter Try.func96, Try.ntmps96
        go_wp2
        go_quiet (fail)
        all_goals go_wp2
        all_goals go_ret
        all_goals exact ⟨ret_bool (by rw [HR.out, hd]), by first | exact HB.out | exact HB.out.drewN _ | exact HB.out.drew⟩
      · have hd : decide (x + ch ≤ m) = false := decide_eq_false hm
        go_enter Try.func96, Try.ntmps96
        go_wp2
        go_quiet (fail)
        all_goals go_wp2
        all_goals go_ret
        all_goals exact ⟨ret_bool (by rw [HR.out, hd]), by first | exact HB.out | exact HB.out.drewN _ | exact HB.out.drew⟩

end Go.Proofs.Ytmkcnoaphoiiaaa
