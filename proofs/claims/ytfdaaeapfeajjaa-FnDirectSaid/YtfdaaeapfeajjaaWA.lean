/- container/heap: up, down, Push, Pop, on *places. -/
import Derived.Test.YtfdaaeapfeajjaaW9
namespace Go.Proofs.Ytfdaaeapfeajjaa
open Go.RowKit

theorem nck (P : Program) (a : Addr) (s t : ByteArray) (w : World) : (Builtin.ssaWrapNilChk_ #[124] 124 #[.pointer (some a), .string s, .string t]).run P w = .ok (.pointer (some a)) w := rfl

/-- A method of places, called through a pointer in an interface value. -/
theorem meth_val (name : String) (f : FuncId) (hf : ((Try.prog.info? 124).bind fun i => (i.methods.find? (·.name == name)).map fun m => (m.path, m.func)) = some (#[], some (f, false)))
    (X : Nat) (w : World) (v : Value) (h : w.cell? ⟨X, 0, none⟩ = some v) : (method 277 124 (.pointer (some ⟨X, 0, none⟩)) name).run Try.prog w = .ok (f, v) w := by
  have hu := Try.underlying128
  obtain ⟨i, s, r, hi, hm⟩ : ∃ i s r, Try.prog.info? 124 = some i ∧ i.methods.find? (·.name == name) = some ⟨r, s, #[], some (f, false)⟩ := by
    cases hh : Try.prog.info? 124 with
    | none => rw [hh] at hf; cases hf
    | some i =>
      rw [hh] at hf
      simp at hf
      obtain ⟨⟨r, s, p, f⟩, h1, h2, h3⟩ := hf
      simp at h2 h3
      subst h2 h3
      exact ⟨i, s, r, rfl, h1⟩
  have h83 := Try.underlying124
  unfold method
  simp [typeInfo, hi, hm, follow, receiverAt, run_underlying h83, nck, Place.get, Result.andThen, strVal, asAddr]
  go_simp

theorem meth_Less (X : Nat) (w : World) (v : Value) (h : w.cell? ⟨X, 0, none⟩ = some v) : (method 277 124 (.pointer (some ⟨X, 0, none⟩)) "Less").run Try.prog w = .ok (119, v) w :=
  meth_val "Less" _ (by kernel_rfl) X w v h
theorem meth_Swap (X : Nat) (w : World) (v : Value) (h : w.cell? ⟨X, 0, none⟩ = some v) : (method 277 124 (.pointer (some ⟨X, 0, none⟩)) "Swap").run Try.prog w = .ok (122, v) w :=
  meth_val "Swap" _ (by kernel_rfl) X w v h
theorem meth_Len (X : Nat) (w : World) (v : Value) (h : w.cell? ⟨X, 0, none⟩ = some v) : (method 277 124 (.pointer (some ⟨X, 0, none⟩)) "Len").run Try.prog w = .ok (79, v) w :=
  meth_val "Len" _ (by kernel_rfl) X w v h
theorem meth_Push (a : Addr) (w : World) : (method 277 124 (.pointer (some a)) "Push").run Try.prog w = .ok (121, .pointer (some a)) w := by kernel_rfl
theorem meth_Pop (a : Addr) (w : World) : (method 277 124 (.pointer (some a)) "Pop").run Try.prog w = .ok (120, .pointer (some a)) w := by kernel_rfl

theorem less_int (F1 g cap : Nat) (l : List Pl) (a b : Int) (i j : Nat) (w : World) (h : RowP w F1 g cap l) (ha : a = (i : Int)) (hb : b = (j : Int)) (hi : i < l.length) (hj : j < l.length) :
    Calls Try.prog 119 #[.slice (some ⟨g, 0, none⟩) l.length cap, .int .i64 a, .int .i64 b] w fun e w' => e = .returned (.bool (lessB (farAt l i) (farAt l j))) ∧ ∃ m, w' = w.drewN m := by
  subst ha hb; exact less_any F1 g cap l i j w h hi hj
theorem swap_int (F1 g cap : Nat) (l : List Pl) (a b : Int) (i j : Nat) (w : World) (h : RowP w F1 g cap l) (ha : a = (i : Int)) (hb : b = (j : Int)) (hi : i < l.length) (hj : j < l.length) :
    Calls Try.prog 122 #[.slice (some ⟨g, 0, none⟩) l.length cap, .int .i64 a, .int .i64 b] w (SwapOut F1 g cap l i j w) := by
  subst ha hb; exact swap_any F1 g cap l i j w h hi hj

/-- What up and down give: a heap of the same places. -/
def HeapOut (F1 g cap n : Nat) (l : List Pl) (w : World) (w' : World) : Prop :=
  ∃ l' : List Pl, l'.length = l.length ∧ RowP w' F1 g cap l' ∧ HeapTo l' n ∧ (∀ p, p ∈ l' ↔ p ∈ l) ∧ (∀ k, n ≤ k → l'.getD k pl0 = l.getD k pl0) ∧ w.grownBy w' (some g)

def UpRel (F1 g cap : Nat) (l : List Pl) (w : World) (i : Value) (wr : World) : Prop :=
  ∃ (k : Nat) (l' : List Pl), k < l.length ∧ i = .int .i64 k ∧ l'.length = l.length ∧ RowP wr F1 g cap l' ∧ UpOk l' l.length k ∧ (∀ p, p ∈ l' ↔ p ∈ l) ∧ w.grownBy wr (some g)

theorem up_out {F1 g cap : Nat} {l l' : List Pl} {w wr : World} {k : Nat} (h1 : l'.length = l.length) (h2 : RowP wr F1 g cap l') (h3 : UpOk l' l.length k) (h4 : ∀ p, p ∈ l' ↔ p ∈ l) (h5 : w.grownBy wr (some g)) (hd : k = 0 ∨ farAt l' ((k - 1) / 2) ≤ farAt l' k) :
    HeapOut F1 g cap l.length l w wr :=
  ⟨l', h1, h2, h3.done hd, h4, fun k hk => by simp [List.getD, h1, hk], h5⟩

set_option maxRecDepth 100000 in
set_option maxHeartbeats 1000000 in
theorem up_any (F1 g cap X j : Nat) (l : List Pl) (w : World) (hx : w.cell? ⟨X, 0, none⟩ = some (.slice (some ⟨g, 0, none⟩) l.length cap)) (h : RowP w F1 g cap l) (hj : j < l.length) (hm : l.length < 1002) (hgx : g ≠ X) (hup : UpOk l l.length j) :
    Calls Try.prog 90 #[.iface 124 (.pointer (some ⟨X, 0, none⟩)), .int .i64 j] w fun e w' => e = .returned (.tuple #[]) ∧ HeapOut F1 g cap l.length l w w' := by
  have hgX : some X ≠ some g := fun e => hgx (by injection e with e; exact e.symm)
  have Hx := Lib.hid hx; clear hx
  go_enter Try.func90, Try.ntmps90
  go_wp2
  go_loopw [1] (fun i wr => UpRel F1 g cap l w i wr) (fun i _ => (intOf i).toNat)
  case atStart => exact ⟨j, l, hj, rfl, rfl, h, hup, fun _ => Iff.rfl, World.grownBy.refl _ _⟩
  case round =>
    clear h hup hj
    obtain ⟨k, l', hk, rfl, hlen, hrow, hok, hmem, hg⟩ := hrel
    have hx : wr.cell? ⟨X, 0, none⟩ = some (.slice (some ⟨g, 0, none⟩) l'.length cap) := by rw [hlen]; exact hg.cell Hx.out hgX
    have hLess := fun w => meth_Less X w (.slice (some ⟨g, 0, none⟩) l'.length cap)
    have hSwap := fun w => meth_Swap X w (.slice (some ⟨g, 0, none⟩) l'.length cap)
    have Hmem := Lib.hid hmem; clear hmem
    have Hlen := Lib.hid hlen; clear hlen
    have Hok := Lib.hid hok; clear hok
    by_cases h0 : 0 < k
    · have hk1 : (1 : Int) ≤ (k : Int) := by omega
      have hk2 : (0 : Int) ≤ (k : Int) - 1 := by omega
      obtain ⟨q, hq, hqe⟩ : ∃ q : Nat, ((k : Int) - 1) / 2 = (q : Int) ∧ q = (k - 1) / 2 := ⟨(k - 1) / 2, by omega, rfl⟩
      have hqk : ((q : Int) == (k : Int)) = false := by simp; omega
      have hqk2 : q < k := by omega
      have Hqe := Lib.hid hqe; clear hqe
      by_cases hlt : farAt l' k < farAt l' q
      · have hl : lessB (farAt l' k) (farAt l' q) = true := by simp [lessB, hlt]
        have Hlt := Lib.hid hlt; clear hlt
        go_wp2_with (first | (go_at_call 119; refine (less_any F1 g cap l' k q _ hrow (by have := Hlen.out; omega) (by have := Hlen.out; omega)).mono ?_; rw [hl]; rintro e w1 ⟨rfl, m, rfl⟩))
        refine (swap_any F1 g cap l' q k (wr.drewN m) (RowP.kept (w' := wr.drewN m) hrow rfl) (by have := Hlen.out; omega) (by have := Hlen.out; omega)).mono ?_
        rintro e w1 ⟨rfl, hrow1, hg1, _⟩
        go_wp2
        have hl2 := Hlen.out
        have hkq := Hqe.out
        subst hkq
        refine ⟨⟨(k - 1) / 2, swapL l' ((k - 1) / 2) k, by omega, rfl, by rw [swapL_length]; exact hl2, hrow1, Hok.out.step (by omega) h0 hk Hlt.out, fun p => (swapL_mem l' (by omega) (by omega) p).trans (Hmem.out p), (grown_drewN hg m).trans hg1⟩, by simp [intOf]; omega⟩
      · have hl : lessB (farAt l' k) (farAt l' q) = false := by simp [lessB]; omega
        have Hlt := Lib.hid hlt; clear hlt
        go_wp2_with (first | (go_at_call 119; refine (less_any F1 g cap l' k q _ hrow (by have := Hlen.out; omega) (by have := Hlen.out; omega)).mono ?_; rw [hl]; rintro e w1 ⟨rfl, m, rfl⟩))
        go_end0
        have hkq := Hqe.out
        subst hkq
        have hnl := Hlt.out
        exact ⟨rfl, up_out Hlen.out (hrow.kept rfl) Hok.out Hmem.out (grown_drewN hg m) (.inr (by omega))⟩
    · obtain rfl : k = 0 := by omega
      go_wp2
      go_end0
      exact ⟨rfl, up_out Hlen.out hrow Hok.out Hmem.out hg (.inl rfl)⟩

def DownRel (F1 g cap n : Nat) (l : List Pl) (w : World) (i : Value) (wr : World) : Prop :=
  ∃ (k : Nat) (l' : List Pl), k < l.length ∧ i = .int .i64 k ∧ l'.length = l.length ∧ RowP wr F1 g cap l' ∧ DownOk l' n k ∧ (∀ p, p ∈ l' ↔ p ∈ l) ∧ (∀ k, n ≤ k → l'.getD k pl0 = l.getD k pl0) ∧ w.grownBy wr (some g)

def DownOut (F1 g cap n : Nat) (l : List Pl) (w : World) (e : Ending) (w' : World) : Prop := (∃ b : Bool, e = .returned (.bool b)) ∧ HeapOut F1 g cap n l w w'

theorem swap_tail {l : List Pl} {i j n : Nat} (hi : i < n) (hj : j < n) (hn : n ≤ l.length) (k : Nat) (hk : n ≤ k) : (swapL l i j).getD k pl0 = l.getD k pl0 := by
  rw [swapL_getD l (by omega) (by omega), if_neg (by omega), if_neg (by omega)]

set_option maxRecDepth 100000 in
set_option maxHeartbeats 4000000 in
theorem down_any (F1 g cap X n : Nat) (l : List Pl) (w : World) (hx : w.cell? ⟨X, 0, none⟩ = some (.slice (some ⟨g, 0, none⟩) l.length cap)) (h : RowP w F1 g cap l) (hn : n < l.length) (hm : l.length < 1002) (hgx : g ≠ X) (hdn : DownOk l n 0) :
    Calls Try.prog 89 #[.iface 124 (.pointer (some ⟨X, 0, none⟩)), .int .i64 0, .int .i64 n] w (DownOut F1 g cap n l w) := by
  have hgX : some X ≠ some g := fun e => hgx (by injection e with e; exact e.symm)
  have Hx := Lib.hid hx; clear hx
  go_enter Try.func89, Try.ntmps89
  go_wp2
  go_loopw [7] (fun i wr => DownRel F1 g cap n l w i wr) (fun i _ => l.length - (intOf i).toNat)
  case atStart => exact ⟨0, l, by omega, rfl, rfl, h, hdn, fun _ => Iff.rfl, fun _ _ => rfl, World.grownBy.refl _ _⟩
  case round =>
    clear h hdn
    obtain ⟨k, l', hk, rfl, hlen, hrow, hok, hmem, htail, hg⟩ := hrel
    have hx : wr.cell? ⟨X, 0, none⟩ = some (.slice (some ⟨g, 0, none⟩) l'.length cap) := by rw [hlen]; exact hg.cell Hx.out hgX
    have hLess := fun w => meth_Less X w (.slice (some ⟨g, 0, none⟩) l'.length cap)
    have hSwap := fun w => meth_Swap X w (.slice (some ⟨g, 0, none⟩) l'.length cap)
    have Hmem := Lib.hid hmem; clear hmem
    have Htail := Lib.hid htail; clear htail
    have Hlen := Lib.hid hlen; clear hlen
    have Hok := Lib.hid hok; clear hok
    by_cases hj1 : 2 * k + 1 < n
    · have hj1' : 2 * (k : Int) + 1 < (n : Int) := by omega
      have hj0' : (0 : Int) ≤ 2 * (k : Int) + 1 := by omega
      by_cases hj2 : 2 * k + 2 < n
      · have hj2' : 2 * (k : Int) + 1 + 1 < (n : Int) := by omega
        by_cases hlt : farAt l' (2 * k + 2) < farAt l' (2 * k + 1)
        · have hc : lessB (farAt l' (2 * k + 2)) (farAt l' (2 * k + 1)) = true := by simp [lessB, hlt]
          have hmin : ∀ c, 0 < c → c < n → (c - 1) / 2 = k → farAt l' (2 * k + 2) ≤ farAt l' c := fun c h1 h2 h3 => by
            rcases (show c = 2 * k + 1 ∨ c = 2 * k + 2 by omega) with rfl | rfl <;> omega
          have Hmin := Lib.hid hmin; clear hmin hlt
          by_cases hl : farAt l' (2 * k + 2) < farAt l' k
          · have hlb : lessB (farAt l' (2 * k + 2)) (farAt l' k) = true := by simp [lessB]; omega
            have Hl := Lib.hid hl; clear hl
            go_wp2_with fail
            refine (less_int F1 g cap l' _ _ (2 * k + 2) (2 * k + 1) _ hrow (by omega) (by omega) (by have := Hlen.out; omega) (by have := Hlen.out; omega)).mono ?_
            rw [hc]; rintro e w1 ⟨rfl, m1, rfl⟩
            go_wp2_with fail
            refine (less_int F1 g cap l' _ _ (2 * k + 2) k _ (RowP.kept (w' := (wr.drewN m1)) hrow rfl) (by omega) rfl (by have := Hlen.out; omega) (by have := Hlen.out; omega)).mono ?_
            rw [hlb]; rintro e w2 ⟨rfl, m2, rfl⟩
            go_wp2_with fail
            refine (swap_int F1 g cap l' _ _ k (2 * k + 2) (wr.drewN (m1 + m2)) (RowP.kept (w' := wr.drewN (m1 + m2)) hrow rfl) rfl (by omega) (by have := Hlen.out; omega) (by have := Hlen.out; omega)).mono ?_
            rintro e w3 ⟨rfl, hrow3, hg3, _⟩
            go_wp2
            have hl2 := Hlen.out
            refine ⟨⟨2 * k + 2, swapL l' k (2 * k + 2), by omega, congrArg (Value.int .i64) (by omega), by rw [swapL_length]; exact hl2, hrow3, Hok.out.step (by omega) (by omega) (by omega) (by omega) Hl.out Hmin.out, fun p => (swapL_mem l' (by omega) (by omega) p).trans (Hmem.out p), fun c hc2 => (swap_tail (n := n) (by omega) (by omega) (by omega) c hc2).trans (Htail.out c hc2), World.grownBy.trans (grown_drewN hg _) hg3⟩, by simp [intOf]; omega⟩
          · have hlb : lessB (farAt l' (2 * k + 2)) (farAt l' k) = false := by simp [lessB]; omega
            have Hl := Lib.hid hl; clear hl
            go_wp2_with fail
            refine (less_int F1 g cap l' _ _ (2 * k + 2) (2 * k + 1) _ hrow (by omega) (by omega) (by have := Hlen.out; omega) (by have := Hlen.out; omega)).mono ?_
            rw [hc]; rintro e w1 ⟨rfl, m1, rfl⟩
            go_wp2_with fail
            refine (less_int F1 g cap l' _ _ (2 * k + 2) k _ (RowP.kept (w' := (wr.drewN m1)) hrow rfl) (by omega) rfl (by have := Hlen.out; omega) (by have := Hlen.out; omega)).mono ?_
            rw [hlb]; rintro e w2 ⟨rfl, m2, rfl⟩
            go_wp2
            go_ret
            have hnl := Hl.out
            exact ⟨⟨_, rfl⟩, ⟨l', Hlen.out, RowP.kept (w' := wr.drewN (m1 + m2)) hrow rfl, Hok.out.done (fun c h1 h2 h3 => by have := Hmin.out c h1 h2 h3; omega), Hmem.out, Htail.out, grown_drewN hg _⟩⟩
        · have hc : lessB (farAt l' (2 * k + 2)) (farAt l' (2 * k + 1)) = false := by simp [lessB]; omega
          have hmin : ∀ c, 0 < c → c < n → (c - 1) / 2 = k → farAt l' (2 * k + 1) ≤ farAt l' c := fun c h1 h2 h3 => by
            rcases (show c = 2 * k + 1 ∨ c = 2 * k + 2 by omega) with rfl | rfl <;> omega
          have Hmin := Lib.hid hmin; clear hmin hlt
          by_cases hl : farAt l' (2 * k + 1) < farAt l' k
          · have hlb : lessB (farAt l' (2 * k + 1)) (farAt l' k) = true := by simp [lessB]; omega
            have Hl := Lib.hid hl; clear hl
            go_wp2_with fail
            refine (less_int F1 g cap l' _ _ (2 * k + 2) (2 * k + 1) _ hrow (by omega) (by omega) (by have := Hlen.out; omega) (by have := Hlen.out; omega)).mono ?_
            rw [hc]; rintro e w1 ⟨rfl, m1, rfl⟩
            go_wp2_with fail
            refine (less_int F1 g cap l' _ _ (2 * k + 1) k _ (RowP.kept (w' := (wr.drewN m1)) hrow rfl) (by omega) rfl (by have := Hlen.out; omega) (by have := Hlen.out; omega)).mono ?_
            rw [hlb]; rintro e w2 ⟨rfl, m2, rfl⟩
            go_wp2_with fail
            refine (swap_int F1 g cap l' _ _ k (2 * k + 1) (wr.drewN (m1 + m2)) (RowP.kept (w' := wr.drewN (m1 + m2)) hrow rfl) rfl (by omega) (by have := Hlen.out; omega) (by have := Hlen.out; omega)).mono ?_
            rintro e w3 ⟨rfl, hrow3, hg3, _⟩
            go_wp2
            have hl2 := Hlen.out
            refine ⟨⟨2 * k + 1, swapL l' k (2 * k + 1), by omega, congrArg (Value.int .i64) (by omega), by rw [swapL_length]; exact hl2, hrow3, Hok.out.step (by omega) (by omega) (by omega) (by omega) Hl.out Hmin.out, fun p => (swapL_mem l' (by omega) (by omega) p).trans (Hmem.out p), fun c hc2 => (swap_tail (n := n) (by omega) (by omega) (by omega) c hc2).trans (Htail.out c hc2), World.grownBy.trans (grown_drewN hg _) hg3⟩, by simp [intOf]; omega⟩
          · have hlb : lessB (farAt l' (2 * k + 1)) (farAt l' k) = false := by simp [lessB]; omega
            have Hl := Lib.hid hl; clear hl
            go_wp2_with fail
            refine (less_int F1 g cap l' _ _ (2 * k + 2) (2 * k + 1) _ hrow (by omega) (by omega) (by have := Hlen.out; omega) (by have := Hlen.out; omega)).mono ?_
            rw [hc]; rintro e w1 ⟨rfl, m1, rfl⟩
            go_wp2_with fail
            refine (less_int F1 g cap l' _ _ (2 * k + 1) k _ (RowP.kept (w' := (wr.drewN m1)) hrow rfl) (by omega) rfl (by have := Hlen.out; omega) (by have := Hlen.out; omega)).mono ?_
            rw [hlb]; rintro e w2 ⟨rfl, m2, rfl⟩
            go_wp2
            go_ret
            have hnl := Hl.out
            exact ⟨⟨_, rfl⟩, ⟨l', Hlen.out, RowP.kept (w' := wr.drewN (m1 + m2)) hrow rfl, Hok.out.done (fun c h1 h2 h3 => by have := Hmin.out c h1 h2 h3; omega), Hmem.out, Htail.out, grown_drewN hg _⟩⟩
      · have hj2' : ¬ (2 * (k : Int) + 1 + 1 < (n : Int)) := by omega
        have hd2 : decide (2 * (k : Int) + 1 + 1 < (n : Int)) = false := by simp; omega
        have hmin : ∀ c, 0 < c → c < n → (c - 1) / 2 = k → farAt l' (2 * k + 1) ≤ farAt l' c := fun c h1 h2 h3 => by
          obtain rfl : c = 2 * k + 1 := by omega
          omega
        have Hmin := Lib.hid hmin; clear hmin
        by_cases hl : farAt l' (2 * k + 1) < farAt l' k
        · have hlb : lessB (farAt l' (2 * k + 1)) (farAt l' k) = true := by simp [lessB]; omega
          have Hl := Lib.hid hl; clear hl
          go_wp2_with fail
          refine (less_int F1 g cap l' _ _ (2 * k + 1) k _ (RowP.kept (w' := wr) hrow rfl) (by omega) rfl (by have := Hlen.out; omega) (by have := Hlen.out; omega)).mono ?_
          rw [hlb]; rintro e w2 ⟨rfl, m2, rfl⟩
          go_wp2_with fail
          refine (swap_int F1 g cap l' _ _ k (2 * k + 1) (wr.drewN m2) (RowP.kept (w' := wr.drewN m2) hrow rfl) rfl (by omega) (by have := Hlen.out; omega) (by have := Hlen.out; omega)).mono ?_
          rintro e w3 ⟨rfl, hrow3, hg3, _⟩
          go_wp2
          have hl2 := Hlen.out
          refine ⟨⟨2 * k + 1, swapL l' k (2 * k + 1), by omega, congrArg (Value.int .i64) (by omega), by rw [swapL_length]; exact hl2, hrow3, Hok.out.step (by omega) (by omega) (by omega) (by omega) Hl.out Hmin.out, fun p => (swapL_mem l' (by omega) (by omega) p).trans (Hmem.out p), fun c hc2 => (swap_tail (n := n) (by omega) (by omega) (by omega) c hc2).trans (Htail.out c hc2), World.grownBy.trans (grown_drewN hg _) hg3⟩, by simp [intOf]; omega⟩
        · have hlb : lessB (farAt l' (2 * k + 1)) (farAt l' k) = false := by simp [lessB]; omega
          have Hl := Lib.hid hl; clear hl
          go_wp2_with fail
          refine (less_int F1 g cap l' _ _ (2 * k + 1) k _ (RowP.kept (w' := wr) hrow rfl) (by omega) rfl (by have := Hlen.out; omega) (by have := Hlen.out; omega)).mono ?_
          rw [hlb]; rintro e w2 ⟨rfl, m2, rfl⟩
          go_wp2
          go_ret
          have hnl := Hl.out
          exact ⟨⟨_, rfl⟩, ⟨l', Hlen.out, RowP.kept (w' := wr.drewN m2) hrow rfl, Hok.out.done (fun c h1 h2 h3 => by have := Hmin.out c h1 h2 h3; omega), Hmem.out, Htail.out, grown_drewN hg _⟩⟩
    · have hj1' : (n : Int) ≤ 2 * (k : Int) + 1 := by omega
      go_wp2
      go_ret
      exact ⟨⟨_, rfl⟩, ⟨l', Hlen.out, hrow, Hok.out.done (fun c h1 h2 h3 => by omega), Hmem.out, Htail.out, hg⟩⟩

end Go.Proofs.Ytfdaaeapfeajjaa
