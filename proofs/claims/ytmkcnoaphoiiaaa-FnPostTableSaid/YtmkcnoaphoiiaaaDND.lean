/- Draws: DrawPostTable, l92To, DrawPostLeave. -/
import Derived.Test.YtmkcnoaphoiiaaaDNC
namespace Go.Proofs.Ytmkcnoaphoiiaaa
open Go.RowKit

def DrawnPt (w : World) (e : Ending) (w' : World) : Prop :=
  ∃ (n : Int) (v : Value) (net : List (List Rd)) (f t ch : Int), e = .returned (.tuple #[.int .i64 n, v, .int .i64 f, .int .i64 t, .int .i64 ch]) ∧ 2 ≤ n ∧ n ≤ 6 ∧ NtIn w' v net ∧ totN net ≤ 1048576 ∧ (-1000 ≤ t ∧ t ≤ 1000) ∧ (-1 ≤ ch ∧ ch ≤ 301) ∧ Below w.heap.size w w'
theorem allLe_tot8 {L : List (List Tz)} (h : AllLe L) (hl : L.length ≤ 8) : totN L ≤ 1048576 := by
  have key : ∀ k, k ≤ L.length → totTo L k ≤ 8 * k := by
    intro k
    induction k with
    | zero => intro _; exact Nat.le_refl _
    | succ k ih =>
      intro hk
      have := ih (by omega)
      have := h k (by omega)
      show totTo L k + (coach L k).length ≤ _
      omega
  have := key L.length (Nat.le_refl _)
  unfold totN
  omega

set_option maxRecDepth 100000 in
set_option maxHeartbeats 1000000 in
theorem drawPostTable_any (v : Value) (l : List Int) (w0 : World) (hv : BytesIn w0 v l) (hm : l.length ≤ 1048576) :
    Calls Try.prog 55 #[v] w0 (DrawnPt w0) := by
  have Hv := Lib.hid hv; clear hv
  go_enter Try.func55, Try.ntmps55
  go_wp2_with fail
  refine (l6Open_any _ l _ Hv.out hm).mono ?_; rintro e w1 ⟨rfl, ⟨l', hr⟩, hb, hs⟩
  have HB1 := Lib.hid hb; have HR1 := Lib.hid hr
  clear hb hr
  go_wp2_with fail
  refine (post92_any _ l' 0 _ HR1.out (by omega)).mono ?_; rintro e w2 ⟨n, v2, net, f, t, ch, p, rfl, n2, n6, hN, hl8, hle, ht, hc, _, _, htt⟩
  have HF := Lib.hid (And.intro hN.in_ (And.intro (allLe_tot8 hle hl8) (HB1.out.trans (htt.below (fun j hj => by rw [hj]; exact Nat.le_refl _) HB1.out.size))))
  clear hN hle htt hl8
  go_wp2
  refine bodyPost_ret (v := .tuple #[.int .i64 n, v2, .int .i64 f, .int .i64 t, .int .i64 ch]) (by simp [results, Try.results55, go_sem]) rfl ?_
  exact ⟨n, v2, net, f, t, ch, rfl, n2, n6, HF.out.1, HF.out.2.1, ht, hc, HF.out.2.2⟩

def ToDr (g : Nat) (l : List Int) (p : Nat) (w : World) (e : Ending) (w' : World) : Prop :=
  ∃ (n : Int) (v : Value) (net : List (List Rd)) (f to t ch : Int) (p' : Nat), e = .returned (.tuple #[.int .i64 n, v, .int .i64 f, .int .i64 to, .int .i64 t, .int .i64 ch]) ∧ 2 ≤ n ∧ n ≤ 6 ∧ NtX w' (fun b => w.heap.size ≤ b) v net ∧ net.length ≤ 8 ∧ AllLe net ∧ (-1000 ≤ t ∧ t ≤ 1000) ∧ (-1 ≤ ch ∧ ch ≤ 301) ∧ Reader w' g l p' ∧ p' ≤ p + 402 ∧ Touch (fun j => j = g) w w'

set_option maxRecDepth 100000 in
set_option maxHeartbeats 1000000 in
theorem to92_any (g : Nat) (l : List Int) (p : Nat) (w : World) (h : Reader w g l p) (hp : p ≤ 100) :
    Calls Try.prog 89 #[.pointer (some ⟨g, 0, none⟩)] w (ToDr g l p w) := by
  have hgl := h.lt
  have Hr := Lib.hid h; clear h
  go_enter Try.func89, Try.ntmps89
  go_wp2_with fail
  refine (post92_any g l p _ Hr.out hp).mono ?_; rintro e w1 ⟨n, v2, net, f, t, ch, p1, rfl, n2, n6, hN, hl8, hle, ht, hc, hr1, hp1, ht1⟩
  have HN1 := Lib.hid hN
  have HR1 := Lib.hid hr1
  have HT1 := Lib.hid ht1
  have HLe := Lib.hid (And.intro hl8 hle)
  clear hN hr1 ht1 hle hl8
  go_wp2_with fail
  refine (town91_any g l p1 n _ HR1.out (by omega) n2 n6).mono ?_; rintro e w2 ⟨to, p2, rfl, _, _, hr2, hp2, ht2⟩
  have HF := Lib.hid (show ToDr g l p w (.returned (.tuple #[.int .i64 n, v2, .int .i64 f, .int .i64 to, .int .i64 t, .int .i64 ch])) w2 from
    ⟨n, v2, net, f, to, t, ch, p2, rfl, n2, n6, HN1.out.touch ht2 (fun j hj e => by omega), HLe.out.1, HLe.out.2, ht, hc, hr2, by omega, HT1.out.trans ht2⟩)
  clear hr2 ht2 ht hc
  go_wp2
  refine bodyPost_ret (v := .tuple #[.int .i64 n, v2, .int .i64 f, .int .i64 to, .int .i64 t, .int .i64 ch]) (by simp [results, Try.results89, go_sem]) rfl ?_
  exact HF.out

def DrawnTo (w : World) (e : Ending) (w' : World) : Prop :=
  ∃ (n : Int) (v : Value) (net : List (List Rd)) (f to t ch : Int), e = .returned (.tuple #[.int .i64 n, v, .int .i64 f, .int .i64 to, .int .i64 t, .int .i64 ch]) ∧ 2 ≤ n ∧ n ≤ 6 ∧ NtIn w' v net ∧ totN net ≤ 1048576 ∧ (-1000 ≤ t ∧ t ≤ 2000) ∧ (-1 ≤ ch ∧ ch ≤ 301) ∧ Below w.heap.size w w'

set_option maxRecDepth 100000 in
set_option maxHeartbeats 1000000 in
theorem drawPostLeave_any (v : Value) (l : List Int) (w0 : World) (hv : BytesIn w0 v l) (hm : l.length ≤ 1048576) :
    Calls Try.prog 57 #[v] w0 (DrawnTo w0) := by
  have Hv := Lib.hid hv; clear hv
  go_enter Try.func57, Try.ntmps57
  go_wp2_with fail
  refine (l6Open_any _ l _ Hv.out hm).mono ?_; rintro e w1 ⟨rfl, ⟨l', hr⟩, hb, hs⟩
  have HB1 := Lib.hid hb; have HR1 := Lib.hid hr
  clear hb hr
  obtain ⟨g, hg⟩ : ∃ g, w0.heap.size = g := ⟨_, rfl⟩
  rw [hg] at HR1
  have Hg := Lib.hid (Nat.le_of_eq hg)
  rw [hg]
  clear hg
  go_wp2_with fail
  refine (to92_any g l' 0 _ HR1.out (by omega)).mono ?_; rintro e w2 ⟨n, v2, net, f, to, t, ch, p, rfl, n2, n6, hN, hl8, hle, ht, hc, hr2, hp2, htt⟩
  have HR2 := Lib.hid hr2
  have HN2 := Lib.hid hN
  have hgl := HR1.out.lt
  have HTT := Lib.hid htt
  have HLe := Lib.hid (And.intro hl8 hle)
  clear hr2 hN htt hle hl8
  go_wp2_with fail
  refine (pick_any g l' p 3 _ HR2.out (by omega) (by omega)).mono ?_; rintro e w3 ⟨⟨x, rfl, hx0, hx1⟩, hr3, hg3⟩
  have hx3 : x < 3 := by omega
  have ht3 := Touch.grown (S := fun j => j = g) hg3 rfl
  have htx : -1000 ≤ t + x * 100 ∧ t + x * 100 ≤ 2000 := by omega
  have hw1 : wrap64 (x * 100) = x * 100 := by unfold wrap64; omega
  have hw2 : wrap64 (t + x * 100) = t + x * 100 := by unfold wrap64; omega
  have HF := Lib.hid (And.intro ((HN2.out.touch ht3 (fun j hj e => by omega)).in_) (And.intro (allLe_tot8 HLe.out.2 HLe.out.1) (HB1.out.trans ((HTT.out.trans ht3).below (fun j hj => by rw [hj]; exact Hg.out) HB1.out.size))))
  clear hr3 hg3 ht3 hx1
  go_wp2
  refine bodyPost_ret (v := .tuple #[.int .i64 n, v2, .int .i64 f, .int .i64 to, .int .i64 (t + x * 100), .int .i64 ch]) (by simp [results, Try.results57, go_sem]) rfl ?_
  exact ⟨n, v2, net, f, to, t + x * 100, ch, rfl, n2, n6, HF.out.1, HF.out.2.1, htx, hc, HF.out.2.2⟩

end Go.Proofs.Ytmkcnoaphoiiaaa
