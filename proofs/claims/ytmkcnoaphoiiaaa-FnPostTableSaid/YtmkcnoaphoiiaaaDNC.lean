/- Draws: l92Post, l92To; DrawPostTable, DrawPostLeave and the like. -/
import Derived.Test.YtmkcnoaphoiiaaaDNB
import Derived.Test.YtmkcnoaphoiiaaaDTW
namespace Go.Proofs.Ytmkcnoaphoiiaaa
open Go.RowKit

def PostDr (g : Nat) (l : List Int) (p : Nat) (w : World) (e : Ending) (w' : World) : Prop :=
  ∃ (n : Int) (v : Value) (net : List (List Rd)) (f t ch : Int) (p' : Nat), e = .returned (.tuple #[.int .i64 n, v, .int .i64 f, .int .i64 t, .int .i64 ch]) ∧ 2 ≤ n ∧ n ≤ 6 ∧ NtX w' (fun b => w.heap.size ≤ b) v net ∧ net.length ≤ 8 ∧ AllLe net ∧ (-1000 ≤ t ∧ t ≤ 1000) ∧ (-1 ≤ ch ∧ ch ≤ 301) ∧ Reader w' g l p' ∧ p' ≤ p + 400 ∧ Touch (fun j => j = g) w w'

set_option maxRecDepth 100000 in
set_option maxHeartbeats 4000000 in
theorem post92_any (g : Nat) (l : List Int) (p : Nat) (w : World) (h : Reader w g l p) (hp : p ≤ 100) :
    Calls Try.prog 87 #[.pointer (some ⟨g, 0, none⟩)] w (PostDr g l p w) := by
  have hgl := h.lt
  have Hr := Lib.hid h; clear h
  go_enter Try.func87, Try.ntmps87
  go_wp2_with fail
  refine (net92_any g l p _ Hr.out hp).mono ?_; rintro e w1 ⟨n, v, net, p1, rfl, hn2, hn6, hN, hl8, hle, hr1, hp1, ht1⟩
  have HN1 := Lib.hid hN
  have HR1 := Lib.hid hr1
  have HT1 := Lib.hid ht1
  have HLe := Lib.hid hle
  clear hN hr1 ht1 hle
  go_wp2_with fail
  refine (town91_any g l p1 n _ HR1.out (by omega) hn2 hn6).mono ?_; rintro e w2 ⟨f, p2, rfl, hf0, hf1, hr2, hp2, ht2⟩
  have HT2 := Lib.hid (HT1.out.trans ht2)
  have HR2 := Lib.hid hr2
  have HN2 := Lib.hid (HN1.out.touch ht2 (fun j hj e => by omega))
  clear hr2 ht2 hf0 hf1
  have HE := Lib.hid (fun (f t ch : Int) (p9 : Nat) (w9 : World) (h1 : -1000 ≤ t ∧ t ≤ 1000) (h2 : -1 ≤ ch ∧ ch ≤ 301) (h3 : Reader w9 g l p9) (h4 : p9 ≤ p + 400) (h5 : Touch (fun j => j = g) w w9) (h6 : Touch (fun j => j = g) w2 w9) =>
    (show PostDr g l p w (.returned (.tuple #[.int .i64 n, v, .int .i64 f, .int .i64 t, .int .i64 ch])) w9 from ⟨n, v, net, f, t, ch, p9, rfl, hn2, hn6, HN2.out.touch h6 (fun j hj e => by omega), hl8, HLe.out, h1, h2, h3, h4, h5⟩))
  obtain ⟨a, cap, rfl, hcap, ha⟩ := HN2.out
  by_cases h0 : net.length = 0
  · have hp2' : p2 ≤ p + 302 := by omega
    rw [h0]
    rw [h0] at HE
    clear h0 ha hcap
    go_wp2_with fail
    refine (pick_any g l p2 120 _ HR2.out (by omega) (by omega)).mono ?_; rintro e w5 ⟨⟨x, rfl, hx0, hx1⟩, hr5, hg5⟩
    have hx120 : x < 120 := by omega
    have ht5 := Touch.grown (S := fun j => j = g) hg5 rfl
    have HT5 := Lib.hid (HT2.out.trans ht5)
    have HT25 := Lib.hid (Touch.trans (Touch.refl _ _) ht5)
    have HR5 := Lib.hid hr5
    clear hr5 hg5 ht5 hx1
    go_wp2_with fail
    refine (pick_any g l (p2 + 1) 30 _ HR5.out (by omega) (by omega)).mono ?_; rintro e w6 ⟨⟨y, rfl, hy0, hy1⟩, hr6, hg6⟩
    have hy30 : y < 30 := by omega
    have ht6 := Touch.grown (S := fun j => j = g) hg6 rfl
    have HT6 := Lib.hid (HT5.out.trans ht6)
    have HT26 := Lib.hid (HT25.out.trans ht6)
    have HR6 := Lib.hid hr6
    clear hr6 hg6 ht6 hy1
    obtain ⟨q9, hq9⟩ : ∃ q9 : Int, q9 = y / 29 := ⟨_, rfl⟩
    have hq90 : 0 ≤ q9 ∧ q9 ≤ 1 := by omega
    have hqt : y.tdiv 29 = q9 := by rw [hq9, Int.tdiv_eq_ediv_of_nonneg hy0]
    have hw1 : wrap64 q9 = q9 := by unfold wrap64; omega
    have hw2 : wrap64 (q9 * 121) = q9 * 121 := by unfold wrap64; omega
    have hw3 : wrap64 (x - q9 * 121) = x - q9 * 121 := by unfold wrap64; omega
    have htb : -1000 ≤ x - q9 * 121 ∧ x - q9 * 121 ≤ 1000 := by omega
    clear hq9
    go_wp2_with fail
    refine (change92_any g l (p2 + 1 + 1) _ HR6.out (by omega)).mono ?_; rintro e w7 ⟨ch, p7, rfl, hc0, hc1, hr7, hp7, ht7⟩
    have HFin := Lib.hid (fun (f : Int) => HE.out f (x - q9 * 121) ch p7 w7 htb ⟨hc0, hc1⟩ hr7 (by omega) (HT6.out.trans ht7) (HT26.out.trans ht7))
    clear hr7 ht7 hc0 hc1 hp7
    go_wp2
    refine bodyPost_ret (v := .tuple #[.int .i64 n, .slice a 0 cap, .int .i64 f, .int .i64 (x - q9 * 121), .int .i64 ch]) (by simp [results, Try.results87, go_sem]) rfl ?_
    exact HFin.out _
  · have hl0n : 0 < net.length := by omega
    obtain ⟨b, o, rfl, _, hbl, hat⟩ := ha (by rintro rfl; simp at h0)
    obtain ⟨u, c0, hu⟩ := hat 0 (by omega)
    rw [Nat.add_zero] at c0
    obtain ⟨a3, cap3, rfl, _, ha3⟩ := hu
    have hl0 : (0 : Int) < (net.length : Int) := by omega
    have hp2' : p2 ≤ p + 302 := by omega
    clear h0 ha hat
    by_cases h1 : (coach net 0).length = 0
    · rw [h1] at c0
      clear h1 ha3
      go_wp2_with fail
      refine (pick_any g l p2 120 _ HR2.out (by omega) (by omega)).mono ?_; rintro e w5 ⟨⟨x, rfl, hx0, hx1⟩, hr5, hg5⟩
      have hx120 : x < 120 := by omega
      have ht5 := Touch.grown (S := fun j => j = g) hg5 rfl
      have HT5 := Lib.hid (HT2.out.trans ht5)
      have HT25 := Lib.hid (Touch.trans (Touch.refl _ _) ht5)
      have HR5 := Lib.hid hr5
      clear hr5 hg5 ht5 hx1
      go_wp2_with fail
      refine (pick_any g l (p2 + 1) 30 _ HR5.out (by omega) (by omega)).mono ?_; rintro e w6 ⟨⟨y, rfl, hy0, hy1⟩, hr6, hg6⟩
      have hy30 : y < 30 := by omega
      have ht6 := Touch.grown (S := fun j => j = g) hg6 rfl
      have HT6 := Lib.hid (HT5.out.trans ht6)
      have HT26 := Lib.hid (HT25.out.trans ht6)
      have HR6 := Lib.hid hr6
      clear hr6 hg6 ht6 hy1
      obtain ⟨q9, hq9⟩ : ∃ q9 : Int, q9 = y / 29 := ⟨_, rfl⟩
      have hq90 : 0 ≤ q9 ∧ q9 ≤ 1 := by omega
      have hqt : y.tdiv 29 = q9 := by rw [hq9, Int.tdiv_eq_ediv_of_nonneg hy0]
      have hw1 : wrap64 q9 = q9 := by unfold wrap64; omega
      have hw2 : wrap64 (q9 * 121) = q9 * 121 := by unfold wrap64; omega
      have hw3 : wrap64 (x - q9 * 121) = x - q9 * 121 := by unfold wrap64; omega
      have htb : -1000 ≤ x - q9 * 121 ∧ x - q9 * 121 ≤ 1000 := by omega
      clear hq9
      go_wp2_with fail
      refine (change92_any g l (p2 + 1 + 1) _ HR6.out (by omega)).mono ?_; rintro e w7 ⟨ch, p7, rfl, hc0, hc1, hr7, hp7, ht7⟩
      have HFin := Lib.hid (fun (f : Int) => HE.out f (x - q9 * 121) ch p7 w7 htb ⟨hc0, hc1⟩ hr7 (by omega) (HT6.out.trans ht7) (HT26.out.trans ht7))
      clear hr7 ht7 hc0 hc1 hp7
      go_wp2
      refine bodyPost_ret (v := .tuple #[.int .i64 n, .slice (some ⟨b, o, none⟩) net.length cap, .int .i64 f, .int .i64 (x - q9 * 121), .int .i64 ch]) (by simp [results, Try.results87, go_sem]) rfl ?_
      exact HFin.out _
    · have hl1n : 0 < (coach net 0).length := by omega
      have hl1 : (0 : Int) < ((coach net 0).length : Int) := by omega
      obtain ⟨b3, o3, rfl, hb3g, hb3l, hat3⟩ := ha3 (by intro h; rw [h] at h1; simp at h1)
      obtain ⟨d0, _, _⟩ := hat3 0 (by omega)
      rw [show 0 * 3 = 0 from rfl, Nat.add_zero] at d0
      have hbg : w.heap.size ≤ b := ‹_›
      generalize (coach net 0).length = m0 at *
      generalize ((coach net 0).getD 0 tz0).a = fa at *
      clear h1 hat3
      go_wp2_with fail
      refine (pick_any g l p2 2 _ HR2.out (by omega) (by omega)).mono ?_; rintro e w3 ⟨⟨z, rfl, hz0, hz1⟩, hr3, hg3⟩
      have ht3 := Touch.grown (S := fun j => j = g) hg3 rfl
      have HT3 := Lib.hid (HT2.out.trans ht3)
      have HT23 := Lib.hid ht3
      have HR3 := Lib.hid hr3
      have c0' := (World.cell?_of_block (a := ⟨b, o, none⟩) (ht3.block b hbl (fun e => by omega))).trans c0
      have d0' := (World.cell?_of_block (a := ⟨b3, o3, none⟩) (ht3.block b3 hb3l (fun e => by omega))).trans d0
      clear hr3 hg3 ht3 c0 d0 hz1
      by_cases q : z = 0
      · subst q
        go_wp2_with fail
        refine (pick_any g l (p2 + 1) 120 _ HR3.out (by omega) (by omega)).mono ?_; rintro e w5 ⟨⟨x, rfl, hx0, hx1⟩, hr5, hg5⟩
        have hx120 : x < 120 := by omega
        have ht5 := Touch.grown (S := fun j => j = g) hg5 rfl
        have HT5 := Lib.hid (HT3.out.trans ht5)
        have HT25 := Lib.hid (Touch.trans HT23.out ht5)
        have HR5 := Lib.hid hr5
        clear hr5 hg5 ht5 hx1
        go_wp2_with fail
        refine (pick_any g l ((p2 + 1) + 1) 30 _ HR5.out (by omega) (by omega)).mono ?_; rintro e w6 ⟨⟨y, rfl, hy0, hy1⟩, hr6, hg6⟩
        have hy30 : y < 30 := by omega
        have ht6 := Touch.grown (S := fun j => j = g) hg6 rfl
        have HT6 := Lib.hid (HT5.out.trans ht6)
        have HT26 := Lib.hid (HT25.out.trans ht6)
        have HR6 := Lib.hid hr6
        clear hr6 hg6 ht6 hy1
        obtain ⟨q9, hq9⟩ : ∃ q9 : Int, q9 = y / 29 := ⟨_, rfl⟩
        have hq90 : 0 ≤ q9 ∧ q9 ≤ 1 := by omega
        have hqt : y.tdiv 29 = q9 := by rw [hq9, Int.tdiv_eq_ediv_of_nonneg hy0]
        have hw1 : wrap64 q9 = q9 := by unfold wrap64; omega
        have hw2 : wrap64 (q9 * 121) = q9 * 121 := by unfold wrap64; omega
        have hw3 : wrap64 (x - q9 * 121) = x - q9 * 121 := by unfold wrap64; omega
        have htb : -1000 ≤ x - q9 * 121 ∧ x - q9 * 121 ≤ 1000 := by omega
        clear hq9
        go_wp2_with fail
        refine (change92_any g l ((p2 + 1) + 1 + 1) _ HR6.out (by omega)).mono ?_; rintro e w7 ⟨ch, p7, rfl, hc0, hc1, hr7, hp7, ht7⟩
        have HFin := Lib.hid (fun (f : Int) => HE.out f (x - q9 * 121) ch p7 w7 htb ⟨hc0, hc1⟩ hr7 (by omega) (HT6.out.trans ht7) (HT26.out.trans ht7))
        clear hr7 ht7 hc0 hc1 hp7
        go_wp2
        refine bodyPost_ret (v := .tuple #[.int .i64 n, .slice (some ⟨b, o, none⟩) net.length cap, .int .i64 fa, .int .i64 (x - q9 * 121), .int .i64 ch]) (by simp [results, Try.results87, go_sem]) rfl ?_
        exact HFin.out _
      · have hq : (z == 0) = false := by simpa using q
        clear q
        go_wp2_with fail
        refine (pick_any g l (p2 + 1) 120 _ HR3.out (by omega) (by omega)).mono ?_; rintro e w5 ⟨⟨x, rfl, hx0, hx1⟩, hr5, hg5⟩
        have hx120 : x < 120 := by omega
        have ht5 := Touch.grown (S := fun j => j = g) hg5 rfl
        have HT5 := Lib.hid (HT3.out.trans ht5)
        have HT25 := Lib.hid (Touch.trans HT23.out ht5)
        have HR5 := Lib.hid hr5
        clear hr5 hg5 ht5 hx1
        go_wp2_with fail
        refine (pick_any g l ((p2 + 1) + 1) 30 _ HR5.out (by omega) (by omega)).mono ?_; rintro e w6 ⟨⟨y, rfl, hy0, hy1⟩, hr6, hg6⟩
        have hy30 : y < 30 := by omega
        have ht6 := Touch.grown (S := fun j => j = g) hg6 rfl
        have HT6 := Lib.hid (HT5.out.trans ht6)
        have HT26 := Lib.hid (HT25.out.trans ht6)
        have HR6 := Lib.hid hr6
        clear hr6 hg6 ht6 hy1
        obtain ⟨q9, hq9⟩ : ∃ q9 : Int, q9 = y / 29 := ⟨_, rfl⟩
        have hq90 : 0 ≤ q9 ∧ q9 ≤ 1 := by omega
        have hqt : y.tdiv 29 = q9 := by rw [hq9, Int.tdiv_eq_ediv_of_nonneg hy0]
        have hw1 : wrap64 q9 = q9 := by unfold wrap64; omega
        have hw2 : wrap64 (q9 * 121) = q9 * 121 := by unfold wrap64; omega
        have hw3 : wrap64 (x - q9 * 121) = x - q9 * 121 := by unfold wrap64; omega
        have htb : -1000 ≤ x - q9 * 121 ∧ x - q9 * 121 ≤ 1000 := by omega
        clear hq9
        go_wp2_with fail
        refine (change92_any g l ((p2 + 1) + 1 + 1) _ HR6.out (by omega)).mono ?_; rintro e w7 ⟨ch, p7, rfl, hc0, hc1, hr7, hp7, ht7⟩
        have HFin := Lib.hid (fun (f : Int) => HE.out f (x - q9 * 121) ch p7 w7 htb ⟨hc0, hc1⟩ hr7 (by omega) (HT6.out.trans ht7) (HT26.out.trans ht7))
        clear hr7 ht7 hc0 hc1 hp7
        go_wp2
        refine bodyPost_ret (v := .tuple #[.int .i64 n, .slice (some ⟨b, o, none⟩) net.length cap, .int .i64 f, .int .i64 (x - q9 * 121), .int .i64 ch]) (by simp [results, Try.results87, go_sem]) rfl ?_
        exact HFin.out _

end Go.Proofs.Ytmkcnoaphoiiaaa
