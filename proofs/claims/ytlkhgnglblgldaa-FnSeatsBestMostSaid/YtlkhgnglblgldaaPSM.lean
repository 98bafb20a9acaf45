/- The law FnSeatsBestMost holds at every input. No condition. -/
import Derived.Test.YtlkhgnglblgldaaDBG
import Derived.Test.YtlkhgnglblgldaaEBF
import Derived.Test.YtlkhgnglblgldaaEXC
import Derived.Test.YtlkhgnglblgldaaEXD
import Derived.Test.YtlkhgnglblgldaaSI
import Derived.Test.YtlkhgnglblgldaaEZ
namespace Go.Proofs.Ytlkhgnglblgldaa.lawFnSeatsBestMost
open Go.ChangeShapes Go.WideShapes Go.ChangeAt Go.RowKit
set_option linter.unusedVariables false

theorem meetE_symm {xs : List Bk} {i j : Nat} (h : meetE xs i j) : meetE xs j i := ⟨h.2, h.1⟩
theorem apart_all {xs : List Bk} {cs : List Nat} (h : ∀ a, a < cs.length → ∀ b, b < a → ¬ meetE xs (cs.getD a 0) (cs.getD b 0)) : ∀ i j, i ∈ cs → j ∈ cs → i ≠ j → ¬ meetE xs i j := by
  intro i j hi hj hij hm
  obtain ⟨a, ha, rfl⟩ := List.getElem_of_mem hi
  obtain ⟨b, hb, rfl⟩ := List.getElem_of_mem hj
  have ea : cs.getD a 0 = cs[a] := by simp [List.getD, ha]
  have eb : cs.getD b 0 = cs[b] := by simp [List.getD, hb]
  rcases Nat.lt_trichotomy a b with h1 | h1 | h1
  · exact h b hb a h1 (by rw [ea, eb]; exact meetE_symm hm)
  · subst h1; exact hij rfl
  · exact h a ha b h1 (by rw [ea, eb]; exact hm)
theorem sorted_from : ∀ {cs : List Nat} {lo i : Nat}, lo ≤ i → cs.Pairwise (fun x y => x < y) → (∀ c, c ∈ cs → lo ≤ c ∧ c < i) → lo + cs.length ≤ i
  | [], lo, i, h, _, _ => by simpa using h
  | c :: r, lo, i, h, hp, hlt => by
    have h1 := hlt c (List.mem_cons_self ..)
    obtain ⟨h2, h3⟩ := List.pairwise_cons.1 hp
    have := sorted_from (lo := c + 1) (i := i) (by omega) h3 (fun x hx => ⟨h2 x hx, (hlt x (List.mem_cons_of_mem _ hx)).2⟩)
    simp only [List.length_cons]; omega
theorem sorted_snoc {cs : List Nat} {i : Nat} (hp : cs.Pairwise (fun x y => x < y)) (hlt : ∀ c, c ∈ cs → c < i) : (cs ++ [i]).Pairwise (fun x y => x < y) :=
  List.pairwise_append.2 ⟨hp, List.pairwise_singleton _ _, fun a ha b hb => by rw [List.mem_singleton.1 hb]; exact hlt a ha⟩
theorem sorted_len {cs : List Nat} {i : Nat} (hp : cs.Pairwise (fun x y => x < y)) (hlt : ∀ c, c ∈ cs → c < i) : cs.length ≤ i := by
  have := sorted_from (lo := 0) (Nat.zero_le i) hp (fun c hc => ⟨Nat.zero_le _, hlt c hc⟩); omega
def pw : Nat → Int
  | 0 => 1
  | k + 1 => 2 * pw k
theorem pw_bd : ∀ k, k ≤ 8 → 1 ≤ pw k ∧ pw k ≤ 256 := by decide
theorem intsOf_get {cs : List Nat} {k : Nat} (h : k < cs.length) : (intsOf cs).getD k 0 = ((cs.getD k 0 : Nat) : Int) := by
  simp [intsOf, List.getD, h]
def McA (m : Nat) (w : World) (pv iv : Value) (wr : World) : Prop := ∃ i : Nat, i ≤ m ∧ iv = .int .i64 i ∧ pv = .int .i64 (pw i) ∧ Below w.heap.size w wr
def McB (P : Nat) (w : World) (sv : Value) (wr : World) : Prop := ∃ s : Nat, s ≤ P ∧ sv = .int .i64 s ∧ Below w.heap.size w wr
def McC (m : Nat) (w : World) (cv bv iv : Value) (wr : World) : Prop :=
  ∃ (i : Nat) (b : Int) (cs : List Nat) (g cap : Nat), i ≤ m ∧ iv = .int .i64 i ∧ bv = .int .i64 b ∧ 0 ≤ b ∧ b ≤ 256 ∧ cv = .slice (some ⟨g, 0, none⟩) cs.length cap ∧
    RowI wr w.heap.size cv (intsOf cs) ∧ cs.Pairwise (fun x y => x < y) ∧ (∀ c, c ∈ cs → c < i) ∧ Below w.heap.size w wr
def fineE (xs : List Bk) (cs : List Nat) (i k : Nat) : Prop := (∀ a, a < i → ∀ b, b < a → ¬ meetE xs (cs.getD a 0) (cs.getD b 0)) ∧ ∀ b, b < k → ¬ meetE xs (cs.getD i 0) (cs.getD b 0)
theorem fineE_next {xs : List Bk} {cs : List Nat} {i : Nat} (h : fineE xs cs i i) : fineE xs cs (i + 1) 0 :=
  ⟨fun a ha b hb => by
    by_cases e : a = i
    · subst e; exact h.2 b hb
    · exact h.1 a (by omega) b hb, fun b hb => by omega⟩
theorem fineE_snoc {xs : List Bk} {cs : List Nat} {i k : Nat} (h : fineE xs cs i k) (hn : ¬ meetE xs (cs.getD i 0) (cs.getD k 0)) : fineE xs cs i (k + 1) :=
  ⟨h.1, fun b hb => by
    by_cases e : b = k
    · subst e; exact hn
    · exact h.2 b (by omega)⟩
theorem sorted_nodup {cs : List Nat} (hp : cs.Pairwise (fun x y => x < y)) : cs.Nodup := hp.imp fun h e => by omega
theorem getD_memN {cs : List Nat} {a : Nat} (h : a < cs.length) : cs.getD a 0 ∈ cs := by simp [List.getD, h]
def McD (xs : List Bk) (cs : List Nat) (w : World) (fv iv : Value) (wr : World) : Prop :=
  ∃ (i : Nat) (f : Bool), i ≤ cs.length ∧ iv = .int .i64 i ∧ fv = .bool f ∧ (f = true → fineE xs cs i 0) ∧ Below w.heap.size w wr
def McE (xs : List Bk) (cs : List Nat) (i : Nat) (w : World) (fv kv : Value) (wr : World) : Prop :=
  ∃ (k : Nat) (f : Bool), k ≤ i ∧ kv = .int .i64 k ∧ fv = .bool f ∧ (f = true → fineE xs cs i k) ∧ Below w.heap.size w wr

set_option maxRecDepth 100000 in
set_option maxHeartbeats 2000000 in
theorem walk (v : Value) (l : List Int) (w : World) (hv : BytesIn w v l) (hm : l.length ≤ maxLen) :
    Calls Try.prog 4 #[v] w fun e w' => e = .returned (.bool true) ∧ Below w.heap.size w w' := by
  have Hv := Lib.hid hv
  obtain ⟨av, cv, rfl, hcv, _, _⟩ := hv
  clear hcv
  by_cases hl : l.length ≤ 1048576
  · have hl' : ¬ (1048576 : Int) < (l.length : Int) := by omega
    go_enter Try.func4, Try.ntmps4
    go_wp2_with fail
    refine (drawBest_any _ l _ Hv.out hl).mono ?_; rintro e w1 ⟨n, ad, cap, xs, rfl, hn1, hn6, hcap, h12, hown, hb⟩
    have Hx1 := Lib.hid (hown.ins hcap)
    have HB1 := Lib.hid hb
    have hx : xs.length ≤ 1048576 := by omega
    have wn : W64 n := by unfold W64; omega
    clear hown hb
    have H2 := Lib.hid (fun w' (h : BkIn w' (.slice ad xs.length cap) xs) => seatsBest2_any n _ xs w' h hx)
    have H1 := Lib.hid (fun w' (h : BkIn w' (.slice ad xs.length cap) xs) => seatsBest1_any n _ xs w' wn h hx)
    cases hok : bestOk n xs with
    | false =>
      rw [bestX_no hok, hok] at H2 H1
      clear hok
      go_wp2_with fail
      refine (H2.out _ Hx1.out).mono ?_; rintro e w2 ⟨ad2, cap2, rfl, hc2, ho2, _, hb2⟩
      have Hx2 := Lib.hid (Hx1.out.below hb2)
      have HB2 := Lib.hid (HB1.out.trans (hb2.mono HB1.out.size))
      have HI2 := Lib.hid (ho2.ints hc2)
      clear hb2 hc2 ho2
      go_wp2_with fail
      refine (H1.out _ Hx2.out).mono ?_; rintro e w3 ⟨ad3, cap3, rfl, hc3, ho3, _, hb3⟩
      have HB3 := Lib.hid (HB2.out.trans (hb3.mono HB2.out.size))
      have HI3 := Lib.hid (HI2.out.below hb3)
      have HJ3 := Lib.hid (ho3.ints hc3)
      clear hb3 hc3 ho3
      go_wp2_with fail
      refine (sameInts_any _ _ [] [] _ HI3.out HJ3.out (by simp)).mono ?_; rintro e w4 ⟨⟨x, rfl, hx4⟩, hb4⟩
      obtain rfl : x = true := hx4.2 rfl
      have HB4 := Lib.hid (HB3.out.trans (hb4.mono HB3.out.size))
      have HI4 := Lib.hid (HI3.out.below hb4)
      have HJ4 := Lib.hid (HJ3.out.below hb4)
      clear hb4 hx4
      go_wp2_with fail
      refine (sameInts_any _ _ [] [] _ HI4.out HJ4.out (by simp)).mono ?_; rintro e w5 ⟨⟨x, rfl, hx5⟩, hb5⟩
      obtain rfl : x = true := hx5.2 rfl
      have HB5 := Lib.hid (HB4.out.trans (hb5.mono HB4.out.size))
      clear hb5 hx5
      go_wp2
      go_ret
      exact ⟨rfl, HB5.out⟩
    | true =>
      have HMo := Lib.hid (fun (C : List Nat) (h1 : C.Nodup) (h2 : ∀ c, c ∈ C → c < xs.length) h3 => bestX_most hok h1 h2 h3)
      have F5 := Lib.hid (bestX_facts hok).2.2.2.2
      have hsh := bestX_short n xs
      rw [hok] at H2 H1
      clear hok
      generalize bestX n xs = rs at *
      go_wp2_with fail
      refine (H2.out _ Hx1.out).mono ?_; rintro e w2 ⟨ad2, cap2, rfl, hc2, ho2, _, hb2⟩
      have Hx2 := Lib.hid (Hx1.out.below hb2)
      have HB2 := Lib.hid (HB1.out.trans (hb2.mono HB1.out.size))
      have HI2 := Lib.hid (ho2.ints hc2)
      clear hb2 hc2 ho2
      go_wp2_with fail
      refine (H1.out _ Hx2.out).mono ?_; rintro e w3 ⟨ad3, cap3, rfl, hc3, ho3, _, hb3⟩
      have Hx3 := Lib.hid (Hx2.out.below hb3)
      have HB3 := Lib.hid (HB2.out.trans (hb3.mono HB2.out.size))
      have HI3 := Lib.hid (HI2.out.below hb3)
      have HJ3 := Lib.hid (ho3.ints hc3)
      clear hb3 hc3 ho3
      go_wp2_with fail
      refine (sameInts_any _ _ rs rs _ HI3.out HJ3.out hsh).mono ?_; rintro e w4 ⟨⟨x, rfl, hx4⟩, hb4⟩
      obtain rfl : x = true := hx4.2 rfl
      have HB4 := Lib.hid (HB3.out.trans (hb4.mono HB3.out.size))
      have Hx4 := Lib.hid (Hx3.out.below hb4)
      have HI4 := Lib.hid (HI3.out.below hb4)
      clear hb4 hx4 HI2 HI3 HJ3 H1 H2 Hx1 Hx2 Hx3
      have hws := HB4.out.size
      obtain ⟨i0, hinf, hz0, hz1, hz2⟩ := info_parts Try.info3
      by_cases h8 : 8 < xs.length
      · have h8' : (8 : Int) < (xs.length : Int) := by omega
        have hr1 : 0 < rs.length := F5.out.2 (by omega)
        have hr1' : (1 : Int) ≤ (rs.length : Int) := by omega
        go_wp2
        go_ret
        exact ⟨ret_bool (by first | rfl | (simp; done) | (simp; omega)), HB4.out⟩
      · have h8' : ¬ (8 : Int) < (xs.length : Int) := by omega
        have hm8 : xs.length ≤ 8 := by omega
        have hx0 : (0 : Int) ≤ (xs.length : Int) := Int.natCast_nonneg _
        go_wp2
        clear h8 h8'
        go_loopw [10, 11] (fun pv iv wr => McA xs.length w4 pv iv wr) (fun _ iv _ => xs.length - (intOf iv).toNat)
        case atStart => exact ⟨0, Nat.zero_le _, rfl, rfl, Below.refl _ _⟩
        case round =>
          obtain ⟨i, hi, rfl, rfl, hb⟩ := hrel
          have HB := Lib.hid hb
          clear hb
          have hpw := pw_bd i (by omega)
          by_cases hlt : i < xs.length
          · have hi' : (i : Int) < (xs.length : Int) := by omega
            have Hs := Lib.hid (show pw (i + 1) = 2 * pw i from rfl)
            generalize pw i = p at *
            have hw2 : wrap64 (2 * p) = 2 * p := wrap64_ok (by omega) (by omega)
            have hw3 : IntKind.i64.wrap (2 * p) = 2 * p := IntWalk.i64_in _ (by omega)
            go_wp2
            exact ⟨⟨i + 1, hlt, by go_num, by rw [Hs.out], HB.out⟩, by simp [intOf]; omega⟩
          · obtain rfl : i = xs.length := by omega
            have hp1 := hpw.1
            have hp2 := hpw.2
            obtain ⟨P, hP⟩ : ∃ P : Nat, pw xs.length = (P : Int) := ⟨(pw xs.length).toNat, by omega⟩
            rw [hP] at hpw hp1 hp2 ⊢
            have hP2 : P ≤ 256 := by omega
            clear hP hpw hlt hp1 hp2 hi
            go_wp2
            go_loopw [12] (fun sv wr => McB P w4 sv wr) (fun sv _ => P - (intOf sv).toNat)
            case atStart => exact ⟨0, Nat.zero_le _, rfl, HB.out⟩
            case round =>
              clear HB
              obtain ⟨s, hs, rfl, hb⟩ := hrel
              have HB := Lib.hid hb
              by_cases hsP : s < P
              · have hsP' : (s : Int) < (P : Int) := by omega
                have hs0 : (0 : Int) ≤ (s : Int) := Int.natCast_nonneg _
                have hr0 := Lib.hid (RowI.made wr w4.heap.size hb.size)
                have hb0 := Lib.hid (hb.alloc hb.size (.cells #[] 3))
                have hszr := hb.size
                clear hb
                go_wp2
                go_loopw [13, 14, 15] (fun cv bv iv wr => McC xs.length w4 cv bv iv wr) (fun _ _ iv _ => xs.length - (intOf iv).toNat)
                case atStart => exact ⟨0, s, [], _, _, Nat.zero_le _, rfl, rfl, hs0, by omega, rfl, hr0.out, List.Pairwise.nil, fun c hc => (by cases hc), hb0.out⟩
                case round =>
                  clear hr0 hb0
                  obtain ⟨i, bits, cs, g, cap8, hi, rfl, rfl, hbt0, hbt1, rfl, hrow, hpw, hlt, hb⟩ := hrel
                  by_cases hil : i < xs.length
                  · have hil' : (i : Int) < (xs.length : Int) := by omega
                    have hi0 : (0 : Int) ≤ (i : Int) := Int.natCast_nonneg _
                    have hcl := sorted_len hpw hlt
                    have hszr := hb.size
                    obtain ⟨r, hr⟩ : ∃ r, bits % 2 = r := ⟨_, rfl⟩
                    obtain ⟨q, hq⟩ : ∃ q, bits / 2 = q := ⟨_, rfl⟩
                    have hr1 : 0 ≤ r ∧ r < 2 := by omega
                    have hq1 : 0 ≤ q ∧ q ≤ 256 := by omega
                    have HB := Lib.hid hb
                    have Hrow := Lib.hid hrow
                    have Hpw := Lib.hid hpw
                    have Hlt := Lib.hid hlt
                    by_cases hr2 : r = 1
                    · subst hr2
                      have hown := hrow
                      unfold RowI at hown
                      rw [intsOf_len] at hown
                      clear hrow hpw hlt hb
                      go_wp2_with (at_builtin; refine wpList_append_own _ rfl _ _ 26 rfl w4.heap.size 3 i0 (.int .i64 0) 1 8 Try.underlying26 hinf hz0 hz1 hz2 rfl (by decide) _ _ _ rfl (hown.alloc _) ⟨wr.heap.size, 0, none⟩ 1 1 [.int .i64 i] rfl rfl (cell_one_new _ _ _) (by simp [Value.oneCell']) (by simp only [maxLen]; omega) (by omega) (by simp; omega) ?_; intro v' w8 hown8 hgrow _)
                      have HB8 := Lib.hid ((HB.out.alloc hszr (.cells #[.int .i64 i] 3)).grown hgrow (by simp; omega) (fun j hj => (hown.lt j hj).1))
                      obtain ⟨g8, cp8, rfl⟩ := ownI_shape hown8
                      have HR8 := Lib.hid (show RowI w8 w4.heap.size (.slice (some ⟨g8, 0, none⟩) (cs.length + 1) cp8) (intsOf (cs ++ [i])) by
                        rw [intsOf_snoc]; exact RowI.snoc (by rw [intsOf_len]; exact hown8))
                      exact ⟨⟨i + 1, q, cs ++ [i], g8, cp8, hil, by go_num, by rw [hq], hq1.1, hq1.2, by simp, by simpa using HR8.out, sorted_snoc Hpw.out Hlt.out, fun c hc => by rcases List.mem_append.1 hc with h | h; exact Nat.lt_succ_of_lt (Hlt.out c h); rw [List.mem_singleton.1 h]; exact Nat.lt_succ_self _, HB8.out⟩, by simp [intOf]; omega⟩
                    · have hr3 : (r == 1) = false := by simpa using hr2
                      clear hrow hpw hlt hb
                      go_wp2
                      exact ⟨⟨i + 1, q, cs, g, cap8, hil, by go_num, by rw [hq], hq1.1, hq1.2, rfl, Hrow.out, Hpw.out, fun c hc => Nat.lt_succ_of_lt (Hlt.out c hc), HB.out⟩, by simp [intOf]; omega⟩
                  · obtain rfl : i = xs.length := by omega
                    have HCs := Lib.hid (And.intro hpw hlt)
                    obtain ⟨ad', cap', he, hc', ho, _⟩ := hrow.row
                    rw [intsOf_len] at he
                    cases he
                    have HBc := Lib.hid hb
                    have hcl := sorted_len hpw hlt
                    have HG := Lib.hid (fun w' (h : Below wr.heap.size wr w') a (hac : a < cs.length) => (show w'.cell? ⟨g, a, none⟩ = some (.int .i64 ((cs.getD a 0 : Nat) : Int)) by
                      obtain ⟨g', hg', hgl, hat, _⟩ := ho (fun h => absurd (show cs.length = 0 by rw [← intsOf_len cs, h]; rfl) (by omega))
                      cases hg'
                      have := (hat.below h hgl) a (by rw [intsOf_len]; exact hac)
                      rw [intsOf_get hac] at this
                      simpa using this))
                    clear hrow hpw hlt hb ho hc' hi
                    go_wp2
                    generalize wr = w5 at *
                    go_loopw [16, 17] (fun fv iv wr => McD xs cs w5 fv iv wr) (fun _ iv _ => cs.length - (intOf iv).toNat)
                    case atStart => exact ⟨0, true, Nat.zero_le _, rfl, rfl, fun _ => ⟨fun a ha => by omega, fun b hb => by omega⟩, Below.refl _ _⟩
                    case round =>
                      obtain ⟨i, f, hi, rfl, rfl, hf, hb⟩ := hrel
                      have HB5 := Lib.hid hb
                      have HF := Lib.hid hf
                      clear hb hf
                      by_cases hic : i < cs.length
                      · have hic' : (i : Int) < (cs.length : Int) := by omega
                        have hi0 : (0 : Int) ≤ (i : Int) := Int.natCast_nonneg _
                        have hX := Hx4.out
                        obtain ⟨_, _, he, _, ha⟩ := hX
                        cases he
                        obtain ⟨b, o, rfl, hb0, hrw⟩ := ha (fun h => absurd (show xs.length = 0 by rw [h]; rfl) (by omega))
                        have HC := Lib.hid (fun w' (h : Below w5.heap.size w5 w') => hrw.below (HBc.out.trans (h.mono HBc.out.size)) hb0)
                        clear hrw ha
                        go_wp2
                        go_loopw [16, 18] (fun fv kv wr => McE xs cs i w5 fv kv wr) (fun _ kv _ => i - (intOf kv).toNat)
                        case atStart => exact ⟨0, f, Nat.zero_le _, rfl, rfl, HF.out, HB5.out⟩
                        case round =>
                          clear HF HB5
                          obtain ⟨k, f', hk, rfl, rfl, hf, hb⟩ := hrel
                          have HF := Lib.hid hf
                          by_cases hki : k < i
                          · have hki' : (k : Int) < (i : Int) := by omega
                            have hkc' : (k : Int) < (cs.length : Int) := by omega
                            have hk0 : (0 : Int) ≤ (k : Int) := Int.natCast_nonneg _
                            have hg1 := HG.out wr hb i hic
                            have hci := HCs.out.2 _ (getD_memN hic)
                            have hck := HCs.out.2 _ (getD_memN (show k < cs.length by omega))
                            have HGk := Lib.hid (fun w' h => HG.out w' h k (by omega))
                            have Hsn := Lib.hid (fun h => fineE_snoc (k := k) (HF.out h))
                            have HB6 := Lib.hid hb
                            clear hb hf HF
                            generalize cs.getD i 0 = ci at *
                            generalize cs.getD k 0 = ck at *
                            have hci' : (ci : Int) < (xs.length : Int) := by omega
                            have hci0 : (0 : Int) ≤ (ci : Int) := Int.natCast_nonneg _
                            have hck' : (ck : Int) < (xs.length : Int) := by omega
                            have hck0 : (0 : Int) ≤ (ck : Int) := Int.natCast_nonneg _
                            obtain ⟨a0, a1, a2⟩ := HC.out wr HB6.out ci hci
                            have HMt := Lib.hid (show meetE xs ci ck ↔ (xs.getD ci bk0).a < (xs.getD ck bk0).b ∧ (xs.getD ck bk0).a < (xs.getD ci bk0).b from Iff.rfl)
                            have HCk := Lib.hid (fun w' h => HC.out w' h ck hck)
                            generalize (xs.getD ci bk0).a = ia at *
                            generalize (xs.getD ci bk0).b = ib at *
                            generalize (xs.getD ci bk0).m = im at *
                            generalize (xs.getD ck bk0).a = ka at *
                            generalize (xs.getD ck bk0).b = kb at *
                            generalize (xs.getD ck bk0).m = km at *
                            have hba : Below w5.heap.size w5 (wr.alloc (.cells #[.int .i64 ia, .int .i64 ib, .bool im] 31)) := HB6.out.alloc HB6.out.size _
                            have hg2 := HGk.out _ hba
                            obtain ⟨b0, b1, b2⟩ := HCk.out _ hba
                            have HBb := Lib.hid (hba.alloc hba.size (.cells #[.int .i64 ka, .int .i64 kb, .bool km] 31))
                            clear hba
                            cases f' with
                            | false =>
                              go_wp2
                              exact ⟨⟨k + 1, false, by omega, by go_num, rfl, fun h => (by cases h), HBb.out⟩, by simp [intOf]; omega⟩
                            | true =>
                              by_cases hA : ib ≤ ka
                              · have hS := Lib.hid (Hsn.out rfl (fun h => by have := (HMt.out.1 h).2; omega))
                                go_wp2
                                exact ⟨⟨k + 1, true, by omega, by go_num, rfl, fun _ => hS.out, HBb.out⟩, by simp [intOf]; omega⟩
                              · by_cases hB : kb ≤ ia
                                · have hS := Lib.hid (Hsn.out rfl (fun h => by have := (HMt.out.1 h).1; omega))
                                  go_wp2
                                  exact ⟨⟨k + 1, true, by omega, by go_num, rfl, fun _ => hS.out, HBb.out⟩, by simp [intOf]; omega⟩
                                · go_wp2
                                  exact ⟨⟨k + 1, false, by omega, by go_num, rfl, fun h => (by cases h), HBb.out⟩, by simp [intOf]; omega⟩
                          · obtain rfl : k = i := by omega
                            have HB5 := Lib.hid hb
                            clear hb hf
                            go_wp2
                            exact ⟨⟨k + 1, f', hic, by go_num, rfl, fun h => fineE_next (HF.out h), HB5.out⟩, by simp [intOf]; omega⟩
                      · obtain rfl : i = cs.length := by omega
                        have hle : f = true → cs.length ≤ rs.length := fun h => HMo.out cs (sorted_nodup HCs.out.1) HCs.out.2 (apart_all (HF.out h).1)
                        have HB6 := Lib.hid (HBc.out.trans (HB5.out.mono HBc.out.size))
                        cases f with
                        | false =>
                          clear hle
                          go_wp2
                          exact ⟨⟨s + 1, hsP, by go_num, HB6.out⟩, by simp [intOf]; omega⟩
                        | true =>
                          have hle' : ¬ (rs.length : Int) < (cs.length : Int) := by have := hle rfl; omega
                          clear hle
                          go_wp2
                          exact ⟨⟨s + 1, hsP, by go_num, HB6.out⟩, by simp [intOf]; omega⟩
              · obtain rfl : s = P := by omega
                have HBf := Lib.hid (HB4.out.trans (HB.out.mono hws))
                clear hb
                go_wp2
                go_ret
                exact ⟨rfl, HBf.out⟩
  · have hl' : (1048576 : Int) < (l.length : Int) := by omega
    go_enter Try.func4, Try.ntmps4
    go_wp2
    go_ret
    exact ⟨rfl, Below.refl _ _⟩

set_option maxRecDepth 100000 in
theorem lifted (os : Os) (started : os.Started) (H : Type) (enc : TypeId × Value → H) :
    ReturnsInHanded {} Try.checked os 4 .any (Rows.fnSeatsBestMostSpec.pre6 enc Try.prog Try.f4 Rows.fnSeatsBestMostRow.domain false) (Rows.fnSeatsBestMostSpec.post enc Try.prog Try.f4 false true false false) := by
  refine returnsInHanded_of_change (C := Try.checked) own started (by kernel_rfl) Try.func4
    (ChangeSpec.witness6 (enc := enc) (C := Try.checked) false ⟨#[], #[.slice none 0 0], []⟩ 8 (by kernel_rfl) (by kernel_rfl) (by kernel_rfl) (by kernel_rfl)) ?_
  intro W base args ds gs before hval0 hW hcnd _
  have hval : ∀ (j : Nat) t v, Try.f4.params[j]? = some t → args[j]? = some v → Value.okWide Try.prog W .any base t v := hval0
  have hW' := hW
  obtain ⟨p, q, hA0, hV, rfl, hfz, hnd⟩ := hW
  have hA : DataW.TrodAll enc Try.prog W 0 (fun _ => true) true Try.f4.params.toList args.toList ds p := hA0
  rw [Try.params4] at hA hval
  obtain ⟨v0, vs0, d0, ds0, p0, q0, hargs, rfl, rfl, h0, r0⟩ := trodAll_cons hA
  obtain ⟨rfl, rfl, rfl⟩ := trodAll_nil r0
  obtain rfl : args = #[v0] := by cases args; simp_all
  obtain ⟨rfl, rfl⟩ := trodVars_none hV
  obtain ⟨a0, len0, cap0, rfl⟩ := okWide_slice Try.underlying22 (hval 0 22 v0 rfl rfl)
  have k0 := h0
  have lt0 : ∀ x ∈ p0, x.block < W.heap.size := by obtain ⟨m, hm⟩ := k0; exact DataW.trod_lt m _ _ _ hm
  obtain ⟨z0, hv0, hm0⟩ := open_byteS h0 rfl
  clear hA0 hval0
  refine (walk _ z0 W hv0 hm0).mono fun e W' ⟨he, bel⟩ => ?_
  subst he
  exact ⟨_, rfl, _, _, _, [], _, [], hW', trodAll_mk1 (shut_bool Try.underlying4 _), (trodAll_cons_mk (Below.trod laidOut (by kernel_rfl) (of_decide_eq_true (by kernel_rfl)) k0 bel lt0) trodAll_mk0), rfl, bel.frame _, fun h => by cases h⟩

theorem over : Rows.fnSeatsBestMostRow.holds Try.pinned (OpenSpec.ofChange Rows.fnSeatsBestMostSpec) :=
  OpenClaim.holds_of_wide 4 Try.f4 rfl rfl rfl rfl rfl rfl rfl ⟨rfl, rfl, rfl, rfl, rfl⟩ rfl rfl rfl rfl rfl (by kernel_rfl) Try.func4 (by kernel_rfl)
    (of_decide_eq_true (by kernel_rfl)) (by unfold Func.isWrapper; first | (rw [if_pos (by decide +kernel)]; kernel_rfl) | (rw [if_neg (by decide +kernel)]; exact ⟨rfl, rfl⟩))
    (fun os started H enc _ => lifted os started H enc)

theorem proved : Rows.FnSeatsBestMostSaid := over
#print axioms proved
end Go.Proofs.Ytlkhgnglblgldaa.lawFnSeatsBestMost
