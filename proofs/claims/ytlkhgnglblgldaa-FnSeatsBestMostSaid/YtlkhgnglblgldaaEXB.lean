/- Which ends first of those behind a stop? (program) -/
import Derived.Test.YtlkhgnglblgldaaEQ
import Derived.Test.YtlkhgnglblgldaaEW
namespace Go.Proofs.Ytlkhgnglblgldaa
open Go.RowKit

/-- What is answered of an index found or not. -/
def idxV (o : Option Nat) : Value := .tuple #[.int .i64 (o.getD 0 : Nat), .bool o.isSome]
theorem feTo_succ_no {l : List Bk} {s : Int} {j : Nat} (h : ¬ s ≤ (l.getD j bk0).a) : feTo l s (j + 1) = feTo l s j := by
  rw [feTo]
  cases feTo l s j with
  | none => simp only; rw [if_neg h]
  | some k => simp only; rw [if_neg (fun q => h q.1)]
theorem feTo_succ_new {l : List Bk} {s : Int} {j : Nat} (h : s ≤ (l.getD j bk0).a) (hn : feTo l s j = none) : feTo l s (j + 1) = some j := by
  rw [feTo, hn]; simp only; rw [if_pos h]
theorem feTo_succ_less {l : List Bk} {s : Int} {j k : Nat} (h : s ≤ (l.getD j bk0).a) (hn : feTo l s j = some k) (hb : (l.getD j bk0).b < (l.getD k bk0).b) : feTo l s (j + 1) = some j := by
  rw [feTo, hn]; simp only; rw [if_pos ⟨h, hb⟩]
theorem feTo_succ_keep {l : List Bk} {s : Int} {j k : Nat} (hn : feTo l s j = some k) (hb : ¬ (l.getD j bk0).b < (l.getD k bk0).b) : feTo l s (j + 1) = some k := by
  rw [feTo, hn]; simp only; rw [if_neg (fun q => hb q.2)]

def FirRel (l : List Bk) (s : Int) (w : World) (f ok i : Value) (wr : World) : Prop :=
  ∃ k : Nat, k ≤ l.length ∧ f = .int .i64 ((feTo l s k).getD 0 : Nat) ∧ ok = .bool (feTo l s k).isSome ∧ i = .int .i64 k ∧ Below w.heap.size w wr

set_option maxRecDepth 100000 in
set_option maxHeartbeats 2000000 in
theorem firstToEnd_any (v : Value) (l : List Bk) (s : Int) (w : World) (hv : BkIn w v l) (hl : l.length ≤ 1048576) :
    Calls Try.prog 46 #[v, .int .i64 s] w (Gives (idxV (feB l s)) w) := by
  obtain ⟨a, cap, rfl, hcap, ha⟩ := hv
  clear hcap
  have Ha := Lib.hid ha; clear ha
  go_enter Try.func46, Try.ntmps46
  go_wp2
  go_loopw [6, 7, 12] (fun f ok i wr => FirRel l s w f ok i wr) (fun _ _ i _ => l.length - (intOf i).toNat)
  case atStart => exact ⟨0, Nat.zero_le _, rfl, rfl, rfl, Below.refl _ _⟩
  case round =>
    obtain ⟨k, hk, rfl, rfl, rfl, hb⟩ := hrel
    by_cases hlt : k < l.length
    · have hk' : (k : Int) < (l.length : Int) := by omega
      have hk0 : (0 : Int) ≤ (k : Int) := Int.natCast_nonneg _
      obtain ⟨b, o, rfl, hb0, hrw⟩ := Ha.out (by intro h; simp [h] at hlt)
      have hbw := hrw.below hb hb0
      obtain ⟨c0, c1, c2⟩ := hbw k hlt
      have hbs := hb.size
      have HB := Lib.hid hb
      have Hsn := Lib.hid (feTo_succ_no (l := l) (s := s) (j := k))
      have Hnew := Lib.hid (feTo_succ_new (l := l) (s := s) (j := k))
      have Hless := Lib.hid (fun m => feTo_succ_less (l := l) (s := s) (j := k) (k := m))
      have Hkeep := Lib.hid (fun m => feTo_succ_keep (l := l) (s := s) (j := k) (k := m))
      have Hsome := Lib.hid (fun m => feTo_some (l := l) (s := s) (j := k) (k := m))
      have Hbw := Lib.hid hbw
      clear hb hrw hbw
      have HB2 := Lib.hid (show Below w.heap.size w (wr.alloc (.cells #[.int .i64 (l.getD k bk0).a, .int .i64 (l.getD k bk0).b, .bool (l.getD k bk0).m] 31)) from HB.out.alloc hbs _)
      have HW2 := Lib.hid (fun m (hm : m < l.length) => keepCell ((Below.refl wr.heap.size wr).alloc (Nat.le_refl _) (.cells #[.int .i64 (l.getD k bk0).a, .int .i64 (l.getD k bk0).b, .bool (l.getD k bk0).m] 31)) (Hbw.out m hm).2.1)
      have n0 := news1 wr #[.int .i64 (l.getD k bk0).a, .int .i64 (l.getD k bk0).b, .bool (l.getD k bk0).m] 31 0 _ rfl
      have n1 := news1 wr #[.int .i64 (l.getD k bk0).a, .int .i64 (l.getD k bk0).b, .bool (l.getD k bk0).m] 31 1 _ rfl
      simp only [Addr.add, Nat.zero_add] at n0 n1
      obtain ⟨r, hr⟩ : ∃ r, l.getD k bk0 = r := ⟨_, rfl⟩
      rw [hr] at c0 c1 c2 HB2 HW2 n0 n1 Hsn Hnew Hless Hkeep
      clear hr
      obtain ⟨xa, xb, xm⟩ := r
      simp only at c0 c1 c2 n0 n1 HB2 HW2 Hsn Hnew Hless Hkeep
      generalize hfe : feTo l s k = fo at *
      clear hfe
      by_cases hs : s ≤ xa
      · have hd : decide (s ≤ xa) = true := decide_eq_true hs
        cases fo with
        | none =>
          have He := Lib.hid (Hnew.out hs rfl)
          clear Hsn Hnew Hless Hkeep Hsome
          simp only [Option.getD_none, Option.isSome_none]
          go_wp2_with fail
          go_quiet (fail)
          go_wp2
          exact ⟨⟨k + 1, hlt, by rw [He.out]; rfl, by rw [He.out]; rfl, by go_num, HB2.out.drewN _⟩, by simp [intOf]; omega⟩
        | some m =>
          have hm := (Hsome.out m rfl).1
          have hm' : (m : Int) < (l.length : Int) := by omega
          have hm0 : (0 : Int) ≤ (m : Int) := Int.natCast_nonneg _
          have cm := HW2.out m (by omega)
          simp only [Option.getD_some, Option.isSome_some]
          have HeL := Lib.hid (fun h => Hless.out m hs rfl h)
          have HeK := Lib.hid (fun h => Hkeep.out m rfl h)
          clear Hsn Hnew Hless Hkeep Hsome
          generalize (l.getD m bk0).b = y at *
          by_cases hy : xb < y
          · have hdy : decide (xb < y) = true := decide_eq_true hy
            have He := Lib.hid (HeL.out hy)
            go_wp2_with fail
            go_quiet (fail)
            go_wp2
            exact ⟨⟨k + 1, hlt, by rw [He.out]; rfl, by rw [He.out]; rfl, by go_num, HB2.out.drewN _⟩, by simp [intOf]; omega⟩
          · have hdy : decide (xb < y) = false := decide_eq_false hy
            have He := Lib.hid (HeK.out hy)
            go_wp2_with fail
            go_quiet (fail)
            go_wp2
            exact ⟨⟨k + 1, hlt, by rw [He.out]; rfl, by rw [He.out]; rfl, by go_num, HB2.out.drewN _⟩, by simp [intOf]; omega⟩
      · have hd : decide (s ≤ xa) = false := decide_eq_false hs
        have He := Lib.hid (Hsn.out hs)
        clear Hsn Hnew Hless Hkeep
        have hfo : ∀ m, fo = some m → m < k := fun m h => (Hsome.out m h).1
        clear Hsome
        go_wp2_with fail
        go_quiet (fail)
        go_wp2
        exact ⟨⟨k + 1, hlt, by rw [He.out], by rw [He.out], by go_num, HB2.out.drewN _⟩, by simp [intOf]; omega⟩
    · obtain rfl : k = l.length := by omega
      have HB := Lib.hid hb; clear hb
      go_wp2
      go_ret2
      exact ⟨rfl, HB.out⟩

end Go.Proofs.Ytlkhgnglblgldaa
