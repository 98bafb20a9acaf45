/- Slices of ints: rows of the call's own; markIntS, heldIntS. -/
import Derived.Test.YtmdcpigobfhckaaI
import Derived.Test.YtmdcpigobfhckaaTC
namespace Go.Proofs.Ytmdcpigobfhckaa
open Go.RowKit

/-- The marks from k on. -/
def marksI (k : Int) (n : Nat) : List Int := (List.range n).map fun (i : Nat) => k + (i : Int)

theorem marksI_len (k : Int) (n : Nat) : (marksI k n).length = n := by simp [marksI]

theorem marksI_at (k : Int) {n i : Nat} (h : i < n) : (marksI k n).getD i 0 = k + i := by simp [marksI, List.getD, h]

/-- A slice of ints of the call's own, room and all. -/
def OwnI (w : World) (ad : Option Addr) (l : List Int) : Prop := l ≠ [] → ∃ b, ad = some ⟨b, 0, none⟩ ∧ b < w.heap.size ∧ IntAt w b 0 l ∧ Room w b l.length

theorem OwnI.touch {w w' : World} {ad : Option Addr} {l : List Int} {S : Nat → Prop} (h : OwnI w ad l) (ht : Touch S w w') (hS : ∀ j, inBlk ad j → ¬ S j) : OwnI w' ad l := fun hne => by
  obtain ⟨b, rfl, hb, hi, hr⟩ := h hne
  have hk := ht.block b hb (hS b ⟨0, rfl⟩)
  refine ⟨b, rfl, Nat.lt_of_lt_of_le hb ht.size, fun i hi' => ?_, fun j hj => ?_, fun o => ?_⟩
  · rw [World.cell?_of_block (a := ⟨b, 0 + i, none⟩) hk]; exact hi i hi'
  · rw [World.cell?_of_block (a := ⟨b, j, none⟩) hk]; exact hr.1 j hj
  · rw [World.frozen?_of_block (a := ⟨b, o, none⟩) hk]; exact hr.2 o

theorem OwnI.below {w w' : World} {ad : Option Addr} {l : List Int} (h : OwnI w ad l) (hb : Below w.heap.size w w') : OwnI w' ad l :=
  h.touch (Touch.of_below (S := fun _ => False) hb) (fun _ _ h => h)

theorem OwnI.ints {w : World} {ad : Option Addr} {l : List Int} {cap : Nat} (h : OwnI w ad l) (hc : l.length ≤ cap) : IntsIn w (.slice ad l.length cap) l :=
  ⟨ad, cap, rfl, hc, fun hne => by obtain ⟨b, rfl, hb, hi, _⟩ := h hne; exact ⟨b, 0, rfl, hb, hi⟩⟩

/-- What a function gives that makes numbers, and a bool. -/
def IntsOk (xs : List Int) (ok : Bool) (w : World) (e : Ending) (w' : World) : Prop :=
  ∃ (ad : Option Addr) (cap : Nat), e = .returned (.tuple #[.slice ad xs.length cap, .bool ok]) ∧ xs.length ≤ cap ∧ OwnI w' ad xs ∧ (∀ j, inBlk ad j → w.heap.size ≤ j ∧ j < w'.heap.size) ∧ Below w.heap.size w w'

theorem OwnI.nil {w : World} {ad : Option Addr} : OwnI w ad [] := fun h => absurd rfl h

/-- The slice v is a row of the call's own, of blocks from B on; it reads as l. -/
def RowI (w : World) (B : Nat) (v : Value) (l : List Int) : Prop := w.ownsRow B 3 1 v l.length (l.map (Value.int .i64))

theorem RowI.row {w : World} {B : Nat} {v : Value} {l : List Int} (h : RowI w B v l) : ∃ (ad : Option Addr) (cap : Nat), v = .slice ad l.length cap ∧ l.length ≤ cap ∧ OwnI w ad l ∧ (∀ j, inBlk ad j → B ≤ j ∧ j < w.heap.size) := by
  obtain ⟨hlen, h⟩ := h
  rcases h with ⟨rfl, h0⟩ | ⟨g, cap, cur, rfl, hB, hh, hcap, hmax, hs, htk⟩
  · have : l = [] := List.eq_nil_of_length_eq_zero h0
    subst this
    exact ⟨none, 0, rfl, Nat.le_refl _, fun h => absurd rfl h, fun j hj => by obtain ⟨o, ho⟩ := hj; cases ho⟩
  · have hg : g < w.heap.size := (Array.getElem?_eq_some_iff.1 hh).1
    refine ⟨some ⟨g, 0, none⟩, cap, rfl, hcap, fun _ => ⟨g, rfl, hg, fun i hi => ?_, ⟨fun j hj => ?_, fun o => ?_⟩⟩, fun j hj => by obtain ⟨o, ho⟩ := hj; cases ho; exact ⟨hB, hg⟩⟩
    · rw [Nat.zero_add, cell_of_row w g i cur 3 (0, 0) hh]
      have hj : (l.map (Value.int .i64))[i]? = some (.int .i64 (l.getD i 0)) := by simp [List.getD, hi]
      rw [← htk, List.getElem?_take] at hj
      split at hj
      · simpa using hj
      · cases hj
    · rw [cell_of_row w g j cur 3 (0, 0) hh]
      exact ⟨_, Array.getElem?_eq_getElem (by omega)⟩
    · simp [World.frozen?, hh]

theorem RowI.made (w : World) (B : Nat) (hB : B ≤ w.heap.size) : RowI (w.alloc (.cells #[] 3)) B (.slice (some ⟨w.heap.size, 0, none⟩) 0 0) [] :=
  ⟨rfl, .inr ⟨w.heap.size, 0, #[], rfl, hB, heap_alloc_new w _, Nat.le_refl _, by unfold maxLen; omega, rfl, rfl⟩⟩

theorem RowI.snoc {w : World} {B : Nat} {v : Value} {l : List Int} {x : Int} (h : w.ownsRow B 3 1 v (l.length + 1) (l.map (Value.int .i64) ++ [.int .i64 x])) : RowI w B v (l ++ [x]) := by
  unfold RowI
  rw [List.map_append, List.length_append]
  exact h

theorem RowI.below {w w' : World} {B : Nat} {v : Value} {l : List Int} (h : RowI w B v l) (hb : Below w.heap.size w w') : RowI w' B v l := own_keep h hb

def MarkIRel (ad : Option Addr) (l : List Int) (k : Int) (w : World) (kv i : Value) (wr : World) : Prop :=
  ∃ j : Nat, j ≤ l.length ∧ i = .int .i64 j ∧ kv = .int .i64 (k + j) ∧ Touch (inBlk ad) w wr ∧ (l ≠ [] → ∃ b, ad = some ⟨b, 0, none⟩ ∧ b < wr.heap.size ∧ IntAt wr b 0 ((marksI k l.length).take j) ∧ Room wr b l.length)

set_option maxHeartbeats 400000 in
theorem markIntS_any (ad : Option Addr) (cap : Nat) (l : List Int) (k : Int) (w : World) (h : OwnI w ad l) (hl : l.length ≤ 1048576) (h0 : 0 ≤ k) (h9 : k ≤ 9000000) :
    Calls Try.prog 30 #[.slice ad l.length cap, .int .i64 k] w fun e w' => e = .returned (.int .i64 (k + l.length)) ∧ OwnI w' ad (marksI k l.length) ∧ Touch (inBlk ad) w w' := by
  have H := Lib.hid h; clear h
  go_enter Try.func30, Try.ntmps30
  go_wp2
  go_loopw [1, 5] (fun kv i wr => MarkIRel ad l k w kv i wr) (fun _ i _ => l.length - (intOf i).toNat)
  case atStart =>
    refine ⟨0, Nat.zero_le _, rfl, by simp, Touch.refl _ _, fun hne => ?_⟩
    obtain ⟨b, rfl, hb, hi, hr⟩ := H.out hne
    exact ⟨b, rfl, hb, (fun i hi => by simp at hi), hr⟩
  case round =>
    obtain ⟨j, hj, rfl, rfl, ht, hown⟩ := hrel
    by_cases hlt : j < l.length
    · obtain ⟨b, rfl, hb, hi, hr⟩ := hown (by intro h; simp [h] at hlt)
      clear hown
      obtain ⟨u0, e0⟩ := hr.1 j hlt
      have f0 := hr.2 j
      have Hi := Lib.hid hi; clear hi
      have Hr := Lib.hid hr; clear hr
      have Ht := Lib.hid ht; clear ht
      have hlt' : (j : Int) < (l.length : Int) := by omega
      go_wp2
      have hk : j < (marksI k l.length).length := by rw [marksI_len]; exact hlt
      refine ⟨⟨j + 1, hlt, by go_num, by go_num, Ht.out.setCell ⟨0, rfl⟩ _, fun _ => ⟨b, rfl, by simpa using hb, ?_, Hr.out.setCell _ _⟩⟩, by simp [intOf]; omega⟩
      exact IntAt.push hk (by rw [marksI_len]; exact Nat.le_refl _) Hi.out Hr.out (marksI_at k hlt).symm
    · obtain hjl : l.length = j := by omega
      have Hjl := Lib.hid hjl; clear hjl
      have Hown := Lib.hid hown; clear hown
      have Ht := Lib.hid ht; clear ht
      go_wp2
      go_ret
      refine ⟨by rw [Hjl.out]; rfl, fun hne => ?_, Ht.out⟩
      have hne' : l ≠ [] := fun e => hne (by rw [e]; rfl)
      obtain ⟨b, rfl, hb, hi, hr⟩ := Hown.out hne'
      have hlj : (marksI k l.length).length = j := by rw [marksI_len]; exact Hjl.out
      refine ⟨b, rfl, hb, ?_, by rw [marksI_len]; exact hr⟩
      rwa [← hlj, List.take_length] at hi

def HeldRel (n : Nat) (k : Int) (w : World) (kv i : Value) (wr : World) : Prop :=
  ∃ j : Nat, j ≤ n ∧ i = .int .i64 j ∧ kv = .int .i64 (k + j) ∧ wr = w

set_option maxHeartbeats 400000 in
theorem heldIntS_any (ad : Option Addr) (cap n : Nat) (k : Int) (w : World) (h : OwnI w ad (marksI k n)) (hl : n ≤ 1048576) (h0 : 0 ≤ k) (h9 : k ≤ 9000000) :
    Calls Try.prog 31 #[.slice ad n cap, .int .i64 k] w fun e w' => e = .returned (.int .i64 (k + n)) ∧ w' = w := by
  have H := Lib.hid h; clear h
  go_enter Try.func31, Try.ntmps31
  go_wp2
  go_loopw [1, 5] (fun kv i wr => HeldRel n k w kv i wr) (fun _ i _ => n - (intOf i).toNat)
  case atStart => exact ⟨0, Nat.zero_le _, rfl, by simp, rfl⟩
  case round =>
    obtain ⟨j, hj, rfl, rfl, rfl⟩ := hrel
    by_cases hlt : j < n
    · obtain ⟨b, rfl, hb, hi, hr⟩ := H.out (by intro h; have := marksI_len k n; rw [h] at this; simp at this; omega)
      have c0 := hi j (by rw [marksI_len]; exact hlt)
      rw [Nat.zero_add, marksI_at k hlt] at c0
      clear hi hr
      have hlt' : (j : Int) < (n : Int) := by omega
      go_wp2
      refine ⟨⟨j + 1, hlt, by go_num, by go_num, rfl⟩, by simp [intOf]; omega⟩
    · obtain rfl : n = j := by omega
      go_wp2
      go_ret
      exact ⟨rfl, rfl⟩

end Go.Proofs.Ytmdcpigobfhckaa

