/- Draws: a change (l92Change), a net (l92Net). -/
import Derived.Test.YtmkcnoaphoiiaaaDC
import Derived.Test.YtmkcnoaphoiiaaaDLA
import Derived.Test.YtmkcnoaphoiiaaaJL
import Derived.Test.YtmkcnoaphoiiaaaM1
namespace Go.Proofs.Ytmkcnoaphoiiaaa
open Go.RowKit

def lit2 : Nat → Int
  | 0 => -1
  | _ => 301
theorem lit2_at (w : World) (k : Nat) (h : (k : Int) < 2) : (w.alloc (.cells #[.int .i64 (-1), .int .i64 301] 3)).cell? ⟨w.heap.size, k, none⟩ = some (.int .i64 (lit2 k)) := by
  rcases (show k = 0 ∨ k = 1 by omega) with rfl | rfl <;> simp [lit2]
theorem lit2_bd (k : Nat) : (-1 : Int) ≤ lit2 k ∧ lit2 k ≤ 301 := by
  unfold lit2; split <;> omega

set_option maxRecDepth 100000 in
set_option maxHeartbeats 1000000 in
theorem change92_any (g : Nat) (l : List Int) (p : Nat) (w : World) (h : Reader w g l p) (hp : p ≤ 900000) :
    Calls Try.prog 102 #[.pointer (some ⟨g, 0, none⟩)] w (DelOut g l p w) := by
  have H := Lib.hid h; clear h
  go_enter Try.func102, Try.ntmps102
  go_wp2_with fail
  refine (pick_any g l p 30 _ H.out (by omega) (by omega)).mono ?_; rintro e w1 ⟨⟨z, rfl, hz0, hz1⟩, hr1, hg1⟩
  have HT1 := Lib.hid (Touch.grown (S := fun j => j = g) hg1 rfl)
  have HR1 := Lib.hid hr1
  clear hr1 hg1 hz1
  by_cases q : z = 0
  · subst q
    have hgl := HR1.out.lt
    have HA := Lib.hid (show Below w1.heap.size w1 (w1.alloc (.cells #[.int .i64 (-1), .int .i64 301] 3)) from (Below.refl _ _).alloc (Nat.le_refl _) _)
    go_wp2_with fail
    refine (pick_any g l (p + 1) 2 _ (HR1.out.belowB HA.out hgl) (by omega) (by omega)).mono ?_; rintro e w2 ⟨⟨k, rfl, hk0, hk1⟩, hr2, hg2⟩
    obtain ⟨k, rfl⟩ : ∃ j : Nat, k = (j : Int) := ⟨k.toNat, by omega⟩
    have hk5 : (k : Int) < 2 := by omega
    have d := lit_aftD (b := w1.heap.size) (k := k) hg2 (Nat.ne_of_gt hgl) (lit2_at w1 k hk5) (by simp)
    have HT2 := Lib.hid ((HT1.out.belowB (HA.out.mono HT1.out.size)).trans (Touch.grown (S := fun j => j = g) hg2 rfl))
    have HR2 := Lib.hid hr2
    have Hb := Lib.hid (lit2_bd k)
    generalize lit2 k = y at *
    clear hr2 hg2 hk1
    go_wp2
    go_ret
    exact ⟨y, p + 1 + 1, rfl, Hb.out.1, Hb.out.2, HR2.out, by omega, HT2.out⟩
  · have q' : (z == 0) = false := by simpa using q
    go_wp2_with fail
    refine (pick_any g l (p + 1) 3 _ HR1.out (by omega) (by omega)).mono ?_; rintro e w2 ⟨⟨a, rfl, ha0, ha1⟩, hr2, hg2⟩
    have HT2 := Lib.hid (HT1.out.trans (Touch.grown (S := fun j => j = g) hg2 rfl))
    have HR2 := Lib.hid hr2
    clear hr2 hg2
    go_wp2_with fail
    refine (pick_any g l (p + 1 + 1) 9 _ HR2.out (by omega) (by omega)).mono ?_; rintro e w3 ⟨⟨b, rfl, hb0, hb1⟩, hr3, hg3⟩
    have HT3 := Lib.hid (HT2.out.trans (Touch.grown (S := fun j => j = g) hg3 rfl))
    have HR3 := Lib.hid hr3
    have hab : 0 ≤ a * b ∧ a * b ≤ 38 := by
      rcases (show a = 0 ∨ a = 1 ∨ a = 2 by omega) with rfl | rfl | rfl <;> omega
    obtain ⟨x, hx⟩ : ∃ x, a * b = x := ⟨_, rfl⟩
    rw [hx] at hab
    obtain ⟨x0, x1⟩ := hab
    have g1 : wrap64 (a * b) = x := by rw [hx]; unfold wrap64; omega
    have g2 : IntKind.i64.wrap (a * b) = x := by rw [hx]; exact IntWalk.i64_in _ (by omega)
    clear hr3 hg3 hx ha0 ha1 hb0 hb1 q
    go_wp2
    go_ret
    exact ⟨x, p + 1 + 1 + 1, rfl, by omega, by omega, HR3.out, by omega, HT3.out⟩

/-- A slice of stops whose block has P. -/
def TzX (w : World) (P : Nat → Prop) (u : Value) (l : List Tz) : Prop :=
  ∃ (a : Option Addr) (cap : Nat), u = .slice a l.length cap ∧ l.length ≤ cap ∧ (l ≠ [] → ∃ b o, a = some ⟨b, o, none⟩ ∧ P b ∧ b < w.heap.size ∧ TzAt w b o l)
def NtX (w : World) (P : Nat → Prop) (v : Value) (net : List (List Tz)) : Prop :=
  ∃ (a : Option Addr) (cap : Nat), v = .slice a net.length cap ∧ net.length ≤ cap ∧ (net ≠ [] → ∃ b o, a = some ⟨b, o, none⟩ ∧ P b ∧ b < w.heap.size ∧ ∀ i, i < net.length → ∃ u, w.cell? ⟨b, o + i, none⟩ = some u ∧ TzX w P u (coach net i))
section
variable {w w' : World} {P Q S : Nat → Prop} {u v : Value} {l : List Tz} {net : List (List Tz)}
theorem TzX.touch (h : TzX w P u l) (ht : Touch S w w') (hS : ∀ j, P j → ¬ S j) : TzX w' P u l := by
  obtain ⟨a, cap, rfl, hc, ha⟩ := h
  refine ⟨a, cap, rfl, hc, fun hl => ?_⟩
  obtain ⟨b, o, rfl, hp, hlt, hat⟩ := ha hl
  exact ⟨b, o, rfl, hp, Nat.lt_of_lt_of_le hlt ht.size, hat.kept fun j => World.cell?_of_block (a := ⟨b, j, none⟩) (ht.block b hlt (hS b hp))⟩
theorem TzX.move (h : TzX w P u l) (ht : Touch S w w') (hS : ∀ j, j < w.heap.size → P j → ¬ S j ∧ Q j) : TzX w' Q u l := by
  obtain ⟨a, cap, rfl, hc, ha⟩ := h
  refine ⟨a, cap, rfl, hc, fun hl => ?_⟩
  obtain ⟨b, o, rfl, hp, hlt, hat⟩ := ha hl
  exact ⟨b, o, rfl, (hS b hlt hp).2, Nat.lt_of_lt_of_le hlt ht.size, hat.kept fun j => World.cell?_of_block (a := ⟨b, j, none⟩) (ht.block b hlt (hS b hlt hp).1)⟩
theorem TzX.mono (h : TzX w P u l) (hPQ : ∀ j, j < w.heap.size → P j → Q j) : TzX w Q u l := by
  obtain ⟨a, cap, rfl, hc, ha⟩ := h
  refine ⟨a, cap, rfl, hc, fun hl => ?_⟩
  obtain ⟨b, o, rfl, hp, hlt, hat⟩ := ha hl
  exact ⟨b, o, rfl, hPQ b hlt hp, hlt, hat⟩
theorem TzX.in_ (h : TzX w P u l) : TzIn w u l := by
  obtain ⟨a, cap, rfl, hc, ha⟩ := h
  refine ⟨a, cap, rfl, hc, fun hl => ?_⟩
  obtain ⟨b, o, rfl, hp, hlt, hat⟩ := ha hl
  exact ⟨b, o, rfl, hlt, hat⟩
theorem NtX.touch (h : NtX w P v net) (ht : Touch S w w') (hS : ∀ j, P j → ¬ S j) : NtX w' P v net := by
  obtain ⟨a, cap, rfl, hc, ha⟩ := h
  refine ⟨a, cap, rfl, hc, fun hl => ?_⟩
  obtain ⟨b, o, rfl, hp, hlt, hat⟩ := ha hl
  exact ⟨b, o, rfl, hp, Nat.lt_of_lt_of_le hlt ht.size, fun i hi => by
    obtain ⟨u, h1, h2⟩ := hat i hi
    exact ⟨u, (World.cell?_of_block (a := ⟨b, o + i, none⟩) (ht.block b hlt (hS b hp))).trans h1, h2.touch ht hS⟩⟩
theorem NtX.below (h : NtX w P v net) (hb : Below w.heap.size w w') : NtX w' P v net := h.touch (Touch.of_below (S := fun _ => False) hb) (fun _ _ h => h)
theorem NtX.mono (h : NtX w P v net) (hPQ : ∀ j, j < w.heap.size → P j → Q j) : NtX w Q v net := by
  obtain ⟨a, cap, rfl, hc, ha⟩ := h
  refine ⟨a, cap, rfl, hc, fun hl => ?_⟩
  obtain ⟨b, o, rfl, hp, hlt, hat⟩ := ha hl
  exact ⟨b, o, rfl, hPQ b hlt hp, hlt, fun i hi => by obtain ⟨u, h1, h2⟩ := hat i hi; exact ⟨u, h1, h2.mono hPQ⟩⟩
theorem NtX.in_ (h : NtX w P v net) : NtIn w v net := by
  obtain ⟨a, cap, rfl, hc, ha⟩ := h
  refine ⟨a, cap, rfl, hc, fun hl => ?_⟩
  obtain ⟨b, o, rfl, hp, hlt, hat⟩ := ha hl
  exact ⟨b, o, rfl, hlt, fun i hi => by obtain ⟨u, h1, h2⟩ := hat i hi; exact ⟨u, h1, h2.in_⟩⟩
end

/-- A net that grows, read only. -/
def GrowX (w : World) (A g cap : Nat) (L : List (List Tz)) : Prop :=
  ∃ us : List Value, w.ownsRow A 57 1 (.slice (some ⟨g, 0, none⟩) L.length cap) L.length us ∧ ∀ i, i < L.length → ∃ u, us[i]? = some u ∧ TzX w (fun b => A ≤ b ∧ b ≠ g) u (coach L i)

theorem GrowX.made (w : World) (A : Nat) (hA : A ≤ w.heap.size) : GrowX (w.alloc (.cells #[] 57)) A w.heap.size 0 [] :=
  ⟨[], ⟨rfl, .inr ⟨w.heap.size, 0, #[], rfl, hA, heap_alloc_new w _, Nat.le_refl _, by unfold maxLen; omega, rfl, rfl⟩⟩, fun i hi => by simp at hi⟩
theorem GrowX.lo {w : World} {A g cap : Nat} {L : List (List Tz)} (h : GrowX w A g cap L) : A ≤ g ∧ g < w.heap.size ∧ L.length ≤ cap := by
  obtain ⟨us, ⟨_, h1⟩, _⟩ := h
  rcases h1 with ⟨h1, _⟩ | ⟨g', cap', cur, h1, hB, hh, hcap, _⟩
  · cases h1
  · injection h1 with h1 _ h3
    injection h1 with h1
    injection h1 with h1
    subst h1 h3
    exact ⟨hB, (Array.getElem?_eq_some_iff.1 hh).1, hcap⟩
theorem GrowX.touch {w w' : World} {A g cap r : Nat} {L : List (List Tz)} (h : GrowX w A g cap L) (ht : Touch (fun j => j = r) w w') (hr : r < A) : GrowX w' A g cap L := by
  have hl := h.lo
  obtain ⟨us, h1, h2⟩ := h
  exact ⟨us, own_touch7 h1 ht (fun q hq e => by have := (h1.lt q hq).1; omega), fun i hi => by obtain ⟨u, a, b⟩ := h2 i hi; exact ⟨u, a, b.touch ht (fun j hj e => by omega)⟩⟩
theorem GrowX.below {w w' : World} {A g cap : Nat} {L : List (List Tz)} (h : GrowX w A g cap L) (hb : Below w.heap.size w w') : GrowX w' A g cap L := by
  obtain ⟨us, h1, h2⟩ := h
  exact ⟨us, own_keep h1 hb, fun i hi => by obtain ⟨u, a, b⟩ := h2 i hi; exact ⟨u, a, b.touch (Touch.of_below (S := fun _ => False) hb) (fun _ _ h => h)⟩⟩
theorem GrowX.done {w : World} {A g cap : Nat} {L : List (List Tz)} (h : GrowX w A g cap L) : NtX w (fun b => A ≤ b) (.slice (some ⟨g, 0, none⟩) L.length cap) L := by
  obtain ⟨l1, l2, l3⟩ := h.lo
  obtain ⟨us, h1, h2⟩ := h
  refine ⟨_, cap, rfl, l3, fun hl => ⟨g, 0, rfl, l1, l2, fun i hi => ?_⟩⟩
  obtain ⟨u, a, b⟩ := h2 i hi
  obtain ⟨a', cap', cb, e, _, hd⟩ := owns_done h1
  injection e with e _ _
  obtain ⟨d1, _, _, d2⟩ := hd (by omega)
  rw [d1] at e
  injection e with e
  injection e with e
  refine ⟨u, ?_, b.mono fun j _ h => h.1⟩
  rw [Nat.zero_add, e]
  exact d2 i u a
theorem GrowX.push {w w8 : World} {A g cap g2 cap2 : Nat} {L : List (List Tz)} {us : List Value} {u : Value} {l : List Tz} {O : Obj}
    (h1 : w.ownsRow A 57 1 (.slice (some ⟨g, 0, none⟩) L.length cap) L.length us) (h2 : ∀ i, i < L.length → ∃ u, us[i]? = some u ∧ TzX w (fun b => A ≤ b ∧ b ≠ g) u (coach L i))
    (hu : TzX w (fun b => A ≤ b ∧ b ≠ g) u l) (hown : w8.ownsRow A 57 1 (.slice (some ⟨g2, 0, none⟩) (L.length + 1) cap2) (L.length + 1) (us ++ [u]))
    (hgrow : (w.alloc O).grownBy w8 (some g)) (hlie : some g = some g2 ∨ g2 = (w.alloc O).heap.size) : GrowX w8 A g2 cap2 (L ++ [l]) := by
  have hT : Touch (fun p => p = g) w w8 := ⟨by rw [hgrow.os]; rfl, by rw [hgrow.tape]; rfl, by rw [hgrow.output]; rfl, by have := hgrow.size; simp at this; omega, fun j hj hS => (hgrow.block j (by simp; omega) (fun e => hS (by injection e with e))).trans (((Below.refl w.heap.size w).alloc (Nat.le_refl _) _).block j hj)⟩
  rw [World.size_alloc] at hlie
  have hne : ∀ j, j < w.heap.size → (A ≤ j ∧ j ≠ g) → (A ≤ j ∧ j ≠ g2) := fun j hj hq => ⟨hq.1, fun e => by
    rcases hlie with h | h
    · injection h with h; omega
    · omega⟩
  have hlen := h1.1
  refine ⟨us ++ [u], by rw [List.length_append, List.length_singleton]; exact hown, fun i hi => ?_⟩
  rw [List.length_append, List.length_singleton] at hi
  have hul : us.length = L.length := by simpa using hlen
  by_cases hik : i = L.length
  · refine ⟨u, by rw [List.getElem?_append_right (by omega)]; simp [hik, hul], ?_⟩
    rw [coach_snoc_eq L l hik]
    exact hu.move hT (fun j hj hq => ⟨fun e => hq.2 e, hne j hj hq⟩)
  · obtain ⟨u', a, b⟩ := h2 i (by omega)
    refine ⟨u', by rw [List.getElem?_append_left (by omega)]; exact a, ?_⟩
    rw [coach_snoc_lt L l (by omega)]
    exact b.move hT (fun j hj hq => ⟨fun e => hq.2 e, hne j hj hq⟩)

end Go.Proofs.Ytmkcnoaphoiiaaa
