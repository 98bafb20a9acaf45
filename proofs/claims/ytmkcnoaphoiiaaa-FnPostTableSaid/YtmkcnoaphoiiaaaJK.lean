/- The program's net: postNetOf, NetValid; the model's NetValid. -/
import Derived.Test.YtmkcnoaphoiiaaaJE
import Derived.Test.YtmkcnoaphoiiaaaZR
import Derived.Test.YtmkcnoaphoiiaaaKA
import Derived.Laws.OwnMore
import Derived.Laws.AppendOwn
import Derived.OwnWalk
import Derived.Deep.AppendLies
namespace Go.Proofs.Ytmkcnoaphoiiaaa
open Go.RowKit

theorem own_touch7 {w w' : World} {B k E c : Nat} {v : Value} {xs : List Value} {S : Nat → Prop} (h : w.ownsRow B E c v k xs) (ht : Touch S w w') (hS : ∀ q, v.ownBlock = some q → ¬ S q) : w'.ownsRow B E c v k xs := by
  obtain ⟨h1, h2⟩ := h
  refine ⟨h1, ?_⟩
  rcases h2 with h0 | ⟨g, cap, cur, rfl, hg, hh, r⟩
  · exact .inl h0
  · exact .inr ⟨g, cap, cur, rfl, hg, (ht.block g (Array.getElem?_eq_some_iff.1 hh).1 (hS g rfl)).trans hh, r⟩
theorem Whole.grown7 {w w' : World} {g : Nat} {t : TypeId} {cs : Array Value} {row : Option Nat} (h : Whole w g t cs) (hg : w.grownBy w' row) (hne : row ≠ some g) : Whole w' g t cs :=
  (hg.block g h.lt (fun e => hne e.symm)).trans h
theorem Whole.touch7 {w w' : World} {g : Nat} {t : TypeId} {cs : Array Value} {S : Nat → Prop} (h : Whole w g t cs) (ht : Touch S w w') (hS : ¬ S g) : Whole w' g t cs :=
  (ht.block g h.lt hS).trans h
theorem Whole.type_ne {w : World} {g q : Nat} {t : TypeId} {cs : Array Value} {B E c k : Nat} {v : Value} {xs : List Value} (h : Whole w g t cs) (ho : w.ownsRow B E c v k xs) (hne : t ≠ E) (hq : v.ownBlock = some q) : q ≠ g := by
  rintro rfl
  obtain ⟨_, h2⟩ := ho
  rcases h2 with ⟨rfl, _⟩ | ⟨g, cap, cur, rfl, hg, hh, r⟩
  · cases hq
  · obtain rfl : g = q := Option.some.inj hq
    unfold Whole at h
    rw [h] at hh
    injection hh with hh
    injection hh with _ h4 _
    exact hne h4

theorem TT.touch {w w' : World} {tb : Nat} {hs : List Nat} {l : List Rd} {S : Nat → Prop} (h : TT w tb hs l) (ht : Touch S w w') (h1 : ¬ S tb) (h2 : ∀ i, i < l.length → ¬ S (hs.getD i 0)) : TT w' tb hs l :=
  ⟨h.len, h.top.touch7 ht h1, fun i hi => (h.halts i hi).touch7 ht (h2 i hi), h.up, h.inc⟩
theorem TT.belowB {w w' : World} {tb : Nat} {hs : List Nat} {l : List Rd} {B : Nat} (h : TT w tb hs l) (hb : Below B w w') (h1 : tb < B) (h2 : ∀ i, i < l.length → hs.getD i 0 < B) : TT w' tb hs l :=
  ⟨h.len, h.top.below hb h1, fun i hi => (h.halts i hi).below hb (h2 i hi), h.up, h.inc⟩

/-- The net of the program, in blocks below B. -/
structure PNet (w : World) (B pb : Nat) (a : Option Addr) (cap cb : Nat) (tbs : Nat → Nat) (hss : Nat → List Nat) (net : List (List Rd)) (ch : Int) : Prop where
  hi : B ≤ w.heap.size
  pl : pb < B
  top : Whole w pb 115 #[.slice a net.length cap, .int .i64 ch]
  row : ∀ i, i < net.length → a = some ⟨cb, 0, none⟩ ∧ cb < B ∧ w.cell? ⟨cb, i, none⟩ = some (.pointer (some ⟨tbs i, 0, none⟩))
  tt : ∀ i, i < net.length → TT w (tbs i) (hss i) (coach net i) ∧ tbs i < B ∧ ∀ j, j < (coach net i).length → (hss i).getD j 0 < B
  cp : net.length ≤ cap

section
variable {w w' : World} {B pb : Nat} {a : Option Addr} {cap cb : Nat} {tbs : Nat → Nat} {hss : Nat → List Nat} {net : List (List Rd)} {ch : Int}
theorem PNet.below (h : PNet w B pb a cap cb tbs hss net ch) (hb : Below B w w') : PNet w' B pb a cap cb tbs hss net ch :=
  ⟨Nat.le_trans h.hi hb.size, h.pl, h.top.below hb h.pl, fun i hi => by obtain ⟨h1, h2, h3⟩ := h.row i hi; exact ⟨h1, h2, (hb.cell (p := ⟨cb, i, none⟩) h2).trans h3⟩,
    fun i hi => by obtain ⟨h1, h2, h3⟩ := h.tt i hi; exact ⟨h1.belowB hb h2 h3, h2, h3⟩, h.cp⟩
end

/-- What postNetOf gives. -/
def okP (n : Int) (net : List (List Rd)) (ch : Int) : Bool := okNet n net && okDl ch
def PnOf (n : Int) (net : List (List Rd)) (ch : Int) (w : World) (e : Ending) (w' : World) : Prop :=
  (okP n net ch = true → ∃ pb a cap cb tbs hss, e = .returned (.tuple #[.pointer (some ⟨pb, 0, none⟩), .bool true]) ∧ PNet w' w'.heap.size pb a cap cb tbs hss net ch ∧ Below w.heap.size w w') ∧
  (okP n net ch = false → e = .returned (.tuple #[.pointer none, .bool false]) ∧ Below w.heap.size w w')
theorem pnOf_no {n : Int} {net : List (List Rd)} {ch : Int} {w w' : World} {e : Ending} (h : okP n net ch = false) (he : e = .returned (.tuple #[.pointer none, .bool false])) (hb : Below w.heap.size w w') : PnOf n net ch w e w' :=
  ⟨fun h' => (by rw [h] at h'; cases h'), fun _ => ⟨he, hb⟩⟩

def ptrs (tbs : Nat → Nat) (k : Nat) : List Value := (List.range k).map fun i => .pointer (some ⟨tbs i, 0, none⟩)
theorem ptrs_len (tbs : Nat → Nat) (k : Nat) : (ptrs tbs k).length = k := by simp [ptrs]
theorem ptrs_succ (tbs : Nat → Nat) (k tb : Nat) : ptrs (fun i => if i = k then tb else tbs i) (k + 1) = ptrs tbs k ++ [.pointer (some ⟨tb, 0, none⟩)] := by
  unfold ptrs
  rw [List.range_succ, List.map_append]
  congr 1
  · refine List.map_congr_left fun i hi => ?_
    have := List.mem_range.1 hi
    dsimp only
    rw [if_neg (by omega)]
  · simp
theorem ptrInfo : (Try.prog.info? 116).map (fun i => (i.zero, i.size, i.bytes)) = some (some (.pointer none), 1, 8) := by kernel_rfl

/-- In the midst of postNetOf: the first k coaches are there. -/
def PnRel (n : Int) (net : List (List Rd)) (ch : Int) (w : World) (pb : Nat) (iv : Value) (wr : World) : Prop :=
  ∃ (k : Nat) (cv : Value) (tbs : Nat → Nat) (hss : Nat → List Nat), k ≤ net.length ∧ iv = .int .i64 k ∧ okTo7 n net k = true ∧ Below w.heap.size w wr ∧
    Whole wr pb 115 #[cv, .int .i64 ch] ∧ wr.ownsRow pb 116 1 cv k (ptrs tbs k) ∧ (∀ i, i < k → TT wr (tbs i) (hss i) (coach net i))

theorem owns_done {w : World} {B k E : Nat} {cv : Value} {xs : List Value} (h : w.ownsRow B E 1 cv k xs) : ∃ (a : Option Addr) (cap cb : Nat), cv = .slice a k cap ∧ k ≤ cap ∧ (0 < k → a = some ⟨cb, 0, none⟩ ∧ B ≤ cb ∧ cb < w.heap.size ∧ ∀ i u, xs[i]? = some u → w.cell? ⟨cb, i, none⟩ = some u) := by
  obtain ⟨hlen, h⟩ := h
  rcases h with ⟨rfl, h0⟩ | ⟨g, cap, cur, rfl, hB, hh, hcap, hmax, hs, htk⟩
  · subst h0
    exact ⟨none, 0, 0, rfl, Nat.le_refl _, fun h => by omega⟩
  · refine ⟨_, cap, g, rfl, hcap, fun _ => ⟨rfl, hB, (Array.getElem?_eq_some_iff.1 hh).1, fun i u hu => ?_⟩⟩
    rw [cell_of_row w g i cur E (0, 0) hh]
    rw [← htk, List.getElem?_take] at hu
    split at hu
    · simpa using hu
    · cases hu

theorem one_news (w : World) (t : TypeId) (x : Value) : ∀ j u, ([x])[j]? = some u → (w.alloc (.cells #[x] t)).cell? ((⟨w.heap.size, 0, none⟩ : Addr).add j) = some u :=
  news1 w #[x] t

theorem areDl1 (ch : Int) (w : World) : Calls Try.prog 91 #[.slice (some ⟨w.heap.size, 0, none⟩) 1 1] (w.alloc (.cells #[.int .i64 ch] 3)) fun e w' => e = .returned (.bool (okDl ch)) ∧ w' = w.alloc (.cells #[.int .i64 ch] 3) := by
  have h := areDl_any (.slice (some ⟨w.heap.size, 0, none⟩) 1 1) [ch] (w.alloc (.cells #[.int .i64 ch] 3)) ⟨_, 1, rfl, Nat.le_refl _, fun _ => ⟨w.heap.size, 0, rfl, by simp, fun i hi => by simp at hi; subst hi; simp⟩⟩ (by simp)
  rw [show allDl [ch] = okDl ch by simp [allDl]] at h
  exact h

set_option maxRecDepth 100000 in
set_option maxHeartbeats 2000000 in
theorem pnOf_any (n : Int) (v : Value) (net : List (List Rd)) (ch : Int) (w : World) (hv : NtIn w v net) (hm : totN net ≤ 1048577) :
    Calls Try.prog 60 #[.int .i64 n, v, .int .i64 ch] w (PnOf n net ch w) := by
  obtain ⟨a, cap, rfl, hcap, ha⟩ := hv
  clear hcap
  have hl1 : net.length ≤ 1048577 := by unfold totN at hm; omega
  have Hm := Lib.hid hm; clear hm
  have Ha := Lib.hid ha; clear ha
  obtain ⟨i0, hi0, hz0, hz1, hz2⟩ := info_parts ptrInfo
  have Hp := Lib.hid (show okP n net ch = (okNet n net && okDl ch) from rfl)
  by_cases hsz : 1 ≤ n ∧ n ≤ 8 ∧ net.length ≤ 6
  · obtain ⟨n1, n8, l6⟩ := hsz
    have h1 : decide (n < 1) = false := by simp only [decide_eq_false_iff_not]; omega
    have h2 : decide (8 < n) = false := by simp only [decide_eq_false_iff_not]; omega
    have h3 : decide (6 < (net.length : Int)) = false := by simp only [decide_eq_false_iff_not]; omega
    go_enter Try.func60, Try.ntmps60
    go_wp2_with fail
    refine (areDl1 ch w).mono ?_; rintro e w1 ⟨rfl, hw1⟩
    have HB1 := Lib.hid (show Below w.heap.size w w1 by rw [hw1]; exact (Below.refl _ _).alloc (Nat.le_refl _) _)
    clear hw1
    cases hq : okDl ch with
    | false =>
      have Hz := Lib.hid (show okP n net ch = false by rw [Hp.out, hq, Bool.and_false])
      clear hq Hp
      go_wp2
      go_ret2
      exact pnOf_no Hz.out rfl HB1.out
    | true =>
      rw [hq, Bool.and_true] at Hp
      clear hq
      have HB2 := Lib.hid (HB1.out.alloc HB1.out.size (.cells #[.slice none 0 0, .int .i64 ch] 115))
      have HW := Lib.hid (Whole.made w1 115 #[.slice none 0 0, .int .i64 ch])
      have hle := HB1.out.size
      have Hle := Lib.hid hle
      go_wp2
      clear h1 h2 h3 hle
      go_loopw [35] (fun iv wr => PnRel n net ch w w1.heap.size iv wr) (fun iv _ => net.length - (intOf iv).toNat)
      case atStart => exact ⟨0, .slice none 0 0, fun _ => 0, fun _ => [], Nat.zero_le _, rfl, rfl, HB2.out, HW.out, ⟨rfl, .inl ⟨rfl, rfl⟩⟩, fun i hi => by omega⟩
      case round =>
        obtain ⟨k, cv, tbs, hss, hk, rfl, hok, hbel, hW, hown, htts⟩ := hrel
        have Hok := Lib.hid hok; clear hok
        have Htts := Lib.hid htts; clear htts
        have HW9 := Lib.hid hW
        have Hown := Lib.hid hown
        by_cases hlt : k < net.length
        · obtain ⟨b, o, rfl, hb, hrw⟩ := Ha.out (by intro h; simp [h] at hlt)
          obtain ⟨u, c0, hu⟩ := hrw k hlt
          have d0 : wr.cell? ⟨b, o + k, none⟩ = some u := by rw [hbel.cell (p := ⟨b, o + k, none⟩) hb]; exact c0
          have hln : (coach net k).length ≤ 1048576 := by have := totTo_at net hlt; have := Hm.out; unfold totN at this; omega
          have Hc := Lib.hid (ttOf_any n u (coach net k) wr (hu.below hbel).roads hln)
          have HB := Lib.hid hbel
          have hsz := hbel.size
          clear hrw c0 hu hW hown hbel
          cases hz : validS n (coach net k) with
          | false =>
            have Hz := Lib.hid (show okP n net ch = false by rw [Hp.out]; exact okNet_no hlt hz)
            have Hzz := Lib.hid hz; clear hz
            go_wp2_with fail
            refine Hc.out.mono ?_; rintro e w2 ⟨_, h2⟩
            obtain ⟨rfl, hb2⟩ := h2 Hzz.out
            clear h2 Hc d0
            go_wp2
            go_ret2
            exact pnOf_no Hz.out rfl (HB.out.trans (hb2.mono hsz))
          | true =>
            have Hok2 := Lib.hid (show okTo7 n net (k + 1) = true by rw [okTo7_succ hlt, Hok.out, hz]; rfl)
            have Hzz := Lib.hid hz; clear hz
            go_wp2_with fail
            refine Hc.out.mono ?_; rintro e w2 ⟨h2, _⟩
            obtain ⟨tb, hs, rfl, htt, htb, hb2⟩ := h2 Hzz.out
            have hpl := HW9.out.lt
            have hW2 := HW9.out.below hb2 hpl
            have hown2 := own_keep Hown.out hb2
            have hB2 := HB.out.trans (hb2.mono hsz)
            have hpl2 := hW2.lt
            have Htts2 := Lib.hid (fun i hi => (Htts.out i hi).below hb2)
            have Htt := Lib.hid htt
            have c1 : w2.cell? ⟨w1.heap.size, 0, none⟩ = some cv := hW2.cell rfl
            have hsz2 := hB2.size
            have HB2' := Lib.hid hB2
            have Hown2 := Lib.hid hown2
            have HW2 := Lib.hid hW2
            have hk6 : k < 6 := by omega
            clear h2 Hc d0 htt htb hb2 hB2 hown2 hW2 Htts HW9 Hown HB hpl
            go_wp2_with (at_builtin; refine wpList_append_lies _ rfl _ _ 113 rfl w1.heap.size 116 i0 _ 1 8 Try.underlying113 hi0 hz0 hz1 hz2 rfl (by decide) _ k (ptrs tbs k) rfl (World.ownsRow.alloc Hown2.out _) ⟨w2.heap.size, 0, none⟩ 1 1 [.pointer (some ⟨tb, 0, none⟩)] rfl rfl (one_news w2 _ _) (by simp [Value.oneCell']) (by decide) (by simp only [maxLen]; omega) (by omega) (by simp; omega) _ rfl ?_; intro g2 cp2 w8 hown8 hgrow8 _ _; have hW8 := (HW2.out.below ((Below.refl w2.heap.size w2).alloc (Nat.le_refl _) (.cells #[.pointer (some ⟨tb, 0, none⟩)] 116)) HW2.out.lt).grown7 hgrow8 (fun e => HW2.out.type_ne Hown2.out (by decide) e rfl); have c8 := hW8.cell (i := 0) (v := cv) rfl; have f8 := hW8.free 0)
            have hneq : ∀ q, cv.ownBlock = some q → ∀ g t cs, t ≠ 116 → Whole w2 g t cs → q ≠ g := fun q hq g t cs ht hw => hw.type_ne Hown2.out ht hq
            have hT8 : Touch (fun q => cv.ownBlock = some q) w2 w8 := ⟨by rw [hgrow8.os]; rfl, by rw [hgrow8.tape]; rfl, by rw [hgrow8.output]; rfl, by have := hgrow8.size; simp at this; omega, fun j hj hS => (hgrow8.block j (by simp; omega) (fun e => hS e.symm)).trans (((Below.refl w2.heap.size w2).alloc (Nat.le_refl _) _).block j hj)⟩
            have hT9 : Touch (fun q => cv.ownBlock = some q ∨ q = w1.heap.size) w2 (w8.setCell ⟨w1.heap.size, 0, none⟩ (.slice (some ⟨g2, 0, none⟩) (k + 1) cp2)) := Touch.setCell ⟨hT8.os, hT8.tape, hT8.output, hT8.size, fun j hj hS => hT8.block j hj (fun h => hS (.inl h))⟩ (.inr rfl) _
            have hrow : ∀ q, cv.ownBlock = some q → w1.heap.size ≤ q := fun q hq => (Hown2.out.lt q hq).1
            refine ⟨⟨k + 1, .slice (some ⟨g2, 0, none⟩) (k + 1) cp2, fun i => if i = k then tb else tbs i, fun i => if i = k then hs else hss i, hlt, by go_num, Hok2.out, ?_, ?_, ?_, fun i hi => ?_⟩, by simp [intOf]; omega⟩
            · exact HB2'.out.trans (hT9.below (fun j hj => by have h9 := Hle.out; rcases hj with hj | hj; have := hrow j hj; omega; omega) hsz2)
            · exact hW8.set 0 _
            · rw [ptrs_succ]
              exact own_touch7 hown8 (Touch.setCell (Touch.refl (fun q => q = w1.heap.size) w8) rfl _) (fun q hq e => by rw [e] at hq; exact hW8.type_ne hown8 (by decide) hq rfl)
            · have hkeep : ∀ tb hs l, TT w2 tb hs l → TT (w8.setCell ⟨w1.heap.size, 0, none⟩ (.slice (some ⟨g2, 0, none⟩) (k + 1) cp2)) tb hs l := fun tb hs l h => h.touch hT9
                (fun hS => by
                  rcases hS with hS | hS
                  · exact hneq _ hS _ _ _ (by decide) h.top rfl
                  · have h1 := h.top; rw [hS] at h1; have h2 := HW2.out; unfold Whole at h1 h2; rw [h1] at h2; injection h2 with h2; injection h2 with _ h3 _; exact absurd h3 (by decide))
                (fun j hj hS => by
                  rcases hS with hS | hS
                  · exact hneq _ hS _ _ _ (by decide) (h.halts j hj) rfl
                  · have h1 := h.halts j hj; rw [hS] at h1; have h2 := HW2.out; unfold Whole at h1 h2; rw [h1] at h2; injection h2 with h2; injection h2 with _ h3 _; exact absurd h3 (by decide))
              dsimp only
              by_cases hik : i = k
              · subst hik
                rw [if_pos rfl, if_pos rfl]
                exact hkeep _ _ _ Htt.out
              · rw [if_neg hik, if_neg hik]
                exact hkeep _ _ _ (Htts2.out i (by omega))
        · obtain rfl : k = net.length := by omega
          have Hz := Lib.hid (show okP n net ch = true by rw [Hp.out]; exact okNet_yes ⟨n1, n8, l6⟩ Hok.out)
          have HB := Lib.hid hbel
          clear hW hown hbel
          go_wp2
          go_ret2
          refine ⟨fun _ => ?_, fun h => by rw [Hz.out] at h; cases h⟩
          obtain ⟨a2, cap2, cb, rfl, hc2, h2⟩ := owns_done Hown.out
          refine ⟨_, a2, cap2, cb, tbs, hss, rfl, ⟨Nat.le_refl _, HW9.out.lt, HW9.out, fun i hi => ?_, fun i hi => ⟨Htts.out i hi, (Htts.out i hi).top.lt, fun j hj => ((Htts.out i hi).halts j hj).lt⟩, hc2⟩, HB.out⟩
          obtain ⟨g1, _, g3, g4⟩ := h2 (by omega)
          exact ⟨g1, g3, g4 i _ (by unfold ptrs; simp [hi])⟩
  · have Hz := Lib.hid (show okP n net ch = false by rw [Hp.out, okNet_small hsz, Bool.false_and])
    have hB0 := Below.refl w.heap.size w
    by_cases h1 : n < 1
    · clear hsz
      go_enter Try.func60, Try.ntmps60
      go_wp2
      go_ret2
      exact pnOf_no Hz.out rfl (by first | exact hB0 | exact hB0.alloc (Nat.le_refl _) _)
    · by_cases h2 : 8 < n
      · clear hsz
        go_enter Try.func60, Try.ntmps60
        go_wp2
        go_ret2
        exact pnOf_no Hz.out rfl (by first | exact hB0 | exact hB0.alloc (Nat.le_refl _) _)
      · have h3 : (6 : Int) < (net.length : Int) := by omega
        clear hsz
        go_enter Try.func60, Try.ntmps60
        go_wp2
        go_ret2
        exact pnOf_no Hz.out rfl (by first | exact hB0 | exact hB0.alloc (Nat.le_refl _) _)

set_option maxHeartbeats 400000 in
theorem netValid2_any (n : Int) (v : Value) (net : List (List Rd)) (w : World) (hv : NtIn w v net) (hm : totN net ≤ 1048577) :
    Calls Try.prog 19 #[.int .i64 n, v] w (Gives (.bool (okNet n net)) w) := by
  have Hc := Lib.hid (pnOf_any n v net 0 w hv hm)
  have e : okP n net 0 = okNet n net := by unfold okP; rw [show okDl 0 = true from rfl, Bool.and_true]
  have E := Lib.hid e
  clear hv e
  cases hz : okNet n net with
  | true =>
    have Hz := Lib.hid hz; clear hz
    go_enter Try.func19, Try.ntmps19
    go_wp2_with fail
    refine (Hc.out).mono ?_; rintro e w1 ⟨h1, _⟩
    obtain ⟨pb, a, cap, cb, tbs, hss, rfl, _, hb⟩ := h1 (E.out.trans Hz.out)
    clear h1
    go_wp2
    go_ret
    exact ⟨rfl, hb⟩
  | false =>
    have Hz := Lib.hid hz; clear hz
    go_enter Try.func19, Try.ntmps19
    go_wp2_with fail
    refine (Hc.out).mono ?_; rintro e w1 ⟨_, h1⟩
    obtain ⟨rfl, hb⟩ := h1 (E.out.trans Hz.out)
    clear h1
    go_wp2
    go_ret
    exact ⟨rfl, hb⟩

end Go.Proofs.Ytmkcnoaphoiiaaa
