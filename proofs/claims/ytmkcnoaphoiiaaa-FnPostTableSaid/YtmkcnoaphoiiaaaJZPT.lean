/- Texts of this law in one: PTF M3 IO JS IKC ICL M4 M5 SI IOI OC HD HE. -/
import Derived.Test.YtmkcnoaphoiiaaaJR
import Derived.Test.YtmkcnoaphoiiaaaM1
import Derived.BigRegion
import Derived.Shelf.RegionOpen
import Derived.Test.YtmkcnoaphoiiaaaIZ
import Derived.Lib.AppendZeros
import Derived.WalkKit
import Derived.WalkSpells
import Derived.WalkLawsBesides
import Derived.IntWalk
import Derived.Outline
import Derived.Lib.SliceRun
import Derived.Test.YtmkcnoaphoiiaaaI
import Derived.Test.YtmkcnoaphoiiaaaRows
import Derived.Test.YtmkcnoaphoiiaaaM
import Derived.ProofKit
import Derived.OpenShut
import Derived.ShutString
import Derived.ChangeOld
import Derived.Below
import Derived.Deep.Slices
import Derived.Deep.Fields
import Derived.ChangeSame
import Derived.Deep.RegionHeld3
import Derived.Deep.RegionWith
set_option linter.unusedVariables false
set_option linter.unusedSimpArgs false
/- Nets, pure: what a table is. -/
namespace Go.Proofs.Ytmkcnoaphoiiaaa

section
variable {n : Int} {net : List (List Rd)} {ch f t t' : Int}

theorem Rn.earlier (ok : okNet n net = true) (hle : t ≤ t') {k : Nat} {u τ : Int} (h : Rn net ch f t' k u τ) : ∃ τ', Rn net ch f t k u τ' ∧ τ' ≤ τ := by
  induction h with
  | base => exact ⟨t, .base, hle⟩
  | ride h hh hs ih =>
    obtain ⟨τ', h1, h2⟩ := ih
    exact ⟨_, .ride h1 hh (by omega), Int.le_refl _⟩

/-- At a town of the table: in time, PostArrive's, and no later than a later letter. -/
theorem table_law (h : okT7 n net f t ch = true) {i : Int} (h0 : 0 ≤ i) (hn : i < n) :
    (0 ≤ fT (tabA n net ch f t) i → t ≤ fT (tabA n net ch f t) i) ∧ paX n net f i t ch = fT (tabA n net ch f t) i ∧ -1 ≤ fT (tabA n net ch f t) i ∧ fT (tabA n net ch f t) i ≤ 10000 := by
  obtain ⟨o1, ⟨o2, o3⟩, o4, o6⟩ := okT7_iff.1 h
  have hT := tabA_isTab o1 o2 o4 o6 (net := net) (ch := ch)
  refine ⟨fun hx => ?_, ?_, tabA_bd h h0 hn⟩
  · rcases hT.2 i h0 hn with e | ⟨k, e⟩
    · omega
    · exact e.ge o1 o2
  · unfold paX
    rw [if_pos ⟨h, isTown_iff.2 ⟨h0, hn⟩⟩]

theorem table_later (h : okT7 n net f t ch = true) (h' : okT7 n net f t' ch = true) (hle : t ≤ t') {i : Int} (h0 : 0 ≤ i) (hn : i < n) (hy : 0 ≤ fT (tabA n net ch f t') i) :
    0 ≤ fT (tabA n net ch f t) i ∧ fT (tabA n net ch f t) i ≤ fT (tabA n net ch f t') i := by
  obtain ⟨o1, ⟨o2, o3⟩, o4, o6⟩ := okT7_iff.1 h
  obtain ⟨_, _, _, o7⟩ := okT7_iff.1 h'
  have hT := tabA_isTab o1 o2 o4 o6 (net := net) (ch := ch)
  have hT' := tabA_isTab o1 o2 o4 o7 (net := net) (ch := ch)
  rcases hT'.2 i h0 hn with e | ⟨k, e⟩
  · omega
  · obtain ⟨τ', h1, h2⟩ := e.earlier o1 hle
    have := hT.1 _ _ ⟨k, h1⟩
    omega

theorem table_self (h : okT7 n net f t ch = true) : fT (tabA n net ch f t) f = t := by
  obtain ⟨o1, ⟨o2, o3⟩, o4, o6⟩ := okT7_iff.1 h
  exact (tabA_isTab o1 o2 o4 o6).from_ o1 o2 o4

end

end Go.Proofs.Ytmkcnoaphoiiaaa
/- The model's l7Ok, l7Ready. -/
namespace Go.Proofs.Ytmkcnoaphoiiaaa
open Go.RowKit

set_option maxRecDepth 100000 in
set_option maxHeartbeats 1000000 in
theorem l7Ok_any (n : Int) (v : Value) (net : List (List Rd)) (f t0 ch : Int) (w : World) (hv : NtIn w v net) (hm : totN net ≤ 1048577) (wn : W64 n) :
    Calls Try.prog 64 #[.int .i64 n, v, .int .i64 f, .int .i64 t0, .int .i64 ch] w (Gives (.bool (okT7 n net f t0 ch)) w) := by
  have HC := Lib.hid (netValid1_any n v net w hv hm)
  have Hk := Lib.hid (show okT7 n net f t0 ch = (okNet n net && okDl ch && isTown n f && isT t0) from rfl)
  clear hv hm
  cases hp : okNet n net with
  | false =>
    rw [hp] at HC
    have Ho := Lib.hid (show okT7 n net f t0 ch = false by rw [Hk.out, hp]; rfl)
    clear hp Hk
    go_enter Try.func64, Try.ntmps64
    go_wp2_with fail
    refine HC.out.mono ?_; rintro e w1 ⟨rfl, hb⟩
    go_wp2
    go_ret
    exact ⟨ret_bool (by rw [Ho.out]), hb⟩
  | true =>
    rw [hp] at HC Hk
    have hn := (okNet_iff.1 hp).1
    have n1 := hn.1
    have n8 := hn.2.1
    clear hp hn
    have hI := fun (x lo hi : Int) (w : World) => l6In_any x lo hi w
    by_cases hf : 0 ≤ f ∧ f ≤ n - 1
    · have hf1 : inB f 0 (n - 1) = true := (inB_iff _ _ _).2 hf
      have hf2 : isTown n f = true := isTown_iff.2 ⟨hf.1, by omega⟩
      rw [hf2] at Hk
      by_cases ht : 0 ≤ t0 ∧ t0 ≤ 10000
      · have ht1 : inB t0 0 10000 = true := (inB_iff _ _ _).2 ht
        rw [(isT_iff t0).2 ht] at Hk
        by_cases hc : 0 ≤ ch ∧ ch ≤ 300
        · have hc1 : inB ch 0 300 = true := (inB_iff _ _ _).2 hc
          rw [okDl_iff.2 hc] at Hk
          clear hf ht hc hf2 hI
          go_enter Try.func64, Try.ntmps64
          go_wp2_with fail
          refine HC.out.mono ?_; rintro e w1 ⟨rfl, hb⟩
          go_wp2_with (go_at_call 59; refine (l6In_any _ _ _ _).mono ?_; rintro e w' ⟨rfl, rfl⟩)
          go_ret
          exact ⟨ret_bool (by rw [Hk.out]; simp [hc1]), hb⟩
        · have hc1 : inB ch 0 300 = false := Bool.eq_false_iff.2 (fun h => hc ((inB_iff _ _ _).1 h))
          rw [show okDl ch = false from Bool.eq_false_iff.2 (fun h => hc (okDl_iff.1 h))] at Hk
          clear hf ht hc hf2 hI
          go_enter Try.func64, Try.ntmps64
          go_wp2_with fail
          refine HC.out.mono ?_; rintro e w1 ⟨rfl, hb⟩
          go_wp2_with (go_at_call 59; refine (l6In_any _ _ _ _).mono ?_; rintro e w' ⟨rfl, rfl⟩)
          go_ret
          exact ⟨ret_bool (by rw [Hk.out]; simp [hc1]), hb⟩
      · have ht1 : inB t0 0 10000 = false := Bool.eq_false_iff.2 (fun h => ht ((inB_iff _ _ _).1 h))
        rw [show isT t0 = false from Bool.eq_false_iff.2 (fun h => ht ((isT_iff t0).1 h))] at Hk
        clear hf ht hf2 hI
        go_enter Try.func64, Try.ntmps64
        go_wp2_with fail
        refine HC.out.mono ?_; rintro e w1 ⟨rfl, hb⟩
        go_wp2_with (go_at_call 59; refine (l6In_any _ _ _ _).mono ?_; rintro e w' ⟨rfl, rfl⟩)
        go_ret
        exact ⟨ret_bool (by rw [Hk.out]; simp), hb⟩
    · have hf1 : inB f 0 (n - 1) = false := Bool.eq_false_iff.2 (fun h => hf ((inB_iff _ _ _).1 h))
      rw [show isTown n f = false from Bool.eq_false_iff.2 (fun h => hf (by have := isTown_iff.1 h; omega))] at Hk
      clear hf hI
      go_enter Try.func64, Try.ntmps64
      go_wp2_with fail
      refine HC.out.mono ?_; rintro e w1 ⟨rfl, hb⟩
      go_wp2_with (go_at_call 59; refine (l6In_any _ _ _ _).mono ?_; rintro e w' ⟨rfl, rfl⟩)
      go_ret
      exact ⟨ret_bool (by rw [Hk.out]; simp), hb⟩

/-- A table of times in memory. -/
def TbOk (N : Nat) (T : List Int) : Prop := T.length = N ∧ ∀ i, i < N → -1 ≤ fT T (i : Int) ∧ fT T (i : Int) ≤ 10000
theorem fT_get {T : List Int} {i : Nat} (h : i < T.length) : fT T (i : Int) = T.getD i 0 := by
  rw [fT_at]; simp [List.getD, h]
structure TabAt (w : World) (g N : Nat) (T : List Int) : Prop where
  ok : TbOk N T
  lt : g < w.heap.size
  at_ : IntAt w g 0 T
  room : Room w g N

section
variable {w w' : World} {g N : Nat} {T : List Int}
theorem TabAt.cell (h : TabAt w g N T) {i : Nat} (hi : i < N) : w.cell? ⟨g, i, none⟩ = some (.int .i64 (fT T (i : Int))) := by
  have := h.at_ i (by rw [h.ok.1]; exact hi)
  rw [Nat.zero_add] at this
  rw [this, fT_get (by rw [h.ok.1]; exact hi)]
theorem TabAt.below (h : TabAt w g N T) (hb : Below w.heap.size w w') : TabAt w' g N T :=
  ⟨h.ok, Nat.lt_of_lt_of_le h.lt hb.size, h.at_.below hb h.lt, h.room.below hb h.lt⟩
theorem TabAt.set (h : TabAt w g N T) {i : Nat} (hi : i < N) {x : Int} (h0 : -1 ≤ x) (h1 : x ≤ 10000) : TabAt (w.setCell ⟨g, i, none⟩ (.int .i64 x)) g N (T.set i x) := by
  have hl := h.ok.1
  refine ⟨⟨by simpa using hl, fun j hj => ?_⟩, by simpa using h.lt, fun j hj => ?_, h.room.setCell _ _⟩
  · have e := fT_set (T := T) (a := (i : Int)) (x := x) (u := (j : Int)) (by omega) (by omega) (by omega)
    rw [show ((i : Int)).toNat = i from rfl] at e
    rw [e]
    split
    · exact ⟨h0, h1⟩
    · exact h.ok.2 j hj
  · simp only [List.length_set] at hj
    rw [Nat.zero_add]
    by_cases hij : i = j
    · subst hij
      obtain ⟨u, hu⟩ := h.room.1 i hi
      rw [World.cell?_setCell_same _ _ _ hu]
      simp [List.getD, hj]
    · rw [World.cell?_setCell_other _ _ _ _ (by intro e; injection e; omega)]
      have := h.at_ j hj
      rw [Nat.zero_add] at this
      rw [this]
      simp [List.getD, List.getElem?_set, hij]
end

set_option maxRecDepth 100000 in
set_option maxHeartbeats 1000000 in
theorem l7Ready_any (g N cap : Nat) (T : List Int) (f a b m ch : Int) (w : World) (h : TabAt w g N T) (ha : 0 ≤ a ∧ a < N) (hc0 : 0 ≤ ch) (hc1 : ch ≤ 300) :
    Calls Try.prog 96 #[.slice (some ⟨g, 0, none⟩) N cap, .int .i64 f, .agg #[.int .i64 a, .int .i64 b, .int .i64 m], .int .i64 ch] w (Gives (.bool (rdyX T ch f ⟨a, b, m⟩)) w) := by
  obtain ⟨i, rfl⟩ : ∃ i : Nat, a = (i : Int) := ⟨a.toNat, by omega⟩
  have hi : i < N := by omega
  have hi' : (i : Int) < (N : Int) := by omega
  have hb : Below w.heap.size w (w.alloc (.cells #[.int .i64 (i : Int), .int .i64 b, .int .i64 m] 77)) := (Below.refl _ _).alloc (Nat.le_refl _) _
  have hl := Whole.made w 77 #[.int .i64 (i : Int), .int .i64 b, .int .i64 m]
  have c0 := (h.below hb).cell hi
  have e0 : (w.alloc (.cells #[.int .i64 (i : Int), .int .i64 b, .int .i64 m] 77)).cell? ⟨w.heap.size, 0, none⟩ = some (.int .i64 (i : Int)) := hl.cell rfl
  have e2 : (w.alloc (.cells #[.int .i64 (i : Int), .int .i64 b, .int .i64 m] 77)).cell? ⟨w.heap.size, 2, none⟩ = some (.int .i64 m) := hl.cell rfl
  obtain ⟨x0, x1⟩ := h.ok.2 i hi
  have HB := Lib.hid hb
  have HR := Lib.hid (show rdyX T ch f ⟨(i : Int), b, m⟩ = (decide (0 ≤ fT T (i : Int)) && decide (fT T (i : Int) + dl ch f (i : Int) ≤ m)) from rfl)
  clear h hb hl ha
  generalize fT T (i : Int) = x at *
  by_cases hx : x < 0
  · have Hr := Lib.hid (show rdyX T ch f ⟨(i : Int), b, m⟩ = false by rw [HR.out, decide_eq_false (by omega)]; rfl)
    clear HR
    go_enter Try.func96, Try.ntmps96
    go_wp2
    go_ret
    exact ⟨ret_bool (by rw [Hr.out]), HB.out⟩
  · rw [decide_eq_true (show 0 ≤ x by omega), Bool.true_and] at HR
    by_cases hf : (i : Int) = f
    · rw [show dl ch f (i : Int) = 0 from if_pos hf, Int.add_zero] at HR
      have hq : ((i : Int) == f) = true := by simpa using hf
      have Hf := Lib.hid hf
      clear hf
      by_cases hm : x ≤ m
      · have hd : decide (x ≤ m) = true := decide_eq_true hm
        go_enter Try.func96, Try.ntmps96
        go_wp2
        go_quiet (fail)
        all_goals go_wp2
        all_goals go_ret
        all_goals exact ⟨ret_bool (by rw [HR.out, hd]), by first | exact HB.out | exact HB.out.drewN _ | exact HB.out.drew⟩
      · have hd : decide (x ≤ m) = false := decide_eq_false hm
        go_enter Try.func96, Try.ntmps96
        go_wp2
        go_quiet (fail)
        all_goals go_wp2
        all_goals go_ret
        all_goals exact ⟨ret_bool (by rw [HR.out, hd]), by first | exact HB.out | exact HB.out.drewN _ | exact HB.out.drew⟩
    · rw [show dl ch f (i : Int) = ch from if_neg hf] at HR
      have hq : ((i : Int) == f) = false := by simpa using hf
      have hw : wrap64 (x + ch) = x + ch := by unfold wrap64; omega
      have hw2 : IntKind.i64.wrap (x + ch) = x + ch := IntWalk.i64_in _ (by omega)
      clear hf
      by_cases hm : x + ch ≤ m
      · have hd : decide (x + ch ≤ m) = true := decide_eq_true hm
        go_enter Try.func96, Try.ntmps96
        go_wp2
        go_quiet (fail)
        all_goals go_wp2
        all_goals go_ret
        all_goals exact ⟨ret_bool (by rw [HR.out, hd]), by first | exact HB.out | exact HB.out.drewN _ | exact HB.out.drew⟩
      · have hd : decide (x + ch ≤ m) = false := decide_eq_false hm
        go_enter Try.func96, Try.ntmps96
        go_wp2
        go_quiet (fail)
        all_goals go_wp2
        all_goals go_ret
        all_goals exact ⟨ret_bool (by rw [HR.out, hd]), by first | exact HB.out | exact HB.out.drewN _ | exact HB.out.drew⟩

end Go.Proofs.Ytmkcnoaphoiiaaa
/- Rows of numbers that a function gives. -/
namespace Go.Proofs.Ytmkcnoaphoiiaaa
open Go.RowKit

theorem IntsOk.no {w w' : World} {g : Nat} (hg : w.heap.size ≤ g) (hl : g < w'.heap.size) (hb : Below w.heap.size w w') : IntsOk [] false w (.returned (.tuple #[.slice (some ⟨g, 0, none⟩) 0 0, .bool false])) w' :=
  ⟨some ⟨g, 0, none⟩, 0, rfl, Nat.le_refl _, fun h => absurd rfl h, fun j hj => by obtain ⟨o, ho⟩ := hj; cases ho; exact ⟨hg, hl⟩, hb⟩
theorem IntsOk.row {w wr : World} {B : Nat} {u : Value} {xs : List Int} (ok : Bool) (h : RowI wr B u xs) (hB : w.heap.size ≤ B) (hb : Below w.heap.size w wr) : IntsOk xs ok w (.returned (.tuple #[u, .bool ok])) wr := by
  obtain ⟨ad, cap, rfl, hc, ho, hin⟩ := h.row
  exact ⟨ad, cap, rfl, hc, ho, fun j hj => ⟨by have := (hin j hj).1; omega, (hin j hj).2⟩, hb⟩
/-- A row of numbers of the call's own, alone. -/
def IntsOne (xs : List Int) (w : World) (e : Ending) (w' : World) : Prop :=
  ∃ (ad : Option Addr) (cap : Nat), e = .returned (.slice ad xs.length cap) ∧ xs.length ≤ cap ∧ OwnI w' ad xs ∧ (∀ j, inBlk ad j → w.heap.size ≤ j ∧ j < w'.heap.size) ∧ Below w.heap.size w w'
theorem IntsOne.row {w wr : World} {B : Nat} {u : Value} {xs : List Int} (h : RowI wr B u xs) (hB : w.heap.size ≤ B) (hb : Below w.heap.size w wr) : IntsOne xs w (.returned u) wr := by
  obtain ⟨ad, cap, rfl, hc, ho, hin⟩ := h.row
  exact ⟨ad, cap, rfl, hc, ho, fun j hj => ⟨by have := (hin j hj).1; omega, (hin j hj).2⟩, hb⟩

end Go.Proofs.Ytmkcnoaphoiiaaa
/- The program's PostTable, PostArrive, PostReach. -/
namespace Go.Proofs.Ytmkcnoaphoiiaaa
open Go.RowKit

theorem one_int (w : World) (x : Int) : ∀ j u, ([Value.int .i64 x])[j]? = some u → (w.alloc (.cells #[.int .i64 x] 3)).cell? ((⟨w.heap.size, 0, none⟩ : Addr).add j) = some u := news1 w #[.int .i64 x] 3
theorem take_int {T : List Int} {k : Nat} (h : k < T.length) : T.take (k + 1) = T.take k ++ [fT T (k : Int)] := by
  rw [List.take_succ_eq_append_getElem h, fT_at]; simp [List.getD, h]

def PtRel (T : List Int) (w1 : World) (v iv : Value) (wr : World) : Prop := ∃ (k : Nat) (sv : Value), k ≤ T.length ∧ iv = .int .i64 k ∧ sv = v ∧ RowI wr w1.heap.size sv (T.take k) ∧ Below w1.heap.size w1 wr

set_option maxRecDepth 100000 in
set_option maxHeartbeats 2000000 in
theorem postTable2_any (n : Int) (v : Value) (net : List (List Rd)) (f t0 ch : Int) (w : World) (hv : NtIn w v net) (hm : totN net ≤ 1048577) :
    Calls Try.prog 29 #[.int .i64 n, v, .int .i64 f, .int .i64 t0, .int .i64 ch] w (IntsOk (ptX n net f t0 ch) (okT7 n net f t0 ch) w) := by
  have HC := Lib.hid (ptOf_any n v net f t0 ch w hv hm)
  obtain ⟨i0, hi, hz0, hz1, hz2⟩ := info_parts Try.info3
  clear hv hm
  cases ho : okT7 n net f t0 ch with
  | false =>
    have Ho := Lib.hid ho; clear ho
    go_enter Try.func29, Try.ntmps29
    go_wp2_with fail
    refine HC.out.mono ?_; rintro e w1 ⟨_, h1⟩
    obtain ⟨rfl, hb⟩ := h1 Ho.out
    have HB := Lib.hid hb
    clear h1 HC hb
    go_wp2
    go_ret2
    rw [ptX_no Ho.out]
    exact IntsOk.no HB.out.size (by simp) (HB.out.alloc HB.out.size _)
  | true =>
    have Ho := Lib.hid ho
    have Hat := Lib.hid (fun (u : Int) => pt_at ho (u := u))
    have Hx := Lib.hid (ptX_yes ho)
    obtain ⟨o1, ⟨o2, o3⟩, ⟨o4, o5⟩, o6, o7⟩ := okT7_iff.1 ho
    have n8 := (okNet_iff.1 o1).1.2.1
    obtain ⟨N, rfl⟩ : ∃ N : Nat, n = (N : Int) := ⟨n.toNat, by omega⟩
    have hlen : (tabA (N : Int) net ch f t0).length = N := by have := tabA_len (ch := ch) o1 ⟨o4, o5⟩ ⟨o6, o7⟩; omega
    have hN : N ≤ 8 := by omega
    clear ho o1 o2 o3 o4 o5 o6 o7 n8
    generalize tabA (N : Int) net ch f t0 = T at *
    have Hlen := Lib.hid hlen
    clear hlen
    go_enter Try.func29, Try.ntmps29
    go_wp2_with fail
    refine HC.out.mono ?_; rintro e w1 ⟨h1, _⟩
    obtain ⟨tb, eb, pb, _, _, _, _, _, _, rfl, hT, _, hb⟩ := h1 Ho.out
    rw [show (N : Int).toNat = N from rfl] at hT
    have HT := Lib.hid hT
    have HB := Lib.hid hb
    have HR := Lib.hid (RowI.made w1 w1.heap.size (Nat.le_refl _))
    have HB1 := Lib.hid ((Below.refl w1.heap.size w1).alloc (Nat.le_refl _) (.cells #[] 3))
    clear h1 HC hT hb
    go_wp2
    go_loopw [14, 30] (fun v iv wr => PtRel T w1 v iv wr) (fun _ iv _ => N - (intOf iv).toNat)
    case atStart => exact ⟨0, _, Nat.zero_le _, rfl, rfl, HR.out, HB1.out⟩
    case round =>
      obtain ⟨k, sv, hk, rfl, rfl, hrow, hbel⟩ := hrel
      rw [Hlen.out] at hk
      have HRr := Lib.hid hrow
      have HBr := Lib.hid hbel
      have hsz := hbel.size
      by_cases hlt : k < N
      · have hPT := HT.out.below hbel
        have Htk := Lib.hid (take_int (T := T) (k := k) (by rw [Hlen.out]; exact hlt))
        have Hv := Lib.hid (show tmO (tab1 net ch f t0 0 (k : Int)) = fT T (k : Int) from Hat.out (k : Int) (by omega) (by omega))
        have hlt' : (k : Int) < (N : Int) := by omega
        have hrow' : wr.ownsRow w1.heap.size 3 1 sv k ((T.take k).map (Value.int .i64)) := by
          have e : (T.take k).length = k := by rw [List.length_take, Hlen.out]; omega
          unfold RowI at hrow; rwa [e] at hrow
        have Hl := Lib.hid (show (T.take k).length = k by rw [List.length_take, Hlen.out]; omega)
        clear hrow hbel
        go_wp2_with fail
        refine (time_any tb eb pb N _ (k : Int) _ hPT (And.intro (Int.natCast_nonneg k) hlt')).mono ?_; rintro e w' ⟨rfl, rfl⟩
        rw [Hv.out]
        clear hPT
        obtain ⟨en, hen⟩ : ∃ en, en = (T.take k).map (Value.int .i64) := ⟨_, rfl⟩
        rw [← hen] at hrow'
        obtain ⟨x, hx⟩ : ∃ x, x = fT T (k : Int) := ⟨_, rfl⟩
        rw [← hx]
        have Hex := Lib.hid (And.intro hen hx)
        clear hen hx
        go_wp2_with (at_builtin; refine wpList_append_own _ rfl _ _ 38 rfl w1.heap.size 3 i0 _ 1 8 Try.underlying38 hi hz0 hz1 hz2 rfl (by decide) _ k en rfl (World.ownsRow.alloc hrow' _) ⟨w'.heap.size, 0, none⟩ 1 1 [.int .i64 x] rfl rfl (one_int w' x) (by simp [Value.oneCell']) (by simp only [maxLen]; omega) (by omega) (by simp; omega) ?_; intro v' w8 hown8 hgrow8 _; have HO8 := Lib.hid hown8; have HB8 := Lib.hid ((HBr.out.alloc HBr.out.size _).grown hgrow8 (by simp; omega) (fun j hj => (hrow'.lt j hj).1)); clear hown8 hgrow8 hrow')
        refine ⟨⟨k + 1, v', by rw [Hlen.out]; exact hlt, by go_num, rfl, ?_, HB8.out⟩, by simp [intOf]; omega⟩
        rw [Htk.out, ← Hex.out.2]
        refine RowI.snoc ?_
        rw [← Hex.out.1, Hl.out]
        exact HO8.out
      · obtain rfl : k = N := by omega
        clear hrow hbel
        go_wp2
        go_ret2
        rw [Hx.out]
        have hr := HRr.out
        rw [← Hlen.out, List.take_length] at hr
        exact IntsOk.row true hr HB.out.size (HB.out.trans (HBr.out.mono HB.out.size))

set_option maxRecDepth 100000 in
set_option maxHeartbeats 2000000 in
theorem postArrive2_any (n : Int) (v : Value) (net : List (List Rd)) (f to t0 ch : Int) (w : World) (hv : NtIn w v net) (hm : totN net ≤ 1048577) :
    Calls Try.prog 35 #[.int .i64 n, v, .int .i64 f, .int .i64 to, .int .i64 t0, .int .i64 ch] w (Gives (.int .i64 (paX n net f to t0 ch)) w) := by
  have HC := Lib.hid (ptOf_any n v net f t0 ch w hv hm)
  clear hv hm
  cases ho : okT7 n net f t0 ch with
  | false =>
    have Ho := Lib.hid ho
    have Hp := Lib.hid (show paX n net f to t0 ch = -1 by unfold paX; rw [if_neg (by rw [ho]; simp)])
    clear ho
    go_enter Try.func35, Try.ntmps35
    go_wp2_with fail
    refine HC.out.mono ?_; rintro e w1 ⟨_, h1⟩
    obtain ⟨rfl, hb⟩ := h1 Ho.out
    have HB := Lib.hid hb
    clear h1 HC hb
    go_wp2
    go_ret
    exact ⟨ret_int Hp.out.symm, HB.out⟩
  | true =>
    have Ho := Lib.hid ho
    have Hat := Lib.hid (fun (u : Int) => pt_at ho (u := u))
    obtain ⟨o1, _⟩ := okT7_iff.1 ho
    have n1 := (okNet_iff.1 o1).1.1
    obtain ⟨N, rfl⟩ : ∃ N : Nat, n = (N : Int) := ⟨n.toNat, by omega⟩
    have Hp := Lib.hid (show paX (N : Int) net f to t0 ch = if isTown (N : Int) to = true then fT (tabA (N : Int) net ch f t0) to else -1 by unfold paX; rw [ho]; simp)
    clear ho o1 n1
    generalize tabA (N : Int) net ch f t0 = T at *
    go_enter Try.func35, Try.ntmps35
    go_wp2_with fail
    refine HC.out.mono ?_; rintro e w1 ⟨h1, _⟩
    obtain ⟨tb, eb, pb, _, _, _, _, _, _, rfl, hT, _, hb⟩ := h1 Ho.out
    rw [show (N : Int).toNat = N from rfl] at hT
    have HT := Lib.hid hT
    have HB := Lib.hid hb
    clear h1 HC hT hb
    go_wp2_with fail
    refine (hasTown_any _ to _).mono ?_; rintro e w' ⟨rfl, rfl⟩
    cases hq : isTown (N : Int) to with
    | false =>
      rw [hq] at Hp
      clear hq
      go_wp2
      go_ret
      exact ⟨ret_int Hp.out.symm, HB.out⟩
    | true =>
      rw [hq, if_pos rfl] at Hp
      have hq2 := isTown_iff.1 hq
      have Hv := Lib.hid (show tmO (tab1 net ch f t0 0 to) = fT T to from Hat.out to hq2.1 hq2.2)
      clear hq
      go_wp2_with fail
      refine (time_any tb eb pb N _ to _ HT.out hq2).mono ?_; rintro e w2 ⟨rfl, rfl⟩
      rw [Hv.out]
      clear hq2
      go_wp2
      go_ret
      exact ⟨ret_int Hp.out.symm, HB.out⟩

def RcRel (T : List Int) (u : Int) (N : Nat) (w1 : World) (v iv : Value) (wr : World) : Prop := ∃ (k : Nat) (sv : Value), k ≤ N ∧ iv = .int .i64 k ∧ sv = v ∧ RowI wr w1.heap.size sv (rchTo T u k) ∧ Below w1.heap.size w1 wr

theorem tmO_some {o : Option Ltr} : (o.isSome = true → ∃ y, o = some y ∧ tmO o = y.t) ∧ (o.isSome = false → tmO o = -1) := by
  cases o with
  | none => exact ⟨fun h => by simp at h, fun _ => rfl⟩
  | some y => exact ⟨fun _ => ⟨y, rfl, rfl⟩, fun h => by simp at h⟩

set_option maxRecDepth 100000 in
set_option maxHeartbeats 2000000 in
theorem postReach2_any (n : Int) (v : Value) (net : List (List Rd)) (f t0 ch u : Int) (w : World) (hv : NtIn w v net) (hm : totN net ≤ 1048577) :
    Calls Try.prog 37 #[.int .i64 n, v, .int .i64 f, .int .i64 t0, .int .i64 ch, .int .i64 u] w (IntsOne (rchX n net f t0 ch u) w) := by
  have HC := Lib.hid (ptOf_any n v net f t0 ch w hv hm)
  obtain ⟨i0, hi, hz0, hz1, hz2⟩ := info_parts Try.info3
  clear hv hm
  cases ho : okT7 n net f t0 ch with
  | false =>
    have Ho := Lib.hid ho
    have Hp := Lib.hid (show rchX n net f t0 ch u = [] by unfold rchX; rw [ho]; rfl)
    clear ho
    go_enter Try.func37, Try.ntmps37
    go_wp2_with fail
    refine HC.out.mono ?_; rintro e w1 ⟨_, h1⟩
    obtain ⟨rfl, hb⟩ := h1 Ho.out
    have HB := Lib.hid hb
    clear h1 HC hb
    go_wp2
    go_ret
    rw [Hp.out]
    exact IntsOne.row (RowI.made w1 w.heap.size HB.out.size) (Nat.le_refl _) (HB.out.alloc HB.out.size _)
  | true =>
    have Ho := Lib.hid ho
    have Hat := Lib.hid (fun (u : Int) => pt_at ho (u := u))
    obtain ⟨o1, ⟨o2, o3⟩, ⟨o4, o5⟩, o6, o7⟩ := okT7_iff.1 ho
    have n8 := (okNet_iff.1 o1).1.2.1
    obtain ⟨N, rfl⟩ : ∃ N : Nat, n = (N : Int) := ⟨n.toNat, by omega⟩
    have Hp := Lib.hid (show rchX (N : Int) net f t0 ch u = rchTo (tabA (N : Int) net ch f t0) u N by unfold rchX; rw [ho]; rfl)
    have hN : N ≤ 8 := by omega
    have Hge := Lib.hid (fun (k : Nat) (hk : k < N) (y : Ltr) (e : tab1 net ch f t0 0 (k : Int) = some y) => (show 0 ≤ y.t by
      obtain ⟨⟨_, _, h2⟩, _⟩ := tab1_lok o1 o2 e
      have := h2.ge o1 o2; omega))
    clear ho o1 o2 o3 o4 o5 o6 o7 n8
    generalize tabA (N : Int) net ch f t0 = T at *
    go_enter Try.func37, Try.ntmps37
    go_wp2_with fail
    refine HC.out.mono ?_; rintro e w1 ⟨h1, _⟩
    obtain ⟨tb, eb, pb, _, _, _, _, _, _, rfl, hT, _, hb⟩ := h1 Ho.out
    rw [show (N : Int).toNat = N from rfl] at hT
    have HT := Lib.hid hT
    have HB := Lib.hid hb
    have HR := Lib.hid (RowI.made w1 w1.heap.size (Nat.le_refl _))
    have HB1 := Lib.hid ((Below.refl w1.heap.size w1).alloc (Nat.le_refl _) (.cells #[] 3))
    clear h1 HC hT hb
    go_wp2
    go_loopw [15, 31] (fun v iv wr => RcRel T u N w1 v iv wr) (fun _ iv _ => N - (intOf iv).toNat)
    case atStart => exact ⟨0, _, Nat.zero_le _, rfl, rfl, HR.out, HB1.out⟩
    case round =>
      obtain ⟨k, sv, hk, rfl, rfl, hrow, hbel⟩ := hrel
      have HRr := Lib.hid hrow
      have HBr := Lib.hid hbel
      have hsz := hbel.size
      by_cases hlt : k < N
      · have HPT := Lib.hid (HT.out.below hbel)
        have Htk := Lib.hid (rchTo_succ T u k)
        have hv9 : tmO (tab1 net ch f t0 0 (k : Int)) = fT T (k : Int) := Hat.out (k : Int) (by omega) (by omega)
        have hlt' : (k : Int) < (N : Int) := by omega
        have Hl := Lib.hid (rchTo_len T u k)
        have Hin := Lib.hid (And.intro (Int.natCast_nonneg k) hlt')
        have hge := Hge.out k hlt
        clear hrow hbel
        go_wp2_with fail
        refine (has_any tb eb pb N _ (k : Int) _ HPT.out Hin.out).mono ?_; rintro e w' ⟨rfl, rfl⟩
        cases hs : (tab1 net ch f t0 0 (k : Int)).isSome with
        | false =>
          have Hno := Lib.hid (show rchB T u k = false by
            unfold rchB; rw [← hv9, tmO_some.2 hs]; rfl)
          rw [Hno.out, if_neg (by simp), List.append_nil] at Htk
          clear hs hv9 hge
          go_wp2
          exact ⟨⟨k + 1, sv, hlt, by go_num, rfl, by rw [Htk.out]; exact HRr.out, HBr.out⟩, by simp [intOf]; omega⟩
        | true =>
          have hpos : 0 ≤ fT T (k : Int) := by
            obtain ⟨y, e1, e2⟩ := tmO_some.1 hs
            rw [← hv9, e2]; exact hge y e1
          clear hs hge
          go_wp2_with fail
          refine (time_any tb eb pb N _ (k : Int) _ HPT.out Hin.out).mono ?_; rintro e w2 ⟨rfl, rfl⟩
          rw [hv9]
          by_cases hu : fT T (k : Int) ≤ u
          · have Hyes := Lib.hid (show rchB T u k = true by unfold rchB; simp [hpos, hu])
            rw [Hyes.out, if_pos rfl] at Htk
            have hrow' := HRr.out
            unfold RowI at hrow'
            have hd : decide (fT T (k : Int) ≤ u) = true := decide_eq_true hu
            clear hu hv9 hpos
            generalize fT T (k : Int) = x at *
            obtain ⟨en, hen⟩ : ∃ en, en = (rchTo T u k).map (Value.int .i64) := ⟨_, rfl⟩
            rw [← hen] at hrow'
            have Hen := Lib.hid hen
            obtain ⟨m, hm⟩ : ∃ m, m = (rchTo T u k).length := ⟨_, rfl⟩
            rw [← hm] at hrow'
            have hm8 : m ≤ 8 := by have := Hl.out; omega
            have Hm := Lib.hid hm
            clear hen hm
            go_wp2_with (at_builtin; refine wpList_append_own _ rfl _ _ 38 rfl w1.heap.size 3 i0 _ 1 8 Try.underlying38 hi hz0 hz1 hz2 rfl (by decide) _ m en rfl (World.ownsRow.alloc hrow' _) ⟨w2.heap.size, 0, none⟩ 1 1 [.int .i64 (k : Int)] rfl rfl (one_int w2 (k : Int)) (by simp [Value.oneCell']) (by simp only [maxLen]; omega) (by omega) (by simp; omega) ?_; intro v' w8 hown8 hgrow8 _; have HO8 := Lib.hid hown8; have HB8 := Lib.hid ((HBr.out.alloc HBr.out.size _).grown hgrow8 (by simp; omega) (fun j hj => (hrow'.lt j hj).1)); clear hown8 hgrow8 hrow')
            refine ⟨⟨k + 1, v', hlt, by go_num, rfl, ?_, HB8.out⟩, by simp [intOf]; omega⟩
            rw [Htk.out]
            refine RowI.snoc ?_
            rw [← Hen.out, ← Hm.out]
            exact HO8.out
          · have Hno := Lib.hid (show rchB T u k = false by unfold rchB; simp [hu])
            rw [Hno.out, if_neg (by simp), List.append_nil] at Htk
            have hd : decide (fT T (k : Int) ≤ u) = false := decide_eq_false hu
            clear hv9
            go_wp2
            exact ⟨⟨k + 1, sv, hlt, by go_num, rfl, by rw [Htk.out]; exact HRr.out, HBr.out⟩, by simp [intOf]; omega⟩
      · obtain rfl : k = N := by omega
        clear hrow hbel
        go_wp2
        go_ret
        rw [Hp.out]
        exact IntsOne.row HRr.out HB.out.size (HB.out.trans (HBr.out.mono HB.out.size))

end Go.Proofs.Ytmkcnoaphoiiaaa
/- slices.Grow and slices.Concat of two parts, of numbers. -/
namespace Go.Proofs.Ytmkcnoaphoiiaaa
open Go.RowKit

theorem encI_len (l : List Int) : (l.map (Value.int .i64)).length = l.length * 1 := by simp
theorem encI_one (l : List Int) : ∀ u ∈ l.map (Value.int .i64), u.oneCell' = true := by
  intro u hu
  obtain ⟨x, _, rfl⟩ := List.mem_map.1 hu
  rfl
theorem RowI.more {w : World} {B : Nat} {v : Value} {l l' : List Int} (h : w.ownsRow B 3 1 v (l.length + l'.length) (l.map (Value.int .i64) ++ l'.map (Value.int .i64))) : RowI w B v (l ++ l') := by
  unfold RowI
  rw [List.length_append, List.map_append]
  exact h

/-- The first i parts behind one another. -/
def catI (pl : Nat → List Int) : Nat → List Int
  | 0 => []
  | i + 1 => catI pl i ++ pl i
theorem catI_len (pl : Nat → List Int) (i : Nat) : (catI pl (i + 1)).length = (catI pl i).length + (pl i).length := by simp [catI]
theorem catI_mono (pl : Nat → List Int) {i j : Nat} (h : i ≤ j) : (catI pl i).length ≤ (catI pl j).length := by
  induction j with
  | zero => obtain rfl : i = 0 := by omega
            exact Nat.le_refl _
  | succ j ih =>
    by_cases e : i = j + 1
    · subst e; exact Nat.le_refl _
    · have := ih (by omega); rw [catI_len]; omega

/-- Two slices lie from ⟨g, 0⟩ on; each part's cells can be appended. -/
structure PartsI (w : World) (g : Nat) (pa : Nat → Addr) (pc : Nat → Nat) (pl : Nat → List Int) : Prop where
  lt : g < w.heap.size
  cell : ∀ i, i < 2 → w.cell? ⟨g, i, none⟩ = some (.slice (some (pa i)) (pl i).length (pc i))
  blk : ∀ i, i < 2 → pl i ≠ [] → (pa i).block < w.heap.size
  news : ∀ i, i < 2 → ∀ j u, ((pl i).map (Value.int .i64))[j]? = some u → w.cell? ((pa i).add j) = some u

theorem addI_block (a : Addr) (j : Nat) : (a.add j).block = a.block := by
  unfold Addr.add; split <;> rfl

theorem PartsI.below {w w' : World} {g : Nat} {pa : Nat → Addr} {pc : Nat → Nat} {pl : Nat → List Int} (h : PartsI w g pa pc pl) (hb : Below w.heap.size w w') : PartsI w' g pa pc pl where
  lt := Nat.lt_of_lt_of_le h.lt hb.size
  cell i hi := (hb.cell (p := ⟨g, i, none⟩) h.lt).trans (h.cell i hi)
  blk i hi hn := Nat.lt_of_lt_of_le (h.blk i hi hn) hb.size
  news i hi j u hj := by
    have hn : pl i ≠ [] := by rintro e; rw [e] at hj; simp at hj
    exact (hb.cell (p := (pa i).add j) (by rw [addI_block]; exact h.blk i hi hn)).trans (h.news i hi j u hj)

def CcIRel (g : Nat) (pa : Nat → Addr) (pc : Nat → Nat) (pl : Nat → List Int) (w : World) (v iv : Value) (wr : World) : Prop :=
  ∃ i : Nat, i ≤ 2 ∧ iv = .int .i64 i ∧ RowI wr w.heap.size v (catI pl i) ∧ PartsI wr g pa pc pl ∧ Below w.heap.size w wr

def CsIRel (pl : Nat → List Int) (w : World) (v iv : Value) (wr : World) : Prop :=
  ∃ i : Nat, i ≤ 2 ∧ iv = .int .i64 i ∧ v = .int .i64 (catI pl i).length ∧ wr = w

end Go.Proofs.Ytmkcnoaphoiiaaa
/- slices.Clone of numbers; a number of a row of the call's own is set. -/
namespace Go.Proofs.Ytmkcnoaphoiiaaa
open Go.RowKit

/-- The cells of a part of a row, for an append. -/
theorem IntAt.news {w : World} {b o : Nat} {l : List Int} (h : IntAt w b o l) : ∀ j u, (l.map (Value.int .i64))[j]? = some u → w.cell? ((⟨b, o, none⟩ : Addr).add j) = some u := by
  intro j u hj
  have e : (⟨b, o, none⟩ : Addr).add j = ⟨b, o + j, none⟩ := by
    unfold Addr.add; split
    · rename_i h; rw [h]; simp
    · rfl
  rw [e]
  have hjl : j < l.length := by
    rw [List.getElem?_eq_some_iff] at hj
    obtain ⟨h1, _⟩ := hj
    simpa using h1
  rw [h j hjl]
  simp [List.getElem?_map, List.getElem?_eq_getElem hjl] at hj
  rw [← hj]; simp [List.getD, hjl]

def CpIOut (l : List Int) (w : World) (e : Ending) (w' : World) : Prop := ∃ v, e = .returned v ∧ RowI w' w.heap.size v l ∧ Below w.heap.size w w'

theorem RowI.setAt {w : World} {B g n cap : Nat} {l : List Int} (h : RowI w B (.slice (some ⟨g, 0, none⟩) n cap) l) (i : Nat) (v : Int) :
    RowI (w.setCell ⟨g, i, none⟩ (.int .i64 v)) B (.slice (some ⟨g, 0, none⟩) n cap) (l.set i v) := by
  obtain ⟨hlen, h⟩ := h
  rcases h with ⟨h1, h0⟩ | ⟨g', cap', cur, h1, hB, hh, hcap, hmax, hs, htk⟩
  · cases h1
  · injection h1 with h1 h2 h3
    injection h1 with h1
    injection h1 with h1
    subst h1 h2 h3
    unfold RowI
    rw [List.length_set]
    refine ⟨by simp, .inr ⟨g, cap, _, rfl, hB, Whole.set (show Whole w g _ cur from hh) i (.int .i64 v), hcap, hmax, by rw [Array.size_setIfInBounds]; exact hs, ?_⟩⟩
    rw [Array.toList_setIfInBounds, List.take_set, htk, List.map_set]
theorem RowI.open2 {w : World} {B : Nat} {v : Value} {l : List Int} (h : RowI w B v l) (h0 : 0 < l.length) : ∃ g cap, v = .slice (some ⟨g, 0, none⟩) l.length cap ∧ l.length ≤ cap ∧ IntAt w g 0 l ∧ Room w g l.length ∧ B ≤ g ∧ g < w.heap.size := by
  obtain ⟨ad, cap, rfl, hc, ho, hin⟩ := h.row
  obtain ⟨g, rfl, hlt, hat, hroom⟩ := ho (by rintro rfl; simp at h0)
  exact ⟨g, cap, rfl, hc, hat, hroom, (hin g ⟨0, rfl⟩).1, hlt⟩
theorem RowI.in_ {w : World} {B : Nat} {v : Value} {l : List Int} (h : RowI w B v l) : IntsIn w v l := by
  obtain ⟨ad, cap, rfl, hc, ho, _⟩ := h.row
  exact ho.ints hc

end Go.Proofs.Ytmkcnoaphoiiaaa
/- The model's l7Table. -/
namespace Go.Proofs.Ytmkcnoaphoiiaaa
open Go.RowKit

theorem upX_ok {N : Nat} {T : List Int} {s : Rd} (h : TbOk N T) (ha : 0 ≤ s.a ∧ s.a < N) (hb : 0 ≤ s.b ∧ s.b ≤ 10000) : TbOk N (upX T s) := by
  refine ⟨by rw [upX_len]; exact h.1, fun i hi => ?_⟩
  unfold upX
  split
  · rw [fT_set ha.1 (by rw [h.1]; exact ha.2) (by omega)]
    split
    · omega
    · exact h.2 i hi
  · exact h.2 i hi

def T1Rel (N : Nat) (w : World) (v iv : Value) (wr : World) : Prop := ∃ (k : Nat) (sv : Value), k ≤ N ∧ iv = .int .i64 k ∧ sv = v ∧ RowI wr w.heap.size sv (List.replicate k (-1)) ∧ Below w.heap.size w wr
def T2Rel (N : Nat) (ch f t0 : Int) (net : List (List Rd)) (g : Nat) (w : World) (iv : Value) (wr : World) : Prop := ∃ r : Nat, r ≤ N + 1 ∧ iv = .int .i64 r ∧ TabAt wr g N (itA ch f net (iniX N f t0) r) ∧ Below w.heap.size w wr
def T3Rel (N : Nat) (ch f : Int) (net : List (List Rd)) (T : List Int) (g : Nat) (w : World) (iv : Value) (wr : World) : Prop := ∃ c : Nat, c ≤ net.length ∧ iv = .int .i64 c ∧ TabAt wr g N ((net.take c).foldl (cchG id ch f) T) ∧ Below w.heap.size w wr
def T4Rel (N : Nat) (ch f : Int) (l : List Rd) (T : List Int) (g : Nat) (w : World) (ov iv : Value) (wr : World) : Prop := ∃ (i : Nat) (Ti : List Int) (on : Bool), i ≤ l.length ∧ iv = .int .i64 i ∧ ov = .bool on ∧ (l.take i).foldl (stG id ch f) (T, false) = (Ti, on) ∧ TabAt wr g N Ti ∧ Below w.heap.size w wr

theorem stG_off (rt : List Int → List Int) (ch f : Int) (T : List Int) (s : Rd) : stG rt ch f (T, false) s = (T, rdyX (rt T) ch f s) := rfl
theorem stG_on (rt : List Int → List Int) (ch f : Int) (T : List Int) (s : Rd) : stG rt ch f (T, true) s = (upX T s, true) := rfl

def L7Out (N : Nat) (T : List Int) (w : World) (e : Ending) (w' : World) : Prop :=
  ∃ g cap, e = .returned (.slice (some ⟨g, 0, none⟩) N cap) ∧ N ≤ cap ∧ w.heap.size ≤ g ∧ TabAt w' g N T ∧ Below w.heap.size w w'

set_option maxRecDepth 100000 in
set_option maxHeartbeats 4000000 in
theorem l7Table_any (N : Nat) (v : Value) (net : List (List Rd)) (f t0 ch : Int) (w : World) (hv : NtIn w v net) (hm : totN net ≤ 1048577) (ho : okT7 (N : Int) net f t0 ch = true) :
    Calls Try.prog 65 #[.int .i64 (N : Int), v, .int .i64 f, .int .i64 t0, .int .i64 ch] w (L7Out N (tabA (N : Int) net ch f t0) w) := by
  obtain ⟨o1, ⟨o2, o3⟩, ⟨o4, o5⟩, o6, o7⟩ := okT7_iff.1 ho
  have hn8 := (okNet_iff.1 o1).1.2.1
  have hN : N ≤ 8 := by omega
  have O1 := Lib.hid o1
  have Hfin := Lib.hid (show tabA (N : Int) net ch f t0 = itA ch f net (iniX N f t0) (N + 1) from rfl)
  obtain ⟨i0, hi, hz0, hz1, hz2⟩ := info_parts Try.info3
  obtain ⟨a, cap, rfl, hcap, ha⟩ := hv
  have hl1 : net.length ≤ 6 := (okNet_iff.1 o1).1.2.2
  have Ha := Lib.hid ha
  have Hm := Lib.hid hm
  obtain ⟨F, rfl⟩ : ∃ F : Nat, f = (F : Int) := ⟨f.toNat, by omega⟩
  have hF : F < N := by omega
  have hR0 := Lib.hid (RowI.made w w.heap.size (Nat.le_refl _))
  have hB0 := Lib.hid ((Below.refl w.heap.size w).alloc (Nat.le_refl _) (.cells #[] 3))
  clear ho hcap ha hm o1
  go_enter Try.func65, Try.ntmps65
  go_wp2
  go_loopw [11, 12] (fun v iv wr => T1Rel N w v iv wr) (fun _ iv _ => N - (intOf iv).toNat)
  case atStart => exact ⟨0, _, Nat.zero_le _, rfl, rfl, hR0.out, hB0.out⟩
  case round =>
    obtain ⟨k, sv, hk, rfl, rfl, hrow, hbel⟩ := hrel
    have HB := Lib.hid hbel
    have HR := Lib.hid hrow
    by_cases hlt : k < N
    · have hrow' := hrow
      unfold RowI at hrow'
      rw [List.length_replicate] at hrow'
      obtain ⟨en, hen⟩ : ∃ en, en = (List.replicate k (-1 : Int)).map (Value.int .i64) := ⟨_, rfl⟩
      rw [← hen] at hrow'
      have Hen := Lib.hid hen
      have hsz := hbel.size
      have hlt' : (k : Int) < (N : Int) := by omega
      clear hen hrow hbel
      go_wp2_with (at_builtin; refine wpList_append_own _ rfl _ _ 38 rfl w.heap.size 3 i0 _ 1 8 Try.underlying38 hi hz0 hz1 hz2 rfl (by decide) _ k en rfl (World.ownsRow.alloc hrow' _) ⟨wr.heap.size, 0, none⟩ 1 1 [.int .i64 (-1)] rfl rfl (one_int wr (-1)) (by simp [Value.oneCell']) (by simp only [maxLen]; omega) (by omega) (by simp; omega) ?_; intro v' w8 hown8 hgrow8 _; have HO8 := Lib.hid hown8; have HB8 := Lib.hid ((HB.out.alloc HB.out.size _).grown hgrow8 (by simp; omega) (fun j hj => (hrow'.lt j hj).1)); clear hown8 hgrow8 hrow')
      refine ⟨⟨k + 1, v', hlt, by go_num, rfl, ?_, HB8.out⟩, by simp [intOf]; omega⟩
      rw [List.replicate_succ']
      refine RowI.snoc ?_
      rw [← Hen.out, List.length_replicate]
      exact HO8.out
    · obtain rfl : k = N := by omega
      obtain ⟨g, cp, rfl, hcp, hat, hroom, hg, hgl⟩ := hrow.open2 (by simp; omega)
      rw [List.length_replicate] at hcp hroom ⊢
      have hTab : TabAt wr g k (List.replicate k (-1)) := ⟨⟨by simp, fun i hi => by rw [fT_at]; simp [List.getD, hi]⟩, hgl, hat, hroom⟩
      have hTab2 := hTab.set hF (x := t0) (by omega) o7
      have c0 := hTab.cell hF
      have f0 := hroom.2 F
      have HT2 := Lib.hid hTab2
      have HB2 := Lib.hid (hbel.setCell (p := ⟨g, F, none⟩) hg (.int .i64 t0))
      have Hg := Lib.hid (And.intro hg hcp)
      have hF' : (F : Int) < (k : Int) := by omega
      have hini : (List.replicate k (-1 : Int)).set F t0 = iniX k (F : Int) t0 := rfl
      rw [hini] at HT2
      clear hrow hbel hat hroom hTab hTab2 hini HR hlt hk hgl
      go_wp2
      generalize wr.setCell ⟨g, F, none⟩ (.int .i64 t0) = w2 at *
      clear c0 f0
      go_loopw [13] (fun iv wr => T2Rel k ch (F : Int) t0 net g w iv wr) (fun iv _ => k + 1 - (intOf iv).toNat)
      case atStart => exact ⟨0, Nat.zero_le _, rfl, HT2.out, HB2.out⟩
      case round =>
        obtain ⟨r, hr, rfl, htab, hbel⟩ := hrel
        have HT := Lib.hid htab
        have HB3 := Lib.hid hbel
        clear htab hbel
        by_cases hlt : r ≤ k
        · have hlt' : (r : Int) ≤ (k : Int) := by omega
          have Hitr := Lib.hid (show itA ch (F : Int) net (iniX k (F : Int) t0) (r + 1) = net.foldl (cchG id ch (F : Int)) (itA ch (F : Int) net (iniX k (F : Int) t0) r) from rfl)
          generalize itA ch (F : Int) net (iniX k (F : Int) t0) r = T at *
          go_wp2
          go_loopw [14] (fun iv wr => T3Rel k ch (F : Int) net T g w iv wr) (fun iv _ => net.length - (intOf iv).toNat)
          case atStart => exact ⟨0, Nat.zero_le _, rfl, HT.out, HB3.out⟩
          case round =>
            obtain ⟨c, hc, rfl, htab, hbel⟩ := hrel
            have HT5 := Lib.hid htab
            have HB5 := Lib.hid hbel
            clear htab hbel
            by_cases hltc : c < net.length
            · obtain ⟨b, o, rfl, hb, hrw⟩ := Ha.out (by intro h; simp [h] at hltc)
              obtain ⟨u, hu, hin⟩ := hrw c hltc
              have Hu := Lib.hid (fun (W : World) (h : Below w.heap.size w W) => (h.cell (p := ⟨b, o + c, none⟩) hb).trans hu)
              obtain ⟨a2, cap2, rfl, _, ha2⟩ := hin
              have Ha2 := Lib.hid ha2
              have Hcc := Lib.hid (foldl_take (cchG id ch (F : Int)) T net c [] hltc)
              have hvs := (okNet_iff.1 O1.out).2 c hltc
              have l8 : (coach net c).length ≤ 8 := (validS_iff.1 hvs).1.2.2.2
              have Hvs := Lib.hid hvs
              have hltc' : (c : Int) < (net.length : Int) := by omega
              clear hrw hu ha2 hvs
              generalize (net.take c).foldl (cchG id ch (F : Int)) T = Tc at *
              have Hcch := Lib.hid (show cchG id ch (F : Int) Tc (net.getD c []) = ((coach net c).foldl (stG id ch (F : Int)) (Tc, false)).1 from rfl)
              go_wp2
              go_loopw [15, 16] (fun ov iv wr => T4Rel k ch (F : Int) (coach net c) Tc g w ov iv wr) (fun _ iv _ => (coach net c).length - (intOf iv).toNat)
              case atStart => exact ⟨0, Tc, false, Nat.zero_le _, rfl, rfl, rfl, HT5.out, HB5.out⟩
              case round =>
                obtain ⟨i, Ti, on, hi9, rfl, rfl, hfold, htab, hbel⟩ := hrel
                have c1 := Hu.out wr hbel
                have HT7 := Lib.hid htab
                have HB7 := Lib.hid hbel
                have Hfold := Lib.hid hfold
                clear hfold
                by_cases hlti : i < (coach net c).length
                · obtain ⟨b3, ob3, rfl, hb3, hrow3⟩ := Ha2.out (by intro h; simp [h] at hlti)
                  obtain ⟨d0, d1, d2⟩ := (hrow3.below hbel hb3) i hlti
                  have hva := validS_at Hvs.out hlti
                  have hvn := (fitsS_iff _ _).1 ((okS_iff _ _ _).1 ((validS_iff.1 Hvs.out).2 i hlti)).1
                  have Hst := Lib.hid (foldl_take (stG id ch (F : Int)) (Tc, false) (coach net c) i rd0 hlti)
                  rw [Hfold.out] at Hst
                  obtain ⟨⟨xa, xb, xm⟩, hxr⟩ : ∃ r, (coach net c).getD i tz0 = r := ⟨_, rfl⟩
                  have hxr2 : (coach net c).getD i rd0 = ⟨xa, xb, xm⟩ := hxr
                  rw [hxr] at d0 d1 d2
                  rw [hxr2] at hva hvn Hst
                  simp only at d0 d1 d2 hva hvn
                  obtain ⟨A, rfl⟩ : ∃ A : Nat, xa = (A : Int) := ⟨xa.toNat, by omega⟩
                  have hA : A < k := by omega
                  have hA' : (A : Int) < (k : Int) := by omega
                  have hlti' : (i : Int) < ((coach net c).length : Int) := by omega
                  have hbA : Below wr.heap.size wr (wr.alloc (.cells #[.int .i64 (A : Int), .int .i64 xb, .int .i64 xm] 77)) := (Below.refl _ _).alloc (Nat.le_refl _) _
                  have htab2 := htab.below hbA
                  have hl := Whole.made wr 77 #[.int .i64 (A : Int), .int .i64 xb, .int .i64 xm]
                  have e0 : (wr.alloc (.cells #[.int .i64 (A : Int), .int .i64 xb, .int .i64 xm] 77)).cell? ⟨wr.heap.size, 0, none⟩ = some (.int .i64 (A : Int)) := hl.cell rfl
                  have e1 : (wr.alloc (.cells #[.int .i64 (A : Int), .int .i64 xb, .int .i64 xm] 77)).cell? ⟨wr.heap.size, 1, none⟩ = some (.int .i64 xb) := hl.cell rfl
                  have e2 : (wr.alloc (.cells #[.int .i64 (A : Int), .int .i64 xb, .int .i64 xm] 77)).cell? ⟨wr.heap.size, 2, none⟩ = some (.int .i64 xm) := hl.cell rfl
                  have ct := htab2.cell hA
                  have ft := htab2.room.2 A
                  have hng : g ≠ wr.heap.size := by have := htab.lt; omega
                  have HT8 := Lib.hid htab2
                  have HB8 := Lib.hid (hbel.trans (hbA.mono hbel.size))
                  have HL := Lib.hid hl
                  have hx0 := (htab.ok.2 A hA).1
                  have hx1 := (htab.ok.2 A hA).2
                  have hbb := And.intro hva.2.2.1 (show xb ≤ 10000 by omega)
                  clear hva hvn hrow3 htab hbel hbA htab2 hl hxr hxr2
                  have HT9 := Lib.hid (fun (W : World) (h : Below (wr.alloc (.cells #[.int .i64 (A : Int), .int .i64 xb, .int .i64 xm] 77)).heap.size (wr.alloc (.cells #[.int .i64 (A : Int), .int .i64 xb, .int .i64 xm] 77)) W) => And.intro (HT8.out.below h) (HB8.out.trans (h.mono HB8.out.size)))
                  cases on with
                  | false =>
                    rw [stG_off] at Hst
                    go_wp2
                    go_quiet (fail)
                    go_wp2_with fail
                    refine (l7Ready_any g k cp Ti (F : Int) (A : Int) xb xm ch _ (HT9.out _ (by first | exact (Below.refl _ _).drewN _ | exact ((Below.refl _ _).drewN _).drewN _ | exact (Below.refl _ _).drew | exact Below.refl _ _)).1 ⟨Int.natCast_nonneg A, hA'⟩ o2 o3).mono ?_; rintro e w9 ⟨rfl, hb9⟩
                    have HT10 := Lib.hid (TabAt.below (HT9.out _ (by first | exact (Below.refl _ _).drewN _ | exact ((Below.refl _ _).drewN _).drewN _ | exact (Below.refl _ _).drew | exact Below.refl _ _)).1 hb9)
                    have hB10 := Below.trans (HT9.out _ (by first | exact (Below.refl _ _).drewN _ | exact ((Below.refl _ _).drewN _).drewN _ | exact (Below.refl _ _).drew | exact Below.refl _ _)).2 (Below.mono hb9 (HT9.out _ (by first | exact (Below.refl _ _).drewN _ | exact ((Below.refl _ _).drewN _).drewN _ | exact (Below.refl _ _).drew | exact Below.refl _ _)).2.size)
                    have HB10 := Lib.hid hB10
                    clear hB10
                    clear hb9 ct ft e0 e1 e2 d0 d1 d2
                    go_wp2
                    exact ⟨⟨i + 1, Ti, _, hlti, by go_num, rfl, by rw [Hst.out]; rfl, HT10.out, HB10.out⟩, by simp [intOf]; omega⟩
                  | true =>
                    rw [stG_on] at Hst
                    have Hup := Lib.hid (show upX Ti ⟨(A : Int), xb, xm⟩ = if fT Ti (A : Int) < 0 ∨ xb < fT Ti (A : Int) then Ti.set A xb else Ti from rfl)
                    generalize fT Ti (A : Int) = x at *
                    by_cases h1 : x < 0
                    · have h1' : decide (x < 0) = true := decide_eq_true h1
                      rw [if_pos (.inl h1)] at Hup
                      clear hx1
                      go_wp2
                      go_quiet (fail)
                      go_wp2
                      exact ⟨⟨i + 1, Ti.set A xb, true, hlti, by go_num, rfl, by rw [Hst.out, Hup.out], TabAt.set (HT9.out _ (by first | exact (Below.refl _ _).drewN _ | exact ((Below.refl _ _).drewN _).drewN _ | exact (Below.refl _ _).drew | exact Below.refl _ _)).1 hA (x := xb) (by omega) hbb.2, Below.setCell (HT9.out _ (by first | exact (Below.refl _ _).drewN _ | exact ((Below.refl _ _).drewN _).drewN _ | exact (Below.refl _ _).drew | exact Below.refl _ _)).2 (p := ⟨g, A, none⟩) Hg.out.1 _⟩, by simp [intOf]; omega⟩
                    · by_cases h2 : xb < x
                      · have h1' : decide (x < 0) = false := decide_eq_false h1
                        have h2' : decide (xb < x) = true := decide_eq_true h2
                        rw [if_pos (.inr h2)] at Hup
                        go_wp2
                        go_quiet (fail)
                        go_wp2
                        exact ⟨⟨i + 1, Ti.set A xb, true, hlti, by go_num, rfl, by rw [Hst.out, Hup.out], TabAt.set (HT9.out _ (by first | exact (Below.refl _ _).drewN _ | exact ((Below.refl _ _).drewN _).drewN _ | exact (Below.refl _ _).drew | exact Below.refl _ _)).1 hA (x := xb) (by omega) hbb.2, Below.setCell (HT9.out _ (by first | exact (Below.refl _ _).drewN _ | exact ((Below.refl _ _).drewN _).drewN _ | exact (Below.refl _ _).drew | exact Below.refl _ _)).2 (p := ⟨g, A, none⟩) Hg.out.1 _⟩, by simp [intOf]; omega⟩
                      · have h1' : decide (x < 0) = false := decide_eq_false h1
                        have h2' : decide (xb < x) = false := decide_eq_false h2
                        rw [if_neg (by omega)] at Hup
                        go_wp2
                        go_quiet (fail)
                        go_wp2
                        exact ⟨⟨i + 1, Ti, true, hlti, by go_num, rfl, by rw [Hst.out, Hup.out], (HT9.out _ (by first | exact (Below.refl _ _).drewN _ | exact ((Below.refl _ _).drewN _).drewN _ | exact (Below.refl _ _).drew | exact Below.refl _ _)).1, (HT9.out _ (by first | exact (Below.refl _ _).drewN _ | exact ((Below.refl _ _).drewN _).drewN _ | exact (Below.refl _ _).drew | exact Below.refl _ _)).2⟩, by simp [intOf]; omega⟩
                · obtain rfl : i = (coach net c).length := by omega
                  have hfo := Hfold.out
                  rw [List.take_length] at hfo
                  have Hn := Lib.hid (show (net.take (c + 1)).foldl (cchG id ch (F : Int)) T = Ti by rw [Hcc.out, Hcch.out, hfo])
                  clear hfo hlti hi9 htab hbel
                  go_wp2
                  exact ⟨⟨c + 1, hltc, by go_num, by rw [Hn.out]; exact HT7.out, HB7.out⟩, by simp [intOf]; omega⟩
            · obtain rfl : c = net.length := by omega
              rw [List.take_length] at HT5
              have Hn := Lib.hid (show TabAt wr g k (itA ch (F : Int) net (iniX k (F : Int) t0) (r + 1)) by rw [Hitr.out]; exact HT5.out)
              go_wp2
              exact ⟨⟨r + 1, by omega, by go_num, Hn.out, HB5.out⟩, by simp [intOf]; omega⟩
        · obtain rfl : r = k + 1 := by omega
          go_wp2
          go_ret
          exact ⟨g, cp, rfl, Hg.out.2, Hg.out.1, by rw [Hfin.out]; exact HT.out, HB3.out⟩

end Go.Proofs.Ytmkcnoaphoiiaaa
/- The model's PostTable, PostArrive, PostReach. -/
namespace Go.Proofs.Ytmkcnoaphoiiaaa
open Go.RowKit

theorem TabAt.own {w : World} {g N cap : Nat} {T : List Int} (h : TabAt w g N T) (hc : N ≤ cap) : ∃ (ad : Option Addr) (cp : Nat), (Value.slice (some ⟨g, 0, none⟩) N cap) = .slice ad T.length cp ∧ T.length ≤ cp ∧ OwnI w ad T ∧ ∀ j, inBlk ad j → j = g :=
  ⟨some ⟨g, 0, none⟩, cap, by rw [h.ok.1], by rw [h.ok.1]; exact hc, fun _ => ⟨g, rfl, h.lt, h.at_, by rw [h.ok.1]; exact h.room⟩, fun j hj => by obtain ⟨o, ho⟩ := hj; cases ho; rfl⟩

set_option maxRecDepth 100000 in
set_option maxHeartbeats 1000000 in
theorem postTable1_any (n : Int) (v : Value) (net : List (List Rd)) (f t0 ch : Int) (w : World) (hv : NtIn w v net) (hm : totN net ≤ 1048577) (wn : W64 n) :
    Calls Try.prog 28 #[.int .i64 n, v, .int .i64 f, .int .i64 t0, .int .i64 ch] w (IntsOk (ptX n net f t0 ch) (okT7 n net f t0 ch) w) := by
  have HC := Lib.hid (l7Ok_any n v net f t0 ch w hv hm wn)
  have HV := Lib.hid hv
  have Hm := Lib.hid hm
  clear hv hm
  cases ho : okT7 n net f t0 ch with
  | false =>
    rw [ho] at HC
    have Ho := Lib.hid ho; clear ho
    go_enter Try.func28, Try.ntmps28
    go_wp2_with fail
    refine HC.out.mono ?_; rintro e w1 ⟨rfl, hb⟩
    have HB := Lib.hid hb
    clear HC hb
    go_wp2
    go_ret2
    rw [ptX_no Ho.out]
    exact IntsOk.no HB.out.size (by simp) (HB.out.alloc HB.out.size _)
  | true =>
    rw [ho] at HC
    have Ho := Lib.hid ho
    have n1 := (okNet_iff.1 (okT7_iff.1 ho).1).1.1
    obtain ⟨N, rfl⟩ : ∃ N : Nat, n = (N : Int) := ⟨n.toNat, by omega⟩
    have Hx := Lib.hid (ptX_yes ho)
    clear ho n1
    go_enter Try.func28, Try.ntmps28
    go_wp2_with fail
    refine HC.out.mono ?_; rintro e w1 ⟨rfl, hb⟩
    have HB := Lib.hid hb
    clear HC hb
    go_wp2_with fail
    refine (l7Table_any N v net f t0 ch _ (HV.out.below HB.out) Hm.out Ho.out).mono ?_; rintro e w2 ⟨g, cap, rfl, hcp, hg, htab, hb2⟩
    have HT := Lib.hid (And.intro htab (And.intro hcp hg))
    have HB2 := Lib.hid (HB.out.trans (hb2.mono HB.out.size))
    clear htab hcp hg hb2
    go_wp2
    go_ret2
    rw [Hx.out]
    obtain ⟨ad, cp, e1, e2, e3, e4⟩ := HT.out.1.own HT.out.2.1
    exact ⟨ad, cp, by rw [← e1]; rfl, e2, e3, fun j hj => by rw [e4 j hj]; have := HT.out.2.2; have := HB.out.size; have := HT.out.1.lt; omega, HB2.out⟩

theorem IntsOk.at_ {xs : List Int} {ok : Bool} {w : World} {e : Ending} {w' : World} (h : IntsOk xs ok w e w') (h0 : 0 < xs.length) : ∃ g cap, e = .returned (.tuple #[.slice (some ⟨g, 0, none⟩) xs.length cap, .bool ok]) ∧ g < w'.heap.size ∧ IntAt w' g 0 xs ∧ Below w.heap.size w w' := by
  obtain ⟨ad, cp, rfl, hc, ho, _, hb⟩ := h
  obtain ⟨g, rfl, hlt, hat, _⟩ := ho (by rintro rfl; simp at h0)
  exact ⟨g, cp, rfl, hlt, hat, hb⟩

set_option maxRecDepth 100000 in
set_option maxHeartbeats 1000000 in
theorem postArrive1_any (n : Int) (v : Value) (net : List (List Rd)) (f to t0 ch : Int) (w : World) (hv : NtIn w v net) (hm : totN net ≤ 1048577) (wn : W64 n) :
    Calls Try.prog 34 #[.int .i64 n, v, .int .i64 f, .int .i64 to, .int .i64 t0, .int .i64 ch] w (Gives (.int .i64 (paX n net f to t0 ch)) w) := by
  have HC := Lib.hid (postTable1_any n v net f t0 ch w hv hm wn)
  clear hv hm
  cases ho : okT7 n net f t0 ch with
  | false =>
    rw [ho] at HC
    have Hp := Lib.hid (show paX n net f to t0 ch = -1 by unfold paX; rw [if_neg (by rw [ho]; simp)])
    clear ho
    go_enter Try.func34, Try.ntmps34
    go_wp2_with fail
    refine HC.out.mono ?_; rintro e w1 ⟨ad, cp, rfl, _, _, _, hb⟩
    clear HC
    go_wp2
    go_ret
    exact ⟨ret_int Hp.out.symm, hb⟩
  | true =>
    rw [ho, ptX_yes ho] at HC
    obtain ⟨o1, ⟨o2, o3⟩, ⟨o4, o5⟩, o6, o7⟩ := okT7_iff.1 ho
    have n1 := (okNet_iff.1 o1).1.1
    have n8 := (okNet_iff.1 o1).1.2.1
    obtain ⟨N, rfl⟩ : ∃ N : Nat, n = (N : Int) := ⟨n.toNat, by omega⟩
    have hlen := tabA_len (ch := ch) o1 ⟨o4, o5⟩ ⟨o6, o7⟩
    have Hp := Lib.hid (show paX (N : Int) net f to t0 ch = if isTown (N : Int) to = true then fT (tabA (N : Int) net ch f t0) to else -1 by unfold paX; rw [ho]; simp)
    generalize tabA (N : Int) net ch f t0 = T at *
    have hpos : 0 < T.length := by omega
    have hTN : T.length = N := by omega
    clear ho o1 o2 o3 o4 o5 o6 o7 hlen
    by_cases hto : 0 ≤ to ∧ to ≤ (N : Int) - 1
    · have hin : inB to 0 ((N : Int) - 1) = true := (inB_iff _ _ _).2 hto
      rw [if_pos (isTown_iff.2 ⟨hto.1, by omega⟩)] at Hp
      obtain ⟨t0', ht1⟩ := hto
      obtain ⟨K, rfl⟩ : ∃ K : Nat, to = (K : Int) := ⟨to.toNat, by omega⟩
      have hK : K < T.length := by omega
      go_enter Try.func34, Try.ntmps34
      go_wp2_with fail
      refine HC.out.mono ?_; intro e w1 hx
      obtain ⟨g, cap, rfl, hg, hat, hb⟩ := hx.at_ hpos
      have c0 : w1.cell? ⟨g, K, none⟩ = some (.int .i64 (fT T (K : Int))) := by
        have := hat K hK
        rw [Nat.zero_add] at this
        rw [this, fT_get hK]
      have hK' : (K : Int) < (T.length : Int) := by omega
      have HTN := Lib.hid hTN
      clear hx hat HC hTN
      go_wp2_with fail
      refine (l6In_any _ _ _ _).mono ?_; rintro e w' ⟨rfl, rfl⟩
      rw [hin]
      go_wp2
      go_ret
      exact ⟨ret_int Hp.out.symm, hb⟩
    · have hin : inB to 0 ((N : Int) - 1) = false := Bool.eq_false_iff.2 (fun h => hto ((inB_iff _ _ _).1 h))
      rw [if_neg (by intro h; have := isTown_iff.1 h; omega)] at Hp
      have HTN := Lib.hid hTN
      clear hto hTN
      go_enter Try.func34, Try.ntmps34
      go_wp2_with fail
      refine HC.out.mono ?_; intro e w1 hx
      obtain ⟨g, cap, rfl, hg, hat, hb⟩ := hx.at_ hpos
      clear hx hat HC
      go_wp2_with fail
      refine (l6In_any _ _ _ _).mono ?_; rintro e w' ⟨rfl, rfl⟩
      rw [hin]
      go_wp2
      go_ret
      exact ⟨ret_int Hp.out.symm, hb⟩

def R1Rel (ad : Option Addr) (T : List Int) (u : Int) (B1 : Nat) (w : World) (v iv : Value) (wr : World) : Prop := ∃ (k : Nat) (sv : Value), k ≤ T.length ∧ iv = .int .i64 k ∧ sv = v ∧ RowI wr w.heap.size sv (rchTo T u k) ∧ Below w.heap.size w wr ∧ OwnI wr ad T ∧ (∀ q, sv.ownBlock = some q → q = w.heap.size ∨ B1 ≤ q) ∧ B1 ≤ wr.heap.size

set_option maxRecDepth 100000 in
set_option maxHeartbeats 2000000 in
theorem postReach1_any (n : Int) (v : Value) (net : List (List Rd)) (f t0 ch u : Int) (w : World) (hv : NtIn w v net) (hm : totN net ≤ 1048577) (wn : W64 n) :
    Calls Try.prog 36 #[.int .i64 n, v, .int .i64 f, .int .i64 t0, .int .i64 ch, .int .i64 u] w (IntsOne (rchX n net f t0 ch u) w) := by
  have hb0 : Below w.heap.size w (w.alloc (.cells #[] 3)) := (Below.refl _ _).alloc (Nat.le_refl _) _
  have HC := Lib.hid (postTable1_any n v net f t0 ch _ (hv.below hb0) hm wn)
  have HR := Lib.hid (RowI.made w w.heap.size (Nat.le_refl _))
  have HB0 := Lib.hid hb0
  obtain ⟨i0, hi, hz0, hz1, hz2⟩ := info_parts Try.info3
  clear hv hm hb0
  obtain ⟨T, ok, hT, hrx, hT8⟩ : ∃ T ok, ptX n net f t0 ch = T ∧ rchX n net f t0 ch u = rchTo T u T.length ∧ T.length ≤ 8 := by
    cases ho : okT7 n net f t0 ch with
    | false => exact ⟨[], false, ptX_no ho, by unfold rchX; rw [ho]; rfl, by simp⟩
    | true =>
      obtain ⟨o1, ⟨o2, o3⟩, o4, o6⟩ := okT7_iff.1 ho
      have hl := tabA_len (ch := ch) o1 o4 o6
      have n8 := (okNet_iff.1 o1).1.2.1
      exact ⟨_, true, ptX_yes ho, by unfold rchX; rw [ho, if_pos rfl]; congr 1; omega, by omega⟩
  rw [hT] at HC
  have Hrx := Lib.hid hrx
  clear hT hrx
  go_enter Try.func36, Try.ntmps36
  go_wp2_with fail
  have Hw0 := Lib.hid (show (w.alloc (.cells #[] 3)).heap.size = w.heap.size + 1 by simp)
  generalize w.alloc (.cells #[] 3) = w0 at *
  refine HC.out.mono ?_; rintro e w1 ⟨ad, cap, rfl, hcap, hown, hblk, hb⟩
  have Hblk := Lib.hid (show ∀ j, inBlk ad j → w.heap.size < j ∧ j < w1.heap.size from fun j hj => by have := hblk j hj; have := Hw0.out; omega)
  clear hblk
  have HR1 := Lib.hid (HR.out.below hb)
  have HB1 := Lib.hid (HB0.out.trans (hb.mono HB0.out.size))
  have Hown := Lib.hid hown
  clear HC hb hown hcap
  go_wp2
  go_loopw [13, 16] (fun v iv wr => R1Rel ad T u w1.heap.size w v iv wr) (fun _ iv _ => T.length - (intOf iv).toNat)
  case atStart => exact ⟨0, _, Nat.zero_le _, rfl, rfl, HR1.out, HB1.out, Hown.out, fun q hq => .inl (Option.some.inj hq).symm, Nat.le_refl _⟩
  case round =>
    obtain ⟨k, sv, hk, rfl, rfl, hrow, hbel, hown, hq, hB1⟩ := hrel
    have HQ := Lib.hid hq
    have HB1' := Lib.hid hB1
    have HO := Lib.hid hown
    have HRr := Lib.hid hrow
    have HBr := Lib.hid hbel
    have hsz := hbel.size
    by_cases hlt : k < T.length
    · obtain ⟨g, rfl, hg, hat, _⟩ := hown (by rintro rfl; simp at hlt)
      have c0 : wr.cell? ⟨g, k, none⟩ = some (.int .i64 (fT T (k : Int))) := by
        have := hat k hlt
        rw [Nat.zero_add] at this
        rw [this, fT_get hlt]
      have Htk := Lib.hid (rchTo_succ T u k)
      have Hl := Lib.hid (rchTo_len T u k)
      have hlt' : (k : Int) < (T.length : Int) := by omega
      clear hat hbel
      by_cases h0 : 0 ≤ fT T (k : Int)
      · have hd0 : decide (0 ≤ fT T (k : Int)) = true := decide_eq_true h0
        by_cases hu : fT T (k : Int) ≤ u
        · have Hyes := Lib.hid (show rchB T u k = true by unfold rchB; simp [h0, hu])
          rw [Hyes.out, if_pos rfl] at Htk
          have hrow' := hrow
          unfold RowI at hrow'
          have hd : decide (fT T (k : Int) ≤ u) = true := decide_eq_true hu
          generalize fT T (k : Int) = x at *
          obtain ⟨en, hen⟩ : ∃ en, en = (rchTo T u k).map (Value.int .i64) := ⟨_, rfl⟩
          rw [← hen] at hrow'
          have Hen := Lib.hid hen
          obtain ⟨m, hm⟩ : ∃ m, m = (rchTo T u k).length := ⟨_, rfl⟩
          rw [← hm] at hrow'
          have hm8 : m ≤ 8 := by have := Hl.out; omega
          have Hm := Lib.hid hm
          have hgne : ∀ q, sv.ownBlock = some q → w.heap.size ≤ q := fun q hq => (hrow'.lt q hq).1
          clear hen hm hrow
          go_wp2_with (at_builtin; refine wpList_append_lies _ rfl _ _ 38 rfl w.heap.size 3 i0 _ 1 8 Try.underlying38 hi hz0 hz1 hz2 rfl (by decide) _ m en rfl (World.ownsRow.alloc hrow' _) ⟨wr.heap.size, 0, none⟩ 1 1 [.int .i64 (k : Int)] rfl rfl (one_int wr (k : Int)) (by simp [Value.oneCell']) (by decide) (by simp only [maxLen]; omega) (by omega) (by simp; omega) _ rfl ?_; intro g2 cp2 w8 hown8 hgrow8 hlie8 _; have HO8 := Lib.hid hown8; have HG8 := Lib.hid hgrow8; have HL8 := Lib.hid hlie8; have HB8 := Lib.hid ((HBr.out.alloc HBr.out.size _).grown hgrow8 (by simp; omega) (fun j hj => (hrow'.lt j hj).1)); clear hown8 hgrow8 hlie8 hrow')
          have hg8 := HG8.out
          have hT : Touch (fun q => sv.ownBlock = some q) wr w8 := ⟨by rw [hg8.os]; rfl, by rw [hg8.tape]; rfl, by rw [hg8.output]; rfl, by have := hg8.size; simp at this; omega, fun j hj hS => (hg8.block j (by simp; omega) (fun e => hS e.symm)).trans (((Below.refl wr.heap.size wr).alloc (Nat.le_refl _) _).block j hj)⟩
          refine ⟨⟨k + 1, .slice (some ⟨g2, 0, none⟩) (m + 1) cp2, hlt, by go_num, rfl, ?_, HB8.out, ?_, fun q hq => ?_, ?_⟩, by simp [intOf]; omega⟩
          · rw [Htk.out]
            refine RowI.snoc ?_
            rw [← Hen.out, ← Hm.out]
            exact HO8.out
          · exact HO.out.touch hT (fun j hj hS => by have := Hblk.out j hj; rcases HQ.out j hS with h | h <;> omega)
          · have hq2 : some g2 = some q := hq
            injection hq2 with hq2
            rcases HL8.out with h | h
            · exact HQ.out q (by rw [← hq2]; exact h)
            · right; have := HB1'.out; simp at h; omega
          · have := hT.size; have := HB1'.out; omega
        · have Hno := Lib.hid (show rchB T u k = false by unfold rchB; simp [hu])
          rw [Hno.out, if_neg (by simp), List.append_nil] at Htk
          have hd : decide (fT T (k : Int) ≤ u) = false := decide_eq_false hu
          clear hrow
          go_wp2
          exact ⟨⟨k + 1, sv, hlt, by go_num, rfl, by rw [Htk.out]; exact HRr.out, HBr.out, HO.out, HQ.out, HB1'.out⟩, by simp [intOf]; omega⟩
      · have Hno := Lib.hid (show rchB T u k = false by unfold rchB; simp [h0])
        rw [Hno.out, if_neg (by simp), List.append_nil] at Htk
        have hd0 : decide (0 ≤ fT T (k : Int)) = false := decide_eq_false h0
        clear hrow
        go_wp2
        exact ⟨⟨k + 1, sv, hlt, by go_num, rfl, by rw [Htk.out]; exact HRr.out, HBr.out, HO.out, HQ.out, HB1'.out⟩, by simp [intOf]; omega⟩
    · obtain rfl : k = T.length := by omega
      clear hrow hbel
      go_wp2
      go_ret
      rw [Hrx.out]
      exact IntsOne.row HRr.out (Nat.le_refl _) HBr.out

end Go.Proofs.Ytmkcnoaphoiiaaa
/- The laws' sameInts. -/
namespace Go.Proofs.Ytmkcnoaphoiiaaa
open Go.RowKit

set_option maxHeartbeats 400000 in
theorem sameInts_any (v v' : Value) (l l' : List Int) (w : World) (hv : IntsIn w v l) (hv' : IntsIn w v' l') (hl : l.length ≤ 1048576) :
    Calls Try.prog 56 #[v, v'] w (EqIOut (l = l') w) := by
  obtain ⟨a, cap, rfl, hcap, ha⟩ := hv
  clear hcap
  obtain ⟨a', cap', rfl, hcap', ha'⟩ := hv'
  clear hcap'
  by_cases hle : l.length = l'.length
  · have Ha := Lib.hid ha; clear ha
    have Ha' := Lib.hid ha'; clear ha'
    have h1 : ((l.length : Int) != (l'.length : Int)) = false := by simp [hle]
    have Hle := Lib.hid hle; clear hle
    go_enter Try.func56, Try.ntmps56
    go_wp2
    clear h1
    go_loopw [5] (fun i wr => EqIRel l l' w i wr) (fun i _ => l.length - (intOf i).toNat)
    case atStart => exact ⟨0, Nat.zero_le _, rfl, fun i hi => by omega, Below.refl _ _⟩
    case round =>
      obtain ⟨k, hk, rfl, heq, hbel⟩ := hrel
      have Heq := Lib.hid heq; clear heq
      by_cases hlt : k < l.length
      · have hlt' : k < l'.length := Hle.out ▸ hlt
        obtain ⟨b, o, rfl, hb, hrw⟩ := Ha.out (by intro h; simp [h] at hlt)
        obtain ⟨b', o', rfl, hb', hrw'⟩ := Ha'.out (by intro h; simp [h] at hlt')
        have c0 := (hrw.below hbel hb) k hlt
        have c0' := (hrw'.below hbel hb') k hlt'
        have Hrw := Lib.hid hrw; clear hrw
        have Hrw' := Lib.hid hrw'; clear hrw'
        have hk0 : (0 : Int) ≤ (k : Int) := Int.natCast_nonneg _
        have hk1 : (k : Int) < (l.length : Int) := by omega
        have hk1' : (k : Int) < (l'.length : Int) := by omega
        generalize hx : l.getD k 0 = x at *
        generalize hy : l'.getD k 0 = y at *
        have Hx := Lib.hid hx; clear hx
        have Hy := Lib.hid hy; clear hy
        by_cases hq : (x != y) = true
        · go_wp2
          go_quiet (fail)
          go_wp2
          go_ret
          refine ⟨⟨false, rfl, ?_⟩, hbel.drewN _⟩
          simp only [Bool.false_eq_true, false_iff]
          rintro rfl
          rw [← Hx.out, ← Hy.out] at hq
          simp at hq
        · have hq' : (x != y) = false := by simpa using hq
          clear hq
          go_wp2
          go_quiet (fail)
          go_wp2
          refine ⟨⟨k + 1, hlt, by go_num, fun i hi => ?_, hbel.drewN _⟩, by simp [intOf]; omega⟩
          by_cases hik : i = k
          · subst hik; rw [Hx.out, Hy.out]; simpa using hq'
          · exact Heq.out i (by omega)
      · obtain rfl : k = l.length := by omega
        go_wp2
        go_ret
        exact ⟨⟨true, rfl, by simp only [true_iff]; exact eqITo_all Hle.out Heq.out⟩, hbel⟩
  · have h1 : ((l.length : Int) != (l'.length : Int)) = true := by simp; omega
    have Hle := Lib.hid hle; clear hle
    have Ha := Lib.hid ha; clear ha
    have Ha' := Lib.hid ha'; clear ha'
    go_enter Try.func56, Try.ntmps56
    go_wp2
    go_ret
    exact ⟨⟨false, rfl, by simp; rintro rfl; exact Hle.out rfl⟩, Below.refl _ _⟩

end Go.Proofs.Ytmkcnoaphoiiaaa
/- Answers as values that read as a list of numbers. -/
namespace Go.Proofs.Ytmkcnoaphoiiaaa
open Go.RowKit

theorem okIn {ys : List Int} {ok : Bool} {w w' : World} {e : Ending} (h : IntsOk ys ok w e w') : ∃ v, e = .returned (.tuple #[v, .bool ok]) ∧ IntsIn w' v ys ∧ Below w.heap.size w w' := by
  obtain ⟨ad, cap, rfl, hc, ho, _, hb⟩ := h
  exact ⟨_, rfl, ho.ints hc, hb⟩

end Go.Proofs.Ytmkcnoaphoiiaaa
/- How arguments are opened: common lemmas. -/
namespace Go.Proofs.Ytmkcnoaphoiiaaa
open Go.ChangeShapes Go.WideShapes Go.ChangeAt Go.RowKit Go.Deep

theorem own : ownKnob Try.prog.godebug = none := by kernel_rfl
theorem laidOut : laidOutB Try.prog = true := by kernel_rfl

section
variable {H : Type} {enc : TypeId × Value → H} {P : Program} {w : World} {base : Nat} {spare : Nat → Bool} {held : Bool}
theorem open_slice_fields {t e : TypeId} {fs : Array Field} {fuel : Nat} {cs : List Value} {x : DataW H × List MemPlace} (ht : P.underlying t = some (.slice e)) (he : P.underlying e = some (.struct fs))
    (hone : oneCellFields P fs = true) (hC : P.cellsOf e = fs.size) (h : DataW.trod enc P w base spare held fuel t cs = some x) :
    (cs = [.slice none 0 0] ∧ x = (.nil, [])) ∨
    ∃ (a : Addr) (len cap m : Nat) (D : Nat → DataW H) (Pl : Nat → List MemPlace), cs = [.slice (some a) len cap] ∧ base ≤ a.block ∧ len ≤ cap ∧ cap ≤ maxLen ∧ m = (if spare a.block then cap else len) ∧
      x = (.slice ((List.range len).map D) ((List.range (m - len)).map fun j => D (len + j)), MemPlace.row a (m * fs.size) ++ (List.range m).flatMap Pl) ∧
      ∀ i, i < m → ∃ (ys : List (DataW H × List MemPlace)) (n : Nat), D i = .agg (ys.map (·.1)) ∧ Pl i = ys.flatMap (·.2) ∧ ys.length = fs.size ∧
        ∀ (j : Nat) (f : Field), fs[j]? = some f → ∃ (v : Value) (y : DataW H × List MemPlace), w.cell? (a.add (i * fs.size + j)) = some v ∧ ys[j]? = some y ∧ DataW.trod enc P w base spare held n f.type [v] = some y := by
  rcases open_slice ht h with h0 | ⟨a, len, cap, m, n, D, Pl, hcs, hb, hl, hm, hmm, hx, hi⟩
  · exact .inl h0
  · refine .inr ⟨a, len, cap, m, D, Pl, hcs, hb, hl, hm, hmm, by rw [hC] at hx; exact hx, fun i him => ?_⟩
    obtain ⟨cs', hc, ht'⟩ := hi i him
    rw [hC] at hc
    obtain ⟨ys, n', hn', hy, hlen, hyl, hf⟩ := DataW.trod_struct he ht'
    obtain ⟨_, hcl, hat⟩ := World.cells?_some hc
    simp only [Prod.mk.injEq] at hy
    refine ⟨ys, n', hy.1, hy.2, hyl, fun j f hj => ?_⟩
    obtain ⟨ho, hk⟩ := hone_of hone j f hj
    have hjl : j < fs.size := (Array.getElem?_eq_some_iff.1 hj).1
    have hcell := hat j hjl
    have hv : cs'[j]? = some (cs'[j]'(by omega)) := List.getElem?_eq_getElem (by omega)
    have h1 := hf j f hj
    rw [ho, hk] at h1
    have hone' : (cs'.drop j).take 1 = [cs'[j]'(by omega)] := by
      rw [List.drop_eq_getElem_cons (by omega)]
      rfl
    rw [hone'] at h1
    have hys : ys[j]? = some (ys[j]'(by omega)) := List.getElem?_eq_getElem (by omega)
    refine ⟨_, _, ?_, hys, h1.trans hys⟩
    rw [← Go.Deep.add_add, hcell, hv]

end

theorem wfI {x : Int} (h : (Lit.int .i64 x).wf = true) : W64 x := by
  have e1 : IntKind.i64.min = -9223372036854775808 := by decide
  have e2 : IntKind.i64.max = 9223372036854775807 := by decide
  unfold W64
  simp [Lit.wf, e1, e2] at h
  omega

/-- A list read off its elements. -/
theorem list_of {α : Type} [Inhabited α] {Q : Nat → α → Prop} : ∀ (n : Nat), (∀ i, i < n → ∃ x, Q i x) → ∃ l : List α, l.length = n ∧ ∀ i (h : i < l.length), Q i l[i]
  | 0, _ => ⟨[], rfl, fun i h => by cases h⟩
  | n + 1, h => by
    obtain ⟨l, hl, hq⟩ := list_of n (fun i hi => h i (by omega))
    obtain ⟨x, hx⟩ := h n (by omega)
    refine ⟨l ++ [x], by simp [hl], fun i hi => ?_⟩
    by_cases hin : i < l.length
    · rw [List.getElem_append_left hin]; exact hq i hin
    · have : i = l.length := by simp at hi; omega
      subst this
      simp only [List.getElem_append_right (Nat.le_refl _), Nat.sub_self, List.getElem_cons_zero]
      rw [hl]; exact hx

theorem addr_add (b o n : Nat) : (⟨b, o, none⟩ : Addr).add n = ⟨b, o + n, none⟩ := by
  unfold Addr.add
  split
  · rename_i h; rw [h]; rfl
  · rfl

end Go.Proofs.Ytmkcnoaphoiiaaa
/- A drawn region walked operation by operation. -/
namespace Go.Proofs.Ytmkcnoaphoiiaaa
open Go.RowKit

theorem take_op {P : Program} {ops : Array Oper} {Q : Exit → Act → World → Prop} {md : Region.Mode} {i : Nat} {d : Tmp} {oi : Oper} {v : Value} {fuel : Nat} {listed : Array Bool} {a : Act} {w : World} (hi : ops[i]? = some oi) (hd : oi.dst = some d)
    (hs : Region.noSelect ops = true) (hf : Region.free md ops listed i = true) (hr : (Region.ready md ops listed).contains i = true)
    (hQ : ∀ c (a : Act) d v w, Q (.panic c) (a.put (some d) v) w → Q (.panic c) a w) (hy : Yields P ops oi v a)
    (h : wpAny P md ops Q fuel (listed.setIfInBounds i true) (a.put (some d) v) w) : wpAny P md ops Q (fuel + 1) listed a w :=
  wpAny_take hi hs hf hr (fun c a w h' => by rw [hd] at h'; exact hQ _ _ _ _ _ h') hy (by rw [hd]; exact h)

theorem with_Q {P : Program} {ops : Array Oper} {Q : Exit → Act → World → Prop} {md : Region.Mode} {fuel : Nat} {listed : Array Bool} {a : Act} {w : World} (hQ : ∀ c (a : Act) d v w, Q (.panic c) (a.put (some d) v) w → Q (.panic c) a w)
    (h : ∀ Q' : Exit → Act → World → Prop, (∀ c (a : Act) d v w, Q' (.panic c) (a.put (some d) v) w → Q' (.panic c) a w) → (∀ a w, Q .normal a w → Q' .normal a w) → wpAny P md ops Q' fuel listed a w) : wpAny P md ops Q fuel listed a w :=
  h Q hQ (fun _ _ h => h)

end Go.Proofs.Ytmkcnoaphoiiaaa
/- A drawn region walked by hand: a run of operations that are not wanted, at once. -/
namespace Go.Proofs.Ytmkcnoaphoiiaaa
open Go.RowKit

/-- What of it hangs on the region alone. -/
def undC (md : Region.Mode) (ops : Array Oper) : List (Nat × Nat) → Array Bool → Bool
  | [], _ => true
  | (i, d) :: r, listed => (match ops[i]? with
      | some oi => (match oi.dst with
          | some d' => Nat.beq d' d && Region.free md ops listed i && (Region.ready md ops listed).contains i
          | none => false)
      | none => false) && undC md ops r (listed.setIfInBounds i true)
/-- What of it hangs on the slots. -/
def undW (ops : Array Oper) : Array Value → List (Nat × Nat) → Bool
  | _, [] => true
  | tm, (i, d) :: r => (match ops[i]? with
      | some oi => !(Region.wanted oi (yielded ops tm))
      | none => false) && undW ops (tm.setIfInBounds d undef) r

theorem take_unds {P : Program} {ops : Array Oper} {Q : Exit → Act → World → Prop} {md : Region.Mode} (hs : Region.noSelect ops = true) (hQ : ∀ c (a : Act) d v w, Q (.panic c) (a.put (some d) v) w → Q (.panic c) a w) {w : World} :
    ∀ (is : List (Nat × Nat)) (fuel : Nat) (listed : Array Bool) (a : Act), undC md ops is listed = true → undW ops a.tmps is = true → wpAny P md ops Q fuel (is.foldl (fun l p => l.setIfInBounds p.1 true) listed) (is.foldl (fun (a : Act) p => a.put (some p.2) undef) a) w → wpAny P md ops Q (fuel + is.length) listed a w
  | [], fuel, listed, a, _, _, h => h
  | (i, d) :: r, fuel, listed, a, hok, hw, h => by
    unfold undC at hok
    unfold undW at hw
    rw [Bool.and_eq_true] at hok hw
    obtain ⟨h1, h2⟩ := hok
    obtain ⟨w1, w2⟩ := hw
    have ih := take_unds hs hQ (w := w) r fuel (listed.setIfInBounds i true) (a.put (some d) undef) h2 w2 h
    cases ho : ops[i]? with
    | none => rw [ho] at h1; cases h1
    | some oi =>
      rw [ho] at h1 w1
      simp only at h1 w1
      cases hd : oi.dst with
      | none => rw [hd] at h1; cases h1
      | some d' =>
        rw [hd] at h1
        simp only [Bool.and_eq_true] at h1
        obtain ⟨⟨g0, g1⟩, g2⟩ := h1
        obtain rfl : d' = d := Nat.eq_of_beq_eq_true g0
        have g3' : Region.wanted oi (yielded ops a.tmps) = false := by simpa using w1
        exact take_op (i := i) (d := d') (v := undef) ho hd hs g1 g2 hQ (Or.inr ⟨g3', rfl⟩) ih

theorem with_sel {P : Program} {ops : Array Oper} {Q : Exit → Act → World → Prop} {md : Region.Mode} {fuel : Nat} {listed : Array Bool} {a : Act} {w : World} (hs : Region.noSelect ops = true) (h : Region.noSelect ops = true → wpAny P md ops Q fuel listed a w) : wpAny P md ops Q fuel listed a w := h hs

end Go.Proofs.Ytmkcnoaphoiiaaa
