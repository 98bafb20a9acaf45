/- The program's postTableOf. -/
import Derived.Test.YtmkcnoaphoiiaaaJQA
import Derived.Test.YtmkcnoaphoiiaaaJ4
namespace Go.Proofs.Ytmkcnoaphoiiaaa
open Go.RowKit

theorem impr_one (T : Tbl) (x : Ltr) : (impr κ1 T x).2 = beat (T 0 x.u) x ∧ (impr κ1 T x).1 0 = upT (T 0) x := by
  unfold impr κ1
  dsimp only
  by_cases hb : beat (T 0 x.u) x = true
  · rw [if_pos ⟨rfl, hb⟩]
    refine ⟨hb.symm, ?_⟩
    funext u
    unfold putT upT
    simp [hb]
  · rw [if_neg (fun h => hb h.2)]
    have hb' := Bool.eq_false_iff.2 hb
    exact ⟨hb'.symm, (upT_no hb').symm⟩

theorem callA (tb eb pb N : Nat) (B0 : Nat) : CallsspreadA κ1 (N : Int) (fun T w => PTab w tb eb pb N (T 0)) (fun p => p = eb) B0 tb := by
  intro T x w h _ hu0 hu1 _ _ _ _
  obtain ⟨e1, e2⟩ := impr_one T x
  refine (improve_any tb eb pb N (T 0) x.u x.t x.r w h ⟨hu0, hu1⟩).mono ?_
  rintro e w' ⟨rfl, h2, h3⟩
  exact ⟨by rw [e1], by show PTab w' tb eb pb N ((impr κ1 T x).1 0); rw [e2]; exact h2, h3⟩

def okT7 (n : Int) (net : List (List Rd)) (f t0 ch : Int) : Bool := okP n net ch && isTown n f && isT t0
/-- What postTableOf gives. -/
def PtOf (n : Int) (net : List (List Rd)) (f t0 ch : Int) (w : World) (e : Ending) (w' : World) : Prop :=
  (okT7 n net f t0 ch = true → ∃ tb eb pb a cap cb tbs hss B, e = .returned (.tuple #[.pointer (some ⟨tb, 0, none⟩), .bool true]) ∧ PTab w' tb eb pb n.toNat (tab1 net ch f t0 0) ∧ PNet w' B pb a cap cb tbs hss net ch ∧ Below w.heap.size w w') ∧
  (okT7 n net f t0 ch = false → e = .returned (.tuple #[.pointer none, .bool false]) ∧ Below w.heap.size w w')
theorem ptOf_no {n : Int} {net : List (List Rd)} {f t0 ch : Int} {w w' : World} {e : Ending} (h : okT7 n net f t0 ch = false) (he : e = .returned (.tuple #[.pointer none, .bool false])) (hb : Below w.heap.size w w') : PtOf n net f t0 ch w e w' :=
  ⟨fun h' => (by rw [h] at h'; cases h'), fun _ => ⟨he, hb⟩⟩
theorem okT7_iff {n : Int} {net : List (List Rd)} {f t0 ch : Int} : okT7 n net f t0 ch = true ↔ okNet n net = true ∧ (0 ≤ ch ∧ ch ≤ 300) ∧ (0 ≤ f ∧ f < n) ∧ (0 ≤ t0 ∧ t0 ≤ 10000) := by
  unfold okT7 okP
  rw [Bool.and_eq_true, Bool.and_eq_true, Bool.and_eq_true, isTown_iff, isT_iff, okDl_iff]
  constructor
  · rintro ⟨⟨⟨a, b⟩, c⟩, d⟩; exact ⟨a, b, c, d⟩
  · rintro ⟨a, b, c, d⟩; exact ⟨⟨⟨a, b⟩, c⟩, d⟩

set_option maxRecDepth 100000 in
set_option maxHeartbeats 2000000 in
theorem ptOf_any (n : Int) (v : Value) (net : List (List Rd)) (f t0 ch : Int) (w : World) (hv : NtIn w v net) (hm : totN net ≤ 1048577) :
    Calls Try.prog 66 #[.int .i64 n, v, .int .i64 f, .int .i64 t0, .int .i64 ch] w (PtOf n net f t0 ch w) := by
  have HC := Lib.hid (pnOf_any n v net ch w hv hm)
  have Hk := Lib.hid (show okT7 n net f t0 ch = (okP n net ch && isTown n f && isT t0) from rfl)
  clear hv hm
  cases hp : okP n net ch with
  | false =>
    have Ho := Lib.hid (show okT7 n net f t0 ch = false by rw [Hk.out, hp]; rfl)
    have Hp := Lib.hid hp; clear hp Hk
    go_enter Try.func66, Try.ntmps66
    go_wp2_with fail
    refine HC.out.mono ?_; rintro e w1 ⟨_, h1⟩
    obtain ⟨rfl, hb⟩ := h1 Hp.out
    clear h1 HC
    go_wp2
    go_ret2
    exact ptOf_no Ho.out rfl hb
  | true =>
    have Hp := Lib.hid hp
    rw [hp, Bool.true_and] at Hk
    clear hp
    go_enter Try.func66, Try.ntmps66
    go_wp2_with fail
    refine HC.out.mono ?_; rintro e w1 ⟨h1, _⟩
    obtain ⟨pb, a, cap, cb, tbs, hss, rfl, hP, hb⟩ := h1 Hp.out
    have HP := Lib.hid hP
    have HB := Lib.hid hb
    clear h1 HC hP hb
    go_wp2_with fail
    refine (hasTown_any n f _).mono ?_; rintro e w' ⟨rfl, rfl⟩
    cases hq : isTown n f with
    | false =>
      have Ho := Lib.hid (show okT7 n net f t0 ch = false by rw [Hk.out, hq]; rfl)
      clear hq Hk
      go_wp2
      go_ret2
      exact ptOf_no Ho.out rfl HB.out
    | true =>
      rw [hq, Bool.true_and] at Hk
      clear hq
      go_wp2_with fail
      refine (isTime_any t0 _).mono ?_; rintro e w2 ⟨rfl, rfl⟩
      cases hq : isT t0 with
      | false =>
        have Ho := Lib.hid (show okT7 n net f t0 ch = false by rw [Hk.out, hq])
        clear hq Hk
        go_wp2
        go_ret2
        exact ptOf_no Ho.out rfl HB.out
      | true =>
        have ho : okT7 n net f t0 ch = true := by rw [Hk.out, hq]
        have Ho := Lib.hid ho
        obtain ⟨o1, ⟨o2, o3⟩, ⟨o4, o5⟩, o6, o7⟩ := okT7_iff.1 ho
        have n8 := (okNet_iff.1 o1).1.2.1
        have O1 := Lib.hid o1
        clear hq Hk ho o1
        obtain ⟨N, rfl⟩ : ∃ N : Nat, n = (N : Int) := ⟨n.toNat, by omega⟩
        have hN : N ≤ 8 := by omega
        go_wp2_with fail
        refine (newTable_any pb N _ hN).mono ?_; rintro e w3 ⟨rfl, hT, hb3⟩
        have HP3 := Lib.hid (HP.out.below hb3)
        have HB3 := Lib.hid hb3
        have hlt := hT.top.lt
        have HS := Lib.hid (spreadA_any (κ := κ1) (n := (N : Int)) (net := net) (ch := ch) (w'.heap.size + 1) (fun T w => PTab w (w'.heap.size + 1) w'.heap.size pb N (T 0)) (fun p => p = w'.heap.size) w'.heap.size w3.heap.size pb a cap cb tbs hss O1.out o2 o3
          (fun T w w' h hb => h.below hb) (fun p hp => by rw [hp]; exact ⟨Nat.le_refl _, by omega⟩) (callA _ _ pb N _) 10001 noT ⟨f, t0, 0⟩ w3 hT HP3.out (Nat.le_refl _) o4 o5 o6 o7 (Int.le_refl _) (by simp only; omega) (by simp only; omega))
        unfold ltV at HS
        clear hT hb3
        go_wp2_with fail
        refine HS.out.mono ?_; rintro e w4 ⟨rfl, hT4, htt⟩
        have hb4 := htt.below (B := w'.heap.size) (fun p hp => by rw [hp]; exact Nat.le_refl _) (by omega)
        have Hfin := Lib.hid (show PtOf (N : Int) net f t0 ch w (.returned (.tuple #[.pointer (some ⟨w'.heap.size + 1, 0, none⟩), .bool true])) w4 from
          ⟨fun _ => ⟨_, _, pb, a, cap, cb, tbs, hss, _, rfl, hT4, HP3.out.below hb4, HB.out.trans ((HB3.out.trans hb4).mono HB.out.size)⟩, fun h => by rw [Ho.out] at h; cases h⟩)
        clear hT4 htt hb4 HS
        go_wp2
        go_ret2
        exact Hfin.out

/-- What the table says of a town. -/
theorem tmO_timeT (net : List (List Rd)) (ch f t0 u : Int) : tmO (tab1 net ch f t0 0 u) = timeT (tab1 net ch f t0) u := rfl

theorem pt_at {n : Int} {net : List (List Rd)} {f t0 ch : Int} (h : okT7 n net f t0 ch = true) {u : Int} (h0 : 0 ≤ u) (hn : u < n) : timeT (tab1 net ch f t0) u = fT (tabA n net ch f t0) u := by
  obtain ⟨o1, ⟨o2, _⟩, o3, o4⟩ := okT7_iff.1 h
  exact IsTab.uniq (tab1_isTab o1 o2 o4) (tabA_isTab o1 o2 o3 o4) h0 hn

theorem tabA_bd {n : Int} {net : List (List Rd)} {f t0 ch : Int} (h : okT7 n net f t0 ch = true) {u : Int} (h0 : 0 ≤ u) (hn : u < n) : -1 ≤ fT (tabA n net ch f t0) u ∧ fT (tabA n net ch f t0) u ≤ 10000 := by
  obtain ⟨o1, ⟨o2, _⟩, o3, o4⟩ := okT7_iff.1 h
  rcases (tabA_isTab o1 o2 o3 o4).2 u h0 hn with e | ⟨k, e⟩
  · omega
  · have := e.time o1 o4; omega

def ptX (n : Int) (net : List (List Rd)) (f t0 ch : Int) : List Int := if okT7 n net f t0 ch = true then tabA n net ch f t0 else []
theorem ptX_no {n : Int} {net : List (List Rd)} {f t0 ch : Int} (h : okT7 n net f t0 ch = false) : ptX n net f t0 ch = [] := by unfold ptX; rw [h]; rfl
theorem ptX_yes {n : Int} {net : List (List Rd)} {f t0 ch : Int} (h : okT7 n net f t0 ch = true) : ptX n net f t0 ch = tabA n net ch f t0 := by unfold ptX; rw [h]; rfl
theorem ptX_len {n : Int} {net : List (List Rd)} {f t0 ch : Int} : (ptX n net f t0 ch).length ≤ 8 := by
  cases h : okT7 n net f t0 ch with
  | false => rw [ptX_no h]; simp
  | true =>
    obtain ⟨o1, ⟨o2, _⟩, o3, o4⟩ := okT7_iff.1 h
    rw [ptX_yes h]
    have := tabA_len (ch := ch) o1 o3 o4
    have := (okNet_iff.1 o1).1.2.1
    omega
def paX (n : Int) (net : List (List Rd)) (f to t0 ch : Int) : Int := if okT7 n net f t0 ch = true ∧ isTown n to = true then fT (tabA n net ch f t0) to else -1
def rchB (T : List Int) (until_ : Int) (i : Nat) : Bool := decide (0 ≤ fT T (i : Int)) && decide (fT T (i : Int) ≤ until_)
def rchTo (T : List Int) (until_ : Int) (k : Nat) : List Int := ((List.range k).filter (rchB T until_)).map fun i : Nat => (i : Int)
def rchX (n : Int) (net : List (List Rd)) (f t0 ch until_ : Int) : List Int := if okT7 n net f t0 ch = true then rchTo (tabA n net ch f t0) until_ n.toNat else []
theorem rchTo_succ (T : List Int) (u : Int) (k : Nat) : rchTo T u (k + 1) = rchTo T u k ++ (if rchB T u k = true then [(k : Int)] else []) := by
  unfold rchTo
  rw [List.range_succ, List.filter_append, List.map_append]
  congr 1
  by_cases h : rchB T u k = true
  · rw [if_pos h]; simp [h]
  · rw [if_neg h]; simp [h]
theorem rchTo_len (T : List Int) (u : Int) (k : Nat) : (rchTo T u k).length ≤ k := by
  unfold rchTo
  rw [List.length_map]
  exact Nat.le_trans (List.length_filter_le _ _) (by simp)
theorem rchX_len {n : Int} {net : List (List Rd)} {f t0 ch u : Int} : (rchX n net f t0 ch u).length ≤ 8 := by
  unfold rchX
  split
  · rename_i h
    obtain ⟨o1, _⟩ := okT7_iff.1 h
    have := (okNet_iff.1 o1).1.2.1
    have := rchTo_len (tabA n net ch f t0) u n.toNat
    omega
  · simp

end Go.Proofs.Ytmkcnoaphoiiaaa
