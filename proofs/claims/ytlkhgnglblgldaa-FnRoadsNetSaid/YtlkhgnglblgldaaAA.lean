/- RoadsWay: the way as a list; the program's. -/
import Derived.Test.YtlkhgnglblgldaaY
import Derived.Test.YtlkhgnglblgldaaZ
namespace Go.Proofs.Ytlkhgnglblgldaa
open Go.RowKit Go.Maps

theorem near_ex {n : Int} {l : List Rd} (hz : validR n l = true) {b t d : Int} (hb : 0 ≤ b ∧ b < n) (hd : Dist (edge l) b t d) (hne : t ≠ b) : ∃ z, z ∈ nearL n (edge l) (distN n (edge l) b) t := by
  have hs : Sym (edge l) := fun x y => edge_symm l x y
  have h := (hd.symm hs)
  rcases h.1.uncons with ⟨e, _⟩ | ⟨z, m, d', hm, hw, rfl⟩
  · exact absurd e hne
  · have hz' : Dist (edge l) z b d' := ⟨hw, fun d2 h2 => by have := h.2 _ (Way.cons hm h2); omega⟩
    have h3 := distN_of hb (hz'.symm hs)
    have h4 := distN_of hb hd
    have hbd := edge_miles hz hm
    refine ⟨z, mem_nearL.2 ⟨⟨hbd.2.2.1, hbd.2.2.2.1⟩, nearP_iff.2 ⟨m, hm, ?_⟩⟩⟩
    rw [h3, h4]; simp; omega

/-- The next town. -/
noncomputable def nextT (n : Int) (l : List Rd) (b t : Int) : Int := (nearL n (edge l) (distN n (edge l) b) t).headD 0

theorem next_mem {n : Int} {l : List Rd} (hz : validR n l = true) {b t d : Int} (hb : 0 ≤ b ∧ b < n) (hd : Dist (edge l) b t d) (hne : t ≠ b) : nextT n l b t ∈ nearL n (edge l) (distN n (edge l) b) t := by
  obtain ⟨z, hz'⟩ := near_ex hz hb hd hne
  unfold nextT
  cases h : nearL n (edge l) (distN n (edge l) b) t with
  | nil => rw [h] at hz'; cases hz'
  | cons x xs => simp

theorem next_dist {n : Int} {l : List Rd} (hz : validR n l = true) {b t d : Int} (hb : 0 ≤ b ∧ b < n) (hd : Dist (edge l) b t d) (hne : t ≠ b) : (0 ≤ nextT n l b t ∧ nextT n l b t < n) ∧ ∃ d', Dist (edge l) b (nextT n l b t) d' ∧ d' < d ∧ 0 ≤ d' := by
  obtain ⟨h1, h2⟩ := mem_nearL.1 (next_mem hz hb hd hne)
  obtain ⟨m, hm, he⟩ := nearP_iff.1 h2
  obtain ⟨d', hd'⟩ := near_dist hz hd hm
  rw [distN_of hb hd, distN_of hb hd'] at he
  simp at he
  have := edge_miles hz hm
  exact ⟨h1, d', hd', by omega, hd'.nonneg (edges_ok hz).pos⟩

/-- The way, k towns on. -/
noncomputable def wayL (n : Int) (l : List Rd) (b : Int) : Nat → Int → List Int
  | 0, t => [t]
  | k + 1, t => if t = b then [t] else t :: wayL n l b k (nextT n l b t)

theorem wayL_end (n : Int) (l : List Rd) (b : Int) (k : Nat) : wayL n l b k b = [b] := by
  cases k <;> simp [wayL]

theorem wayL_cons {n : Int} {l : List Rd} {b t : Int} (k : Nat) (h : t ≠ b) : wayL n l b (k + 1) t = t :: wayL n l b k (nextT n l b t) := by
  show (if t = b then [t] else t :: wayL n l b k (nextT n l b t)) = _
  rw [if_neg h]

/-- The whole way, and whether there is one. -/
noncomputable def wayOk (n : Int) (l : List Rd) (a b : Int) : Bool := validR n l && reachB n (edge l) a b
noncomputable def wayOf (n : Int) (l : List Rd) (a b : Int) : List Int := if wayOk n l a b = true then wayL n l b 800 a else []

/-- What RoadsWay gives. -/
def WayOut (xs : List Int) (ok : Bool) (w : World) (e : Ending) (w' : World) : Prop :=
  ∃ (ad : Option Addr) (cap : Nat), e = .returned (.tuple #[.slice ad xs.length cap, .bool ok]) ∧ xs.length ≤ cap ∧ OwnI w' ad xs ∧ (∀ j, inBlk ad j → w.heap.size ≤ j ∧ j < w'.heap.size) ∧ Below w.heap.size w w'

/-- Between two steps: xs so far, at t, d from the end. -/
def StepRel (n : Int) (l : List Rd) (a b : Int) (w : World) (k : Nat) (tv v : Value) (wr : World) : Prop :=
  ∃ (xs : List Int) (t d : Int), tv = .int .i64 t ∧ wr.ownsRow w.heap.size 3 1 v (xs.length + 1) ((xs ++ [t]).map (Value.int .i64)) ∧ wayL n l b 800 a = xs ++ wayL n l b k t ∧ Dist (edge l) b t d ∧ 0 ≤ t ∧ t < n ∧ d ≤ (k : Int) ∧ xs.length + k = 800 ∧ Below w.heap.size w wr

theorem own_one (w : World) (B : Nat) (a : Int) (hB : B ≤ w.heap.size) : (w.alloc (.cells #[.int .i64 a] 3)).ownsRow B 3 1 (.slice (some ⟨w.heap.size, 0, none⟩) 1 1) 1 [.int .i64 a] :=
  ⟨by simp, .inr ⟨w.heap.size, 1, #[.int .i64 a], rfl, hB, heap_alloc_new w _, Nat.le_refl _, by unfold maxLen; omega, rfl, by simp⟩⟩

theorem own_below {w w' : World} {B k : Nat} {v : Value} {xs : List Value} (h : w.ownsRow B 3 1 v k xs) (hb : Below w.heap.size w w') : w'.ownsRow B 3 1 v k xs := by
  obtain ⟨h1, h2⟩ := h
  refine ⟨h1, ?_⟩
  rcases h2 with h0 | ⟨g, cap, cur, rfl, hg, hh, r⟩
  · exact .inl h0
  · exact .inr ⟨g, cap, cur, rfl, hg, (hb.block g (Array.getElem?_eq_some_iff.1 hh).1).trans hh, r⟩

set_option maxRecDepth 100000 in
set_option maxHeartbeats 800000 in
theorem way2_any (n : Int) (v : Value) (l : List Rd) (a b : Int) (w : World) (hv : RoadsIn w v l) (hl : l.length ≤ 1048576) (hw : RdWf l) (wa : W64 a) (wb : W64 b) :
    Calls Try.prog 29 #[.int .i64 n, v, .int .i64 a, .int .i64 b] w (WayOut (wayOf n l a b) (wayOk n l a b) w) := by
  have hc := networkOf_any n v l w hv hl hw
  have Hc := Lib.hid hc; clear hc hv
  obtain ⟨i0, hi, hz0, hz1, hz2⟩ := info_parts Try.info3
  cases hz : validR n l with
  | false =>
    have hk : wayOk n l a b = false := by unfold wayOk; rw [hz]; rfl
    have hx : wayOf n l a b = [] := by unfold wayOf; rw [hk]; rfl
    rw [hk, hx]
    have Hz := Lib.hid hz; clear hz hk hx
    go_enter Try.func29, Try.ntmps29
    go_wp2_with fail
    refine (Hc.out).mono ?_
    rintro e w1 ⟨_, h1⟩
    obtain ⟨rfl, hb⟩ := h1 Hz.out
    clear h1
    go_wp2
    go_ret2
    exact ⟨_, _, rfl, Nat.zero_le _, fun h => absurd rfl h, fun j hj => by obtain ⟨o, ho⟩ := hj; cases ho; exact ⟨hb.size, by simp⟩, hb.alloc hb.size _⟩
  | true =>
    cases hr : reachB n (edge l) a b with
    | false =>
      have hk : wayOk n l a b = false := by unfold wayOk; rw [hz, hr]; rfl
      have hx : wayOf n l a b = [] := by unfold wayOf; rw [hk]; rfl
      rw [hk, hx]
      have Hz := Lib.hid hz; clear hz hk hx
      have Hr := Lib.hid hr; clear hr
      go_enter Try.func29, Try.ntmps29
      go_wp2_with fail
      refine (Hc.out).mono ?_
      rintro e w1 ⟨h1, _⟩
      obtain ⟨nb, bs, cnt, rfl, hnet, hcn, _, _, hb⟩ := h1 Hz.out
      clear h1
      go_wp2_with fail
      refine (reaches_any n _ a b nb bs cnt _ hnet (edges_ok Hz.out) wa wb hcn).mono ?_
      rintro e w2 ⟨rfl, hb2⟩
      rw [Hr.out]
      have hbel := hb.trans (hb2.mono hb.size)
      clear hb hb2 hnet
      go_wp2
      go_ret2
      exact ⟨_, _, rfl, Nat.zero_le _, fun h => absurd rfl h, fun j hj => by obtain ⟨o, ho⟩ := hj; cases ho; exact ⟨hbel.size, by simp⟩, hbel.alloc hbel.size _⟩
    | true =>
      have hk : wayOk n l a b = true := by unfold wayOk; rw [hz, hr]; rfl
      have hx : wayOf n l a b = wayL n l b 800 a := by unfold wayOf; rw [hk]; rfl
      rw [hk, hx]
      obtain ⟨ha, hb', d0, hD⟩ := reach_in hz hr
      obtain ⟨ha0, ha1⟩ := ha
      have hdb := (edges_ok hz).dist hD
      have hn8 := (edges_ok hz).n8
      have HD := Lib.hid hD; clear hD
      have Hz := Lib.hid hz; clear hz hk hx
      have Hr := Lib.hid hr; clear hr
      go_enter Try.func29, Try.ntmps29
      go_wp2_with fail
      refine (Hc.out).mono ?_
      rintro e w1 ⟨h1, _⟩
      obtain ⟨nb, bs, cnt, rfl, hnet, hcn, _, _, hb⟩ := h1 Hz.out
      clear h1
      go_wp2_with fail
      refine (reaches_any n _ a b nb bs cnt _ hnet (edges_ok Hz.out) wa wb hcn).mono ?_
      rintro e w2 ⟨rfl, hb2⟩
      rw [Hr.out]
      have hnet2 := hnet.below hb2
      have hbel2 := hb.trans (hb2.mono hb.size)
      go_wp2_with fail
      refine (distances_any n _ b nb bs cnt _ hnet2 (edges_ok Hz.out) wb hcn).mono ?_
      rintro e w3 ⟨F, c, rfl, _, _, hF, hb3⟩
      have hnet3 := hnet2.below hb3
      have hbel3 := hbel2.trans (hb3.mono hbel2.size)
      clear hnet hnet2 hb hb2 hb3
      have hone := own_one w3 w3.heap.size a (Nat.le_refl _)
      have hb4 : Below w3.heap.size w3 (w3.alloc (.cells #[.int .i64 a] 3)) := (Below.refl _ w3).alloc (Nat.le_refl _) _
      have hFl := hF.lt
      have h3s := hbel3.size
      have Hnet := Lib.hid hnet3; clear hnet3
      have HF := Lib.hid hF; clear hF
      go_wp2
      go_loopg [13, 14] 800 (fun gk u tv wr => StepRel n l a b w3 gk tv u wr)
      case atStart => exact ⟨[], a, d0, rfl, hone, rfl, HD.out, ha0, ha1, by omega, rfl, hb4⟩
      case round =>
        obtain ⟨xs, t, d, rfl, hown, hway, hd, ht0, ht1, hdk, hxk, hbel⟩ := hrel
        have Hway := Lib.hid hway; clear hway
        by_cases htb : t = b
        · subst htb
          have hwe := Hway.out
          rw [wayL_end] at hwe
          have Hwe := Lib.hid hwe; clear hwe Hway
          have hlen : (xs ++ [t]).length = xs.length + 1 := by simp
          obtain ⟨g, cap, rfl, hgb, hgl, hkc, hia, hroom⟩ := own_ints hown hlen (by omega)
          have Hia := Lib.hid hia; clear hia
          have Hroom := Lib.hid hroom; clear hroom hown
          go_wp2
          go_ret2
          refine ⟨some ⟨g, 0, none⟩, cap, by rw [Hwe.out, hlen]; rfl, by rw [Hwe.out, hlen]; exact hkc, fun _ => ⟨g, rfl, hgl, by rw [Hwe.out]; exact Hia.out, by rw [Hwe.out, hlen]; exact Hroom.out⟩, fun j hj => by obtain ⟨o, ho⟩ := hj; cases ho; exact ⟨Nat.le_trans h3s hgb, hgl⟩, hbel3.trans (hbel.mono h3s)⟩
        · obtain ⟨⟨hx0, hx1⟩, d', hd', hlt', hd0'⟩ := next_dist Hz.out hb' hd htb
          have hmem := next_mem Hz.out hb' hd htb
          have hnx : (nearL n (edge l) (distN n (edge l) b) t).getD 0 0 = nextT n l b t := by
            unfold nextT
            cases nearL n (edge l) (distN n (edge l) b) t <;> rfl
          have hpos : 0 < (nearL n (edge l) (distN n (edge l) b) t).length := List.length_pos_of_mem hmem
          obtain ⟨kk, rfl⟩ : ∃ kk, gk = kk + 1 := ⟨gk - 1, by omega⟩
          have hwc := Hway.out
          rw [wayL_cons kk htb] at hwc
          have Hwc := Lib.hid hwc; clear hwc Hway hmem
          have Hnx := Lib.hid hnx; clear hnx
          have Hd' := Lib.hid hd'; clear hd' hd
          have hnt : (t == b) = false := by simpa using htb
          generalize hxe : nextT n l b t = x at *
          generalize hne : nearL n (edge l) (distN n (edge l) b) t = L at *
          have Hne := Lib.hid hne; clear hne hxe
          go_wp2_with fail
          refine (nearer_any n (edge l) (distN n (edge l) b) t nb bs cnt F c wr (Hnet.out.below hbel) (edges_ok Hz.out) ht0 ht1 hcn (HF.out.below hbel hFl) (fun x => distN_get Hz.out b x)).mono ?_
          rintro e w4 ⟨g2, cap2, rfl, hown2, hb5⟩
          rw [Hne.out] at hown2
          have hc0 := own_int (_k := 0) hown2 0 hpos
          rw [Nat.zero_add, Hnx.out] at hc0
          have hown4 := own_below hown hb5
          have hpos' : (0 : Int) < (L.length : Int) := by omega
          have hbel5 := hbel.trans (hb5.mono hbel.size)
          rw [Hne.out]
          clear hown2 hown
          go_wp2_with (at_builtin; refine wpList_append_own _ rfl _ _ 26 rfl w3.heap.size 3 i0 (.int .i64 0) 1 8 Try.underlying26 hi hz0 hz1 hz2 rfl (by decide) _ _ _ rfl (hown4.alloc _) ⟨w4.heap.size, 0, none⟩ 1 1 [.int .i64 x] rfl rfl (cell_one_new _ _ _) (by simp [Value.oneCell']) (by unfold maxLen; omega) (by omega) (by have := hbel5.size; simp; omega) ?_; intro v' w5 hown' hgrow _)
          have hb6 : Below w3.heap.size w3 w5 := (hbel5.alloc hbel5.size _).grown hgrow (by have := hbel5.size; simp; omega) (fun j hj => (hown4.lt j hj).1)
          have hown6 : w5.ownsRow w3.heap.size 3 1 v' ((xs ++ [t]).length + 1) (((xs ++ [t]) ++ [x]).map (Value.int .i64)) := by
            rw [List.map_append, List.length_append]; exact hown'
          go_roundg kk
          case measure => omega
          case rel => exact ⟨xs ++ [t], x, d', rfl, hown6, by rw [Hwc.out]; simp, Hd'.out, hx0, hx1, by omega, by simp; omega, hb6⟩

end Go.Proofs.Ytlkhgnglblgldaa
