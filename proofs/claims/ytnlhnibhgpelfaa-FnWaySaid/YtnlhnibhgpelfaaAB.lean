/- RoadsWay of the model. -/
import Derived.Test.YtnlhnibhgpelfaaAA
import Derived.IntWalk
import Derived.BigQuiet
import Derived.Deep.QuietTactic
namespace Go.Proofs.Ytnlhnibhgpelfaa
open Go.RowKit Go.Maps

theorem next_least {n : Int} {l : List Rd} (hz : validR n l = true) {b t d : Int} (hb : 0 ≤ b ∧ b < n) (hd : Dist (edge l) b t d) (hne : t ≠ b) {j : Nat} (hj : (j : Int) < n)
    (hno : ∀ i : Nat, i < j → nearP (edge l) (distN n (edge l) b) t i = false) (hy : nearP (edge l) (distN n (edge l) b) t j = true) : nextT n l b t = j := by
  have hm := next_mem hz hb hd hne
  obtain ⟨⟨h0, h1⟩, h2⟩ := mem_nearL.1 hm
  have hjm : (j : Int) ∈ nearL n (edge l) (distN n (edge l) b) t := mem_nearL.2 ⟨⟨by omega, hj⟩, hy⟩
  have hs : (nearL n (edge l) (distN n (edge l) b) t).Pairwise (fun a b => a < b) := (towns_sorted n).filter _
  have hle : nextT n l b t ≤ j := by
    unfold nextT
    cases h : nearL n (edge l) (distN n (edge l) b) t with
    | nil => rw [h] at hjm; cases hjm
    | cons x xs =>
      rw [h] at hjm hs
      rcases List.mem_cons.1 hjm with e | e
      · simp [e]
      · have := (List.pairwise_cons.1 hs).1 _ e
        simp; omega
  rcases Int.lt_or_le (nextT n l b t) j with hlt | hge
  · have := hno (nextT n l b t).toNat (by omega)
    rw [show (((nextT n l b t).toNat : Nat) : Int) = nextT n l b t by omega, h2] at this
    cases this
  · omega

theorem next_head {n : Int} {l : List Rd} (hz : validR n l = true) {b t d : Int} (hb : 0 ≤ b ∧ b < n) (hd : Dist (edge l) b t d) (hne : t ≠ b) {j : Nat}
    (hno : ∀ i : Nat, i < j → nearP (edge l) (distN n (edge l) b) t i = false) : (j : Int) < n := by
  obtain ⟨⟨h0, h1⟩, h2⟩ := mem_nearL.1 (next_mem hz hb hd hne)
  rcases Int.lt_or_le (j : Int) n with h | h
  · exact h
  · have := hno (nextT n l b t).toNat (by omega)
    rw [show (((nextT n l b t).toNat : Nat) : Int) = nextT n l b t by omega, h2] at this
    cases this

theorem find_cases (l : List Rd) (a b : Int) : ∀ m, m ≤ l.length → (∃ k, k < m ∧ hit a b (l.getD k rd0) = true ∧ noHit l a b k) ∨ noHit l a b m
  | 0, _ => .inr (fun j hj => by omega)
  | m + 1, h => by
    rcases find_cases l a b m (by omega) with ⟨k, h1, h2, h3⟩ | h1
    · exact .inl ⟨k, by omega, h2, h3⟩
    · cases hh : hit a b (l.getD m rd0) with
      | true => exact .inl ⟨m, by omega, hh, h1⟩
      | false =>
        refine .inr fun j hj => ?_
        by_cases e : j = m
        · subst e; exact hh
        · exact h1 j (by omega)

theorem l1Find_at (v : Value) (l : List Rd) (a b : Int) (w : World) (hv : RoadsIn w v l) (hl : l.length ≤ 1048576) {k : Nat} (hk : k < l.length) (hh : hit a b (l.getD k rd0) = true) (hn : noHit l a b k) :
    Calls Try.prog 55 #[v, .int .i64 a, .int .i64 b] w fun e w' => e = .returned (.int .i64 k) ∧ w' = w := by
  refine (l1Find_any v l a b w hv hl).mono ?_
  rintro e w' ⟨h, rfl⟩
  rcases h with ⟨k', hk', hh', _, hn', rfl⟩ | ⟨_, hno, rfl⟩
  · obtain rfl : k' = k := by
      rcases Nat.lt_trichotomy k' k with h | h | h
      · have := hn k' h; rw [hh'] at this; cases this
      · exact h
      · have := hn' k h; rw [hh] at this; cases this
    exact ⟨rfl, rfl⟩
  · have := hno k hk; rw [hh] at this; cases this

theorem l1Find_no (v : Value) (l : List Rd) (a b : Int) (w : World) (hv : RoadsIn w v l) (hl : l.length ≤ 1048576) (hn : noHit l a b l.length) :
    Calls Try.prog 55 #[v, .int .i64 a, .int .i64 b] w fun e w' => e = .returned (.int .i64 (-1)) ∧ w' = w := by
  refine (l1Find_any v l a b w hv hl).mono ?_
  rintro e w' ⟨h, rfl⟩
  rcases h with ⟨k', hk', hh', _, hn', rfl⟩ | ⟨_, hno, rfl⟩
  · have := hn k' hk'; rw [hh'] at this; cases this
  · exact ⟨rfl, rfl⟩

/-- In the search for the next town. -/
def NextRel (n : Int) (l : List Rd) (b : Int) (p : Nat) (wr : World) (i : Value) (wq : World) : Prop :=
  ∃ j : Nat, i = .int .i64 j ∧ (∀ i : Nat, i < j → nearP (edge l) (distN n (edge l) b) p i = false) ∧ Below wr.heap.size wr wq

theorem no_next {g : Int → Int → Option Int} {f : Int → Option Int} {p : Int} {j : Nat} (h : ∀ i : Nat, i < j → nearP g f p i = false) (hj : nearP g f p j = false) : ∀ i : Nat, i < j + 1 → nearP g f p i = false := fun i hi => by
  by_cases e : i = j
  · subst e; exact hj
  · exact h i (by omega)

set_option maxRecDepth 100000 in
set_option maxHeartbeats 800000 in
theorem specWay_any (n : Int) (v : Value) (l : List Rd) (a b : Int) (w : World) (hv : RoadsIn w v l) (hl : l.length ≤ 1048576) :
    Calls Try.prog 39 #[.int .i64 n, v, .int .i64 a, .int .i64 b] w (WayOut (wayOf n l a b) (wayOk n l a b) w) := by
  have hf := specFar_any n v l a b w hv hl
  have Hf := Lib.hid hf; clear hf
  obtain ⟨i0, hi, hz0, hz1, hz2⟩ := info_parts Try.info3
  by_cases hzr : validR n l = true ∧ reachB n (edge l) a b = true
  · obtain ⟨hz, hr⟩ := hzr
    have hk : wayOk n l a b = true := by unfold wayOk; rw [hz, hr]; rfl
    have hx : wayOf n l a b = wayL n l b 800 a := by unfold wayOf; rw [hk]; rfl
    rw [hk, hx]
    have hp := far_pos hz hr
    obtain ⟨ha, hb, d0, hD⟩ := reach_in hz hr
    obtain ⟨ha0, ha1⟩ := ha
    obtain ⟨hb0, hb1⟩ := hb
    have hdb := (edges_ok hz).dist hD
    have hn8 := (edges_ok hz).n8
    have HD := Lib.hid hD; clear hD
    have Hz := Lib.hid hz; clear hz hr hk hx
    have Hv := Lib.hid hv; clear hv
    generalize farOf n l a b = fv at *
    have hnp : ¬ fv < 0 := by omega
    have hdf : decide (fv < 0) = false := by simpa using hnp
    go_enter Try.func39, Try.ntmps39
    go_wp2_with fail
    refine (Hf.out).mono ?_
    rintro e w1 ⟨rfl, hbel⟩
    go_wp2_with fail
    refine (l1Far_any n v l b _ (Hv.out.below hbel) Hz.out hb0 hb1).mono ?_
    rintro e w3 ⟨fb, fc, o, rfl, holen, hoc, _, hfl, hint, hfo, hbel2⟩
    have hbel3 := hbel.trans (hbel2.mono hbel.size)
    have h3s := hbel3.size
    have Hint := Lib.hid hint; clear hint
    have Hfo := Lib.hid hfo; clear hfo
    have hone := own_one w3 w3.heap.size a (Nat.le_refl _)
    have hb4 : Below w3.heap.size w3 (w3.alloc (.cells #[.int .i64 a] 3)) := (Below.refl _ w3).alloc (Nat.le_refl _) _
    have Hv3 := Lib.hid (Hv.out.below hbel3)
    go_wp2
    go_loopg [2, 11] 800 (fun gk tv u wr => StepRel n l a b w3 gk tv u wr)
    case atStart => exact ⟨[], a, d0, rfl, hone, rfl, HD.out, ha0, ha1, by omega, rfl, hb4⟩
    case round =>
      obtain ⟨xs, t, d, rfl, hown, hway, hd, ht0, ht1, hdk, hxk, hbelr⟩ := hrel
      have Hway := Lib.hid hway; clear hway
      by_cases htb : t = b
      · subst htb
        have hwe := Hway.out
        rw [wayL_end] at hwe
        have Hwe := Lib.hid hwe; clear hwe Hway
        have hlen : (xs ++ [t]).length = xs.length + 1 := by simp
        obtain ⟨g, cap, rfl, hgb, hgl, hkc, hia, hroom⟩ := own_ints hown hlen (by omega)
        have Hia := Lib.hid hia; clear hia
        have Hroom := Lib.hid hroom; clear hroom hown
        go_wp2
        go_ret2
        refine ⟨some ⟨g, 0, none⟩, cap, by rw [Hwe.out, hlen]; rfl, by rw [Hwe.out, hlen]; exact hkc, fun _ => ⟨g, rfl, hgl, by rw [Hwe.out]; exact Hia.out, by rw [Hwe.out, hlen]; exact Hroom.out⟩, fun j hj => by obtain ⟨o, ho⟩ := hj; cases ho; exact ⟨Nat.le_trans h3s hgb, hgl⟩, hbel3.trans (hbelr.mono h3s)⟩
      · obtain ⟨⟨hx0, hx1⟩, d', hd', hlt', hd0'⟩ := next_dist Hz.out ⟨hb0, hb1⟩ hd htb
        obtain ⟨kk, rfl⟩ : ∃ kk, gk = kk + 1 := ⟨gk - 1, by omega⟩
        have hwc := Hway.out
        rw [wayL_cons kk htb] at hwc
        have Hwc := Lib.hid hwc; clear hwc Hway
        have hfa := fun (j : Nat) (hno : ∀ i : Nat, i < j → nearP (edge l) (distN n (edge l) b) t i = false) => next_head Hz.out ⟨hb0, hb1⟩ hd htb hno
        have hle := fun (j : Nat) (hj : (j : Int) < n) (hno : ∀ i : Nat, i < j → nearP (edge l) (distN n (edge l) b) t i = false) (hy : nearP (edge l) (distN n (edge l) b) t j = true) => next_least Hz.out ⟨hb0, hb1⟩ hd htb hj hno hy
        have Hfa := Lib.hid hfa; clear hfa
        have Hle := Lib.hid hle; clear hle
        have hda := distN_of ⟨hb0, hb1⟩ hd
        have hdbd := (edges_ok Hz.out).dist hd
        have Hd' := Lib.hid hd'; clear hd'
        obtain ⟨p, rfl⟩ : ∃ p : Nat, t = p := ⟨t.toNat, by omega⟩
        have hpo : p < o.length := by omega
        have hoa : o.getD p 0 = d := by rw [← fO_nat o hpo, Hfo.out _ ht0 ht1, distO_some.2 hd]; rfl
        have hround : ∀ j : Nat, (j : Int) < n → (∀ m, edge l p j = some m → ∃ dj, o.getD j 0 = dj ∧ 0 ≤ dj ∧ dj ≤ 792 ∧ 1 ≤ m ∧ m ≤ 99 ∧ (p : Int) ≠ j ∧ nearP (edge l) (distN n (edge l) b) p j = decide (dj + m = d)) ∧ (edge l p j = none → nearP (edge l) (distN n (edge l) b) p j = false) := fun j hj => by
          constructor
          · intro m hm
            obtain ⟨dj, hdj⟩ := near_dist Hz.out hd hm
            have h1 := (edges_ok Hz.out).dist hdj
            have h2 := edge_miles Hz.out hm
            refine ⟨dj, ?_, h1.1, h1.2, h2.2.2.2.2.1, h2.2.2.2.2.2.1, h2.2.2.2.2.2.2, ?_⟩
            · rw [← fO_nat o (by omega), Hfo.out _ (by omega) hj, distO_some.2 hdj]; rfl
            · rw [nearP_some hm, distN_of ⟨hb0, hb1⟩ hdj, hda]; rfl
          · intro h; unfold nearP; rw [h]
        have Hround := Lib.hid hround; clear hround hd hda
        have Hoa := Lib.hid hoa; clear hoa
        have hpb : ((p : Int) != b) = true := by simp [htb]
        have hbz := hbelr.size
        have Hv4 := Lib.hid (Hv3.out.below hbelr)
        have Ho4 := Lib.hid (Hint.out.below hbelr hfl)
        go_wp2
        obtain ⟨wo, rfl⟩ : ∃ wo : World, wo = wr := ⟨_, rfl⟩
        go_loopw [12] (fun i wq => NextRel n l b p wo i wq) (fun i _ => (n - intOf i).toNat)
        case atStart => exact ⟨0, rfl, fun i hi => by omega, Below.refl _ _⟩
        case round =>
          obtain ⟨j, rfl, hno, hbq⟩ := hrel
          have hjn := Hfa.out j hno
          have hjo : j < o.length := by omega
          have hqz := hbq.size
          have hvq := Hv4.out.below hbq
          have hoq := Ho4.out.below hbq (by omega)
          have cj := hoq j hjo
          have cp := hoq p hpo
          rw [Nat.zero_add] at cj cp
          rw [Hoa.out] at cp
          have Hoq := Lib.hid hoq; clear hoq
          obtain ⟨hr1, hr2⟩ := Hround.out j hjn
          have Hno := Lib.hid hno; clear hno
          have Hvq := Lib.hid hvq; clear hvq
          have hj0 : (0 : Int) ≤ (j : Int) := Int.natCast_nonneg _
          have hjo' : (j : Int) < (o.length : Int) := by omega
          have hpo' : (p : Int) < (o.length : Int) := by omega
          rcases find_cases l p j l.length (Nat.le_refl _) with ⟨ki, hki, hh, hni⟩ | hni
          · have hee := edge_some_of hki hni hh
            obtain ⟨dj, hoj, dj0, dj1, m1, m9, hpj, hnpj⟩ := hr1 _ hee
            obtain ⟨ad, cap, hve, har⟩ := Hvq.out
            obtain ⟨bb, oo, hade, hbb, hrw⟩ := har (by intro h; simp [h] at hki)
            subst hve hade
            obtain ⟨c0, c1, c2⟩ := hrw ki hki
            rw [hoj] at cj
            have hcall := fun (q : Nat) => l1Find_at _ l p j _ (Hvq.out.below ((Below.refl _ wr).drewN q)) hl hki hh hni
            have Hcall := Lib.hid hcall; clear hcall
            generalize hme : (l.getD ki rd0).m = m at *
            have hjp : ¬ (j : Int) = (p : Int) := fun h => hpj h.symm
            have hne : ((j : Int) == (p : Int)) = false := by simpa using hjp
            have hki' : (ki : Int) < (l.length : Int) := by omega
            have hki0 : (0 : Int) ≤ (ki : Int) := Int.natCast_nonneg _
            have hk2 : decide ((ki : Int) < 0) = false := by simp
            have Hnpj := Lib.hid hnpj; clear hnpj
            clear hrw har hme hee hoj c0 c1 hh hni hr1 hr2
            by_cases hmd : m + dj = d
            · have hny : nearP (edge l) (distN n (edge l) b) p j = true := by rw [Hnpj.out]; simp; omega
              have hnx := Hle.out j hjn Hno.out hny
              have Hnx := Lib.hid hnx; clear hnx hny
              have hbn : ((m + dj) != d) = false := by simp [hmd]
              clear hmd
              have hsum : IntKind.i64.wrap (m + dj) = m + dj := IntWalk.i64_in _ (by omega)
              go_wp2
              go_quiet ((go_at_call 55; exact Calls.quiet_of_same (Hcall.out _)))
              clear hsum
              have hbw := hbq.drewN nq
              generalize wr.drewN nq = wz at *
              have hown4 := own_below hown hbw
              have hbel5 := hbelr.trans (hbw.mono hbz)
              have h5s := hbel5.size
              go_wp2_with (at_builtin; refine wpList_append_own _ rfl _ _ 37 rfl w3.heap.size 3 i0 (.int .i64 0) 1 8 Try.underlying37 hi hz0 hz1 hz2 rfl (by decide) _ _ _ rfl (hown4.alloc _) ⟨wz.heap.size, 0, none⟩ 1 1 [.int .i64 j] rfl rfl (cell_one_new _ _ _) (by simp [Value.oneCell']) (by unfold maxLen; omega) (by omega) (by simp; omega) ?_; intro v' w5 hown' hgrow _)
              have hb6 : Below w3.heap.size w3 w5 := (hbel5.alloc hbel5.size _).grown hgrow (by simp; omega) (fun j hj => (hown4.lt j hj).1)
              have hown6 : w5.ownsRow w3.heap.size 3 1 v' ((xs ++ [(p : Int)]).length + 1) (((xs ++ [(p : Int)]) ++ [(j : Int)]).map (Value.int .i64)) := by
                rw [List.map_append, List.length_append]; exact hown'
              go_roundg kk
              case measure => omega
              case rel => exact ⟨xs ++ [(p : Int)], j, d', rfl, hown6, by rw [Hwc.out, Hnx.out]; simp, by rw [← Hnx.out]; exact Hd'.out, by omega, hjn, by omega, by simp; omega, hb6⟩
            · have hny : nearP (edge l) (distN n (edge l) b) p j = false := by rw [Hnpj.out]; simp; omega
              have hno2 := no_next Hno.out hny
              have Hno2 := Lib.hid hno2; clear hno2 hny
              have hbn : ((m + dj) != d) = true := by simp [hmd]
              clear hmd
              have hsum : IntKind.i64.wrap (m + dj) = m + dj := IntWalk.i64_in _ (by omega)
              go_wp2
              go_quiet ((go_at_call 55; exact Calls.quiet_of_same (Hcall.out _)))
              go_wp2
              clear hsum
              refine ⟨⟨j + 1, by go_num, Hno2.out, hbq.drewN _⟩, by simp [intOf]; omega⟩
          · have hnpj := hr2 (edge_none_of hni)
            have hno2 := no_next Hno.out hnpj
            have Hno2 := Lib.hid hno2; clear hno2 hnpj hr1 hr2
            by_cases hjp : j = p
            · subst hjp
              clear hni
              go_wp2
              go_quiet (fail)
              go_wp2
              refine ⟨⟨j + 1, by go_num, Hno2.out, hbq.drewN _⟩, by simp [intOf]; omega⟩
            · have hjp' : ¬ (j : Int) = (p : Int) := by omega
              have hne : ((j : Int) == (p : Int)) = false := by simpa using hjp'
              have hcall := fun (q : Nat) => l1Find_no _ l p j _ (Hvq.out.below ((Below.refl _ wr).drewN q)) hl hni
              have Hcall := Lib.hid hcall; clear hcall hni
              have hk2 : decide ((-1 : Int) < 0) = true := by decide
              go_wp2
              go_quiet ((go_at_call 55; exact Calls.quiet_of_same (Hcall.out _)))
              go_wp2
              refine ⟨⟨j + 1, by go_num, Hno2.out, hbq.drewN _⟩, by simp [intOf]; omega⟩

  · have hor : validR n l = false ∨ reachB n (edge l) a b = false := by
      cases hz : validR n l with
      | false => exact .inl rfl
      | true =>
        cases hr : reachB n (edge l) a b with
        | false => exact .inr rfl
        | true => exact absurd ⟨hz, hr⟩ hzr
    have hk : wayOk n l a b = false := by
      unfold wayOk
      rcases hor with h | h
      · rw [h]; rfl
      · rw [h]; simp
    have hx : wayOf n l a b = [] := by unfold wayOf; rw [hk]; rfl
    rw [hk, hx]
    have hfn := far_neg hor
    rw [hfn] at Hf
    clear hzr hor hfn hv hk hx
    go_enter Try.func39, Try.ntmps39
    go_wp2_with fail
    refine (Hf.out).mono ?_
    rintro e w1 ⟨rfl, hb⟩
    go_wp2
    go_ret2
    exact ⟨_, _, rfl, Nat.zero_le _, fun h => absurd rfl h, fun j hj => by obtain ⟨o, ho⟩ := hj; cases ho; exact ⟨hb.size, by simp⟩, hb.alloc hb.size _⟩

end Go.Proofs.Ytnlhnibhgpelfaa
