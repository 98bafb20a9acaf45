/- The model's number of shortest ways. -/
import Derived.Test.YtlkhgnglblgldaaV
import Derived.IntWalk
import Derived.BigQuiet
import Derived.Deep.QuietTactic
namespace Go.Proofs.Ytlkhgnglblgldaa
open Go.RowKit Go.Maps

theorem near_dist {n : Int} {l : List Rd} (hz : validR n l = true) {a b j m d : Int} (hd : Dist (edge l) b a d) (he : edge l a j = some m) : ∃ dj, Dist (edge l) b j dj :=
  dist_exists (edges_ok hz).pos ⟨_, hd.1.trans (Way.cons he (.nil j))⟩

theorem distN_of {n : Int} {l : List Rd} {b x d : Int} (hb : 0 ≤ b ∧ b < n) (hd : Dist (edge l) b x d) : distN n (edge l) b x = some d := by
  unfold distN; rw [if_pos hb]; exact distO_some.2 hd

def L1Rel (n : Int) (l : List Rd) (f : Int → Option Int) (k : Nat) (a : Int) (w : World) (u i : Value) (wr : World) : Prop :=
  ∃ j : Nat, (j : Int) ≤ n ∧ i = .int .i64 j ∧ u = .int .i64 (manyTo n (edge l) f k a j) ∧ Below w.heap.size w wr

set_option maxRecDepth 100000 in
set_option maxHeartbeats 800000 in
theorem l1Many_any (n : Int) (l : List Rd) (b : Int) (o : List Int) (fb fc : Nat) (v : Value) (hz : validR n l = true) (hb0 : 0 ≤ b) (hb1 : b < n) (hol : (o.length : Int) = n)
    (hfo : ∀ t, 0 ≤ t → t < n → fO o t = (distO (edge l) b t).getD 100000) (hl : l.length ≤ 1048576) :
    ∀ (k : Nat) (a d : Int) (w : World), RoadsIn w v l → IntAt w fb 0 o → fb < w.heap.size → Dist (edge l) b a d → d ≤ (k : Int) →
    Calls Try.prog 61 #[.int .i64 n, v, .slice (some ⟨fb, 0, none⟩) o.length fc, .int .i64 a, .int .i64 b] w (Gives (.int .i64 (manyN n (edge l) (distN n (edge l) b) (k + 1) a)) w) := by
  have hz0 := (valid_bounds hz).2.1
  have hdb : distN n (edge l) b b = some 0 := distN_of ⟨hb0, hb1⟩ (Dist.self (edges_ok hz).pos b)
  have hone : ∀ k, manyN n (edge l) (distN n (edge l) b) (k + 1) b = 1 := fun k => by
    show (if (distN n (edge l) b b).getD 0 = 0 then 1 else _) = (1 : Int)
    rw [hdb]; rfl
  have Hone := Lib.hid hone; clear hone hdb
  intro k
  induction k with
  | zero =>
    intro a d w hv ho hlt hd hk
    obtain rfl : b = a := ((hd.zero_iff (edges_ok hz).pos).1 (by have := hd.nonneg (edges_ok hz).pos; omega))
    rw [Hone.out]
    clear hv ho hfo hd hz
    go_enter Try.func61, Try.ntmps61
    go_wp2
    go_ret
    exact ⟨rfl, Below.refl _ _⟩
  | succ k ih =>
    intro a d w hv ho hlt hd hk
    by_cases hab : a = b
    · subst hab
      rw [Hone.out]
      clear hv ho hfo hd hz ih
      go_enter Try.func61, Try.ntmps61
      go_wp2
      go_ret
      exact ⟨rfl, Below.refl _ _⟩
    · have hda := distN_of ⟨hb0, hb1⟩ hd
      have hd0 : d ≠ 0 := fun h => hab ((hd.zero_iff (edges_ok hz).pos).1 h).symm
      have hm := manyN_to n (edge l) (distN n (edge l) b) (k + 1) a (by rw [hda]; exact hd0)
      have hat := (edges_ok hz).town hd ⟨hb0, hb1⟩
      obtain ⟨ha0, ha1⟩ := hat
      obtain ⟨p, rfl⟩ : ∃ p : Nat, a = p := ⟨a.toNat, by omega⟩
      have hpo : p < o.length := by omega
      have hoa : o.getD p 0 = d := by rw [← fO_nat o hpo, hfo _ ha0 ha1, distO_some.2 hd]; rfl
      have hdbd := (edges_ok hz).dist hd
      -- what a round finds
      have hround : ∀ j : Nat, (j : Int) < n → (∀ m, edge l p j = some m → ∃ dj, Dist (edge l) b j dj ∧ o.getD j 0 = dj ∧ 0 ≤ dj ∧ dj ≤ 792 ∧ 1 ≤ m ∧ m ≤ 99 ∧ (p : Int) ≠ j ∧ nearP (edge l) (distN n (edge l) b) p j = decide (dj + m = d)) ∧ (edge l p j = none → nearP (edge l) (distN n (edge l) b) p j = false) := fun j hj => by
        constructor
        · intro m hm
          obtain ⟨dj, hdj⟩ := near_dist hz hd hm
          have h1 := (edges_ok hz).dist hdj
          have h2 := edge_miles hz hm
          refine ⟨dj, hdj, ?_, h1.1, h1.2, h2.2.2.2.2.1, h2.2.2.2.2.2.1, h2.2.2.2.2.2.2, ?_⟩
          · rw [← fO_nat o (by omega), hfo _ (by omega) hj, distO_some.2 hdj]; rfl
          · rw [nearP_some hm, distN_of ⟨hb0, hb1⟩ hdj, hda]; rfl
        · intro h; unfold nearP; rw [h]
      have Hround := Lib.hid hround; clear hround
      have hsucc := fun j => manyTo_succ n (edge l) (distN n (edge l) b) (k + 1) p j
      have Hsucc := Lib.hid hsucc; clear hsucc
      have hz' : manyTo n (edge l) (distN n (edge l) b) (k + 1) p 0 = 0 := rfl
      have Hz' := Lib.hid hz'; clear hz'
      have Hm := Lib.hid hm; clear hm
      have Ih := Lib.hid ih; clear ih
      have Hz := Lib.hid hz; clear hz
      have Hd := Lib.hid hd; clear hd
      have Ho := Lib.hid ho; clear ho
      have Hv := Lib.hid hv; clear hv
      have Hoa := Lib.hid hoa; clear hoa hda hfo
      go_enter Try.func61, Try.ntmps61
      have hpb : ((p : Int) == b) = false := by simpa using hab
      go_wp2
      go_loopw [11, 12] (fun u i wr => L1Rel n l (distN n (edge l) b) (k + 1) p w u i wr) (fun _ i _ => (n - intOf i).toNat)
      case atStart => exact ⟨0, by omega, rfl, by rw [Hz'.out], Below.refl _ _⟩
      case round =>
        obtain ⟨j, hj, rfl, rfl, hbel⟩ := hrel
        by_cases hjn : (j : Int) < n
        · have hv2 := Hv.out.below hbel
          have ho2 := Ho.out.below hbel hlt
          have hsz := hbel.size
          have hjo : j < o.length := by omega
          have cj := ho2 j hjo
          have cp := ho2 p hpo
          rw [Nat.zero_add] at cj cp
          rw [Hoa.out] at cp
          have hs := Hsucc.out j
          obtain ⟨hr1, hr2⟩ := Hround.out j hjn
          have Hs := Lib.hid hs; clear hs
          have Hr1 := Lib.hid hr1; clear hr1
          have Hr2 := Lib.hid hr2; clear hr2
          have Hv2 := Lib.hid hv2; clear hv2
          have Ho2 := Lib.hid ho2; clear ho2
          have hjo' : (j : Int) < (o.length : Int) := by omega
          have hpo' : (p : Int) < (o.length : Int) := by omega
          go_wp2_with fail
          refine (l1Find_any v l p j wr Hv2.out hl).mono ?_
          rintro e w2 ⟨hfo, rfl⟩
          rcases hfo with ⟨kk, hkk, _, hee, _, rfl⟩ | ⟨hee, _, rfl⟩
          · obtain ⟨dj, hdj, hoj, dj0, dj1, m1, m9, hpj, hnp⟩ := Hr1.out _ hee
            obtain ⟨ad, cap, hve, har⟩ := Hv2.out
            obtain ⟨bb, oo, hade, hbb, hrw⟩ := har (by intro h; simp [h] at hkk)
            subst hve hade
            obtain ⟨c0, c1, c2⟩ := hrw kk hkk
            rw [hoj] at cj
            have Hnp := Lib.hid hnp; clear hnp
            have Hdj := Lib.hid hdj; clear hdj
            generalize hme : (l.getD kk rd0).m = m at *
            have hjp : ¬ (j : Int) = (p : Int) := fun h => hpj h.symm
            have hkk' : (kk : Int) < (l.length : Int) := by omega
            have hne : ((j : Int) == (p : Int)) = false := by simpa using hjp
            have hk0 : (0 : Int) ≤ (kk : Int) := Int.natCast_nonneg _
            have hj0 : (0 : Int) ≤ (j : Int) := Int.natCast_nonneg _
            clear hrw har hme hee hoj c0 c1
            by_cases hbe : (m + dj == d) = true
            · have hsum : IntKind.i64.wrap (m + dj) = m + dj := IntWalk.i64_in _ (by omega)
              go_wp2
              go_quiet (fail)
              have hmd : m + dj = d := by simpa using hbe
              have hny : nearP (edge l) (distN n (edge l) b) p j = true := by rw [Hnp.out]; simpa [Int.add_comm] using hmd
              have hb9 : Below wr.heap.size wr (wr.drewN nq) := (Below.refl _ _).drewN nq
              clear hsum
              go_wp2_with fail
              refine (Ih.out j dj (wr.drewN nq) (Hv2.out.below hb9) (Ho2.out.below hb9 (by omega)) (by simp; omega) Hdj.out (by omega)).mono ?_
              rintro e w3 ⟨rfl, hb3⟩
              have hb4 := hb9.trans (hb3.mono hb9.size)
              go_wp2
              go_roundw
              case rel => exact ⟨j + 1, by omega, by go_num, by rw [Hs.out, if_pos hny], hbel.trans (hb4.mono hsz)⟩
              case measure => simp [intOf]; omega
            · have hbe' : (m + dj == d) = false := by simpa using hbe
              clear hbe
              have hsum : IntKind.i64.wrap (m + dj) = m + dj := IntWalk.i64_in _ (by omega)
              have hmd : ¬ dj + m = d := by have : ¬ m + dj = d := by simpa using hbe'
                                            omega
              have hny : nearP (edge l) (distN n (edge l) b) p j = false := by rw [Hnp.out]; simpa using hmd
              have Hny := Lib.hid hny; clear hny hmd
              go_wp2
              go_quiet (fail)
              go_wp2
              clear hsum
              refine ⟨⟨j + 1, by omega, by go_num, by rw [Hs.out, if_neg (by rw [Hny.out]; simp)], hbel.drewN _⟩, by simp [intOf]; omega⟩
          · have hnp := Hr2.out hee
            have Hnp := Lib.hid hnp; clear hnp hee
            have hj0 : (0 : Int) ≤ (j : Int) := Int.natCast_nonneg _
            obtain ⟨kv, hkv⟩ : ∃ kv : Int, kv = -1 := ⟨_, rfl⟩
            rw [← hkv]
            have hk1 : ¬ (0 : Int) ≤ kv := by omega
            have hk2 : decide ((0 : Int) ≤ kv) = false := by simpa using hk1
            have hk3 : decide (kv ≥ 0) = false := by simpa using hk1
            clear hkv
            by_cases hbe : j = p
            · subst hbe
              go_wp2
              go_quiet (fail)
              go_wp2
              refine ⟨⟨j + 1, by omega, by go_num, by rw [Hs.out, if_neg (by rw [Hnp.out]; simp)], hbel.drewN _⟩, by simp [intOf]; omega⟩
            · have hjp : ¬ (j : Int) = (p : Int) := by omega
              have hbn : ((j : Int) != (p : Int)) = true := by simp [hjp]
              go_wp2
              go_quiet (fail)
              go_wp2
              refine ⟨⟨j + 1, by omega, by go_num, by rw [Hs.out, if_neg (by rw [Hnp.out]; simp)], hbel.drewN _⟩, by simp [intOf]; omega⟩
        · have hnj : n.toNat = j := by omega
          have Hnj := Lib.hid hnj; clear hnj
          go_wp2
          go_ret
          exact ⟨by rw [Hm.out, Hnj.out]; rfl, hbel⟩

end Go.Proofs.Ytlkhgnglblgldaa
