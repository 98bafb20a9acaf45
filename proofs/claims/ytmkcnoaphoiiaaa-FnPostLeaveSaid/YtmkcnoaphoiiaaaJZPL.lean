/- Texts of this law in one: JQA J4 JR J6 LVF M3 IO JS IKC ICL M4 M5 JT M6. -/
import Derived.Test.YtmkcnoaphoiiaaaJP
import Derived.Deep.LoopGhost
import Derived.Test.YtmkcnoaphoiiaaaJ3
import Derived.Test.YtmkcnoaphoiiaaaJM
import Derived.Test.YtmkcnoaphoiiaaaM1
import Derived.BigRegion
import Derived.Shelf.RegionOpen
import Derived.Test.YtmkcnoaphoiiaaaIZ
import Derived.Lib.AppendZeros
import Derived.WalkKit
import Derived.WalkSpells
import Derived.WalkLawsBesides
import Derived.IntWalk
import Derived.Outline
import Derived.Lib.SliceRun
/- The program's spread, with a callback. -/
namespace Go.Proofs.Ytmkcnoaphoiiaaa
open Go.RowKit

section
variable {n : Int} {net : List (List Rd)} {ch : Int} {κ : Kp}
/-- What the callback does. -/
def CallsspreadA (κ : Kp) (n : Int) (Inv : Tbl → World → Prop) (S : Nat → Prop) (B0 : Nat) (tb : Nat) : Prop :=
  ∀ (T : Tbl) (x : Ltr) (w : World), Inv T w → B0 ≤ w.heap.size → 0 ≤ x.u → x.u < n → 0 ≤ x.t → x.t ≤ 10000 → 0 ≤ x.r → x.r ≤ 20001 →
    Calls Try.prog 81 #[.pointer (some ⟨tb, 0, none⟩), ltV x] w fun e w' => e = .returned (.bool (impr κ T x).2) ∧ Inv (impr κ T x).1 w' ∧ Touch S w w'

def spreadARel (κ : Kp) (net : List (List Rd)) (ch : Int) (d : Nat) (T1 : Tbl) (x : Ltr) (Inv : Tbl → World → Prop) (S : Nat → Prop) (w1 : World) (iv : Value) (wr : World) : Prop :=
  ∃ k : Nat, k ≤ net.length ∧ iv = .int .i64 k ∧ Inv (sprL κ net ch d T1 ((net.take k).flatMap (subsC ch x))) wr ∧ Touch S w1 wr
def spreadAIn (κ : Kp) (net : List (List Rd)) (ch : Int) (d : Nat) (Tk : Tbl) (x : Ltr) (l : List Rd) (hs : List Nat) (i : Nat) (Inv : Tbl → World → Prop) (S : Nat → Prop) (w2 : World) (gk : Nat) (hv : Value) (wr : World) : Prop :=
  ∃ j : Nat, j + gk = l.length ∧ i < j ∧ hv = ptB hs[j]? ∧ Inv (sprL κ net ch d Tk (subJ l x.r i j)) wr ∧ Touch S w2 wr

set_option maxRecDepth 100000 in
set_option maxHeartbeats 4000000 in
theorem spreadA_any (tb : Nat) (Inv : Tbl → World → Prop) (S : Nat → Prop) (B B0 pb : Nat) (a : Option Addr) (cap cb : Nat) (tbs : Nat → Nat) (hss : Nat → List Nat) (ok : okNet n net = true) (hc0 : 0 ≤ ch) (hc1 : ch ≤ 300)
    (hkeep : ∀ T w w', Inv T w → Below w.heap.size w w' → Inv T w') (hS : ∀ p, S p → B ≤ p ∧ p < B0) (HC : CallsspreadA κ n Inv S B0 tb) :
    ∀ (d : Nat) (T : Tbl) (x : Ltr) (w : World), Inv T w → PNet w B pb a cap cb tbs hss net ch → B0 ≤ w.heap.size → 0 ≤ x.u → x.u < n → 0 ≤ x.t → x.t ≤ 10000 → 0 ≤ x.r → x.r + d ≤ 20001 → 10000 < (d : Int) + x.t →
    Calls Try.prog 79 #[.pointer (some ⟨pb, 0, none⟩), ltV x, .func (.func 81) #[.pointer (some ⟨tb, 0, none⟩)] #[]] w fun e w' => e = .returned (.tuple #[]) ∧ Inv (spr κ net ch d T x) w' ∧ Touch S w w' := by
  intro d
  induction d with
  | zero => intro T x w _ _ _ _ _ _ h1 _ _ h2; omega
  | succ d ih =>
    intro T x w hinv hP hB0 hu0 hu1 ht0 ht1 hr0 hrd hd
    have Hok := Lib.hid ok
    have Hkeep := Lib.hid hkeep
    have HS := Lib.hid hS
    have HCC := Lib.hid HC
    have IH := Lib.hid ih
    obtain ⟨hn1, hn8, hl6⟩ := (okNet_iff.1 ok).1
    have hb : Below w.heap.size w (w.alloc (.cells (ltC x) 81)) := (Below.refl _ _).alloc (Nat.le_refl _) _
    have HW := Lib.hid (Whole.made w 81 (ltC x))
    have HInv := Lib.hid (hkeep T _ _ hinv hb)
    have HP := Lib.hid (hP.below (hb.mono (Nat.le_trans hP.hi (Nat.le_refl _))))
    have HB := Lib.hid hb
    have hz : (w.alloc (.cells (ltC x) 81)).heap.size = w.heap.size + 1 := by simp
    have Hz := Lib.hid hz
    have Hhi := Lib.hid hP.hi
    have Hout := Lib.hid (fun (w' : World) (h : Touch S (w.alloc (.cells (ltC x) 81)) w') => (Touch.of_below (S := S) hb).trans h)
    clear ok hkeep hS HC ih hinv hP hb hz
    obtain ⟨u, t, r⟩ := x
    simp only at hu0 hu1 ht0 ht1 hr0 hrd hd
    unfold ltC at *
    unfold ltV
    simp only at *
    have e0 : (w.alloc (.cells #[.int .i64 u, .int .i64 t, .int .i64 r] 81)).cell? ⟨w.heap.size, 0, none⟩ = some (.int .i64 u) := HW.out.cell rfl
    have e1 : (w.alloc (.cells #[.int .i64 u, .int .i64 t, .int .i64 r] 81)).cell? ⟨w.heap.size, 1, none⟩ = some (.int .i64 t) := HW.out.cell rfl
    have e2 : (w.alloc (.cells #[.int .i64 u, .int .i64 t, .int .i64 r] 81)).cell? ⟨w.heap.size, 2, none⟩ = some (.int .i64 r) := HW.out.cell rfl
    go_enter Try.func79, Try.ntmps79
    go_wp2_with fail
    generalize w.alloc (.cells #[.int .i64 u, .int .i64 t, .int .i64 r] 81) = w0 at *
    refine (HCC.out T ⟨u, t, r⟩ _ HInv.out (by have := Hz.out; omega) hu0 hu1 ht0 ht1 hr0 (by simp only; omega)).mono ?_; rintro e w1 ⟨rfl, hinv1, htt1⟩
    have HInv1 := Lib.hid hinv1
    have HT1 := Lib.hid htt1
    clear hinv1 htt1 e0 e1 e2 HInv
    have HB0 := Lib.hid hB0
    have HP1 := Lib.hid (HP.out.below (HT1.out.below (fun p hp => (HS.out p hp).1) (by have := Hhi.out; have := Hz.out; omega)))
    have HW1 := Lib.hid (HW.out.touch7 HT1.out (fun hp => by have := (HS.out _ hp).2; have := HB0.out; omega))
    have hz1 := HT1.out.size
    have Hz1 := Lib.hid hz1
    have Hhi1 := Lib.hid (show B ≤ w1.heap.size by have := Hhi.out; have := Hz.out; omega)
    have HB1 := Lib.hid (show B0 ≤ w1.heap.size by have := HB0.out; have := Hz.out; omega)
    clear hz1 hB0
    cases hgo : (impr κ T ⟨u, t, r⟩).2 with
    | false =>
      have Hs := Lib.hid (spr_no (net := net) (ch := ch) (d := d) hgo)
      clear hgo
      go_wp2
      refine bodyPost_ret (v := .tuple #[]) (by simp [results, Try.results79, go_sem]) rfl ?_
      exact ⟨rfl, by rw [Hs.out]; exact HInv1.out, Hout.out _ HT1.out⟩
    | true =>
      have Hs := Lib.hid (spr_yes (net := net) (ch := ch) (d := d) hgo)
      clear hgo
      generalize (impr κ T ⟨u, t, r⟩).1 = T1 at *
      have c0 : w1.cell? ⟨pb, 0, none⟩ = some (.slice a net.length cap) := HP1.out.top.cell rfl
      go_wp2
      clear c0
      go_loopw [18] (fun iv wr => spreadARel κ net ch d T1 ⟨u, t, r⟩ Inv S w1 iv wr) (fun iv _ => net.length - (intOf iv).toNat)
      case atStart => exact ⟨0, Nat.zero_le _, rfl, by rw [List.take_zero]; exact HInv1.out, Touch.refl _ _⟩
      case round =>
        obtain ⟨k, hk, rfl, hinv, htt⟩ := hrel
        have Hinv := Lib.hid hinv
        have Htt := Lib.hid htt
        have hPr := HP1.out.below (htt.below (fun p hp => (HS.out p hp).1) Hhi1.out)
        have hWr := HW1.out.touch7 htt (fun hp => by have := (HS.out _ hp).2; have := HB0.out; omega)
        have HPr := Lib.hid hPr
        have HWr := Lib.hid hWr
        have hsz := htt.size
        have Hsz := Lib.hid hsz
        clear hinv htt hPr hWr hsz
        by_cases hlt : k < net.length
        · obtain ⟨rfl, hcb, c1⟩ := HPr.out.row k hlt
          obtain ⟨htk, htb, hhb⟩ := HPr.out.tt k hlt
          have e0 : wr.cell? ⟨w.heap.size, 0, none⟩ = some (.int .i64 u) := HWr.out.cell rfl
          have hvs := (okNet_iff.1 Hok.out).2 k hlt
          have l8 : (coach net k).length ≤ 8 := (validS_iff.1 hvs).1.2.2.2
          have Hvs := Lib.hid hvs
          have Hhb := Lib.hid hhb
          have Htf := Lib.hid (take_flat (subsC ch ⟨u, t, r⟩) net hlt)
          have Htk := Lib.hid htk
          have L8 := Lib.hid l8
          clear hhb hvs htk l8 hcb
          go_wp2_with fail
          refine (in_any (tbs k) (hss k) (coach net k) u _ Htk.out L8.out).mono ?_
          rintro e w' ⟨rfl, ⟨i, hi, rfl, hn, hta⟩ | ⟨rfl, hn⟩⟩
          · have Hat := Lib.hid (show atS (coach net k) (⟨u, t, r⟩ : Ltr).u = some i from atS_some hi hn hta)
            have c2 := Htk.out.leave hi
            have c3 : w'.cell? ⟨pb, 1, none⟩ = some (.int .i64 ch) := HPr.out.top.cell rfl
            have e1 : w'.cell? ⟨w.heap.size, 1, none⟩ = some (.int .i64 t) := HWr.out.cell rfl
            have e2 : w'.cell? ⟨w.heap.size, 2, none⟩ = some (.int .i64 r) := HWr.out.cell rfl
            have Hi := Lib.hid hi
            have Hno := Lib.hid (fun h => subsC_no (ch := ch) (x := ⟨u, t, r⟩) Hat.out h)
            have Hyes := Lib.hid (fun h => subsC_yes (ch := ch) (x := ⟨u, t, r⟩) Hat.out h)
            have Hc5 := Lib.hid (fun (w9 : World) (h : Below B w' w9) => show w9.cell? ⟨(hss k).getD i 0, 5, none⟩ = some (ptB (hss k)[i + 1]?) from (Htk.out.belowB h htb Hhb.out).halts i hi |>.cell rfl)
            have hgi := Hhb.out i hi
            clear hn hta hi
            generalize ((coach net k).getD i rd0).m = m at *
            generalize hgie : (hss k).getD i 0 = gi at *
            clear hgie
            go_wp2_with fail
            refine (catches_any pb gi u t r ch m _ c3 c2 ht0 ht1 hc0 hc1).mono ?_; rintro e w2 ⟨rfl, hb2⟩
            have HT2 := Lib.hid (Htt.out.trans (Touch.of_below (S := S) hb2))
            have HB2 := Lib.hid hb2
            have HInv2 := Lib.hid (Hkeep.out _ _ _ Hinv.out hb2)
            have hBle : B ≤ w'.heap.size := Nat.le_trans Hhi1.out Hsz.out
            have c5 := Hc5.out w2 (hb2.mono hBle)
            have HP2 := Lib.hid (HPr.out.below (hb2.mono hBle))
            have HW2 := Lib.hid (HWr.out.below hb2 HWr.out.lt)
            have Hle2 := Lib.hid (show B ≤ w2.heap.size ∧ B0 ≤ w2.heap.size by have := hb2.size; have := HB1.out; have := Hsz.out; omega)
            clear c2 c3 e0 e1 e2 hb2 hBle
            cases hcat : catL ch ⟨u, t, r⟩ m with
            | false =>
              have Hsub := Lib.hid (Hno.out hcat)
              clear hcat c5
              go_wp2
              exact ⟨⟨k + 1, hlt, by go_num, by rw [Htf.out]; erw [Hsub.out]; rw [List.append_nil]; exact HInv2.out, HT2.out⟩, by simp [intOf]; omega⟩
            | true =>
              have Hsub := Lib.hid (Hyes.out hcat)
              clear hcat
              generalize hTk : sprL κ net ch d T1 ((net.take k).flatMap (subsC ch ⟨u, t, r⟩)) = Tk at *
              have HTk := Lib.hid hTk
              clear hTk
              go_wp2
              clear c5
              go_loopg [8] ((coach net k).length - (i + 1)) (fun gk hv wr => spreadAIn κ net ch d Tk ⟨u, t, r⟩ (coach net k) (hss k) i Inv S w2 gk hv wr)
              case atStart => exact ⟨i + 1, by have := Hi.out; omega, Nat.lt_succ_self i, rfl, by rw [subJ_nil]; exact HInv2.out, Touch.refl _ _⟩
              case round =>
                obtain ⟨j, hj, hij, rfl, hinvj, httj⟩ := hrel
                have hPj := HP2.out.below (httj.below (fun p hp => (HS.out p hp).1) Hle2.out.1)
                have HPj := Lib.hid hPj
                have HWj := Lib.hid (HW2.out.touch7 httj (fun hp => by have := (HS.out _ hp).2; have := HB0.out; omega))
                have Hinvj := Lib.hid hinvj
                have Httj := Lib.hid httj
                have Hlej := Lib.hid (show B ≤ wr.heap.size ∧ B0 ≤ wr.heap.size by have := httj.size; have := Hle2.out; omega)
                clear hPj hinvj httj
                by_cases hlj : j < (coach net k).length
                · obtain ⟨htj, htbj, hhbj⟩ := HPj.out.tt k hlt
                  rw [ptB_some (by rw [htj.len]; exact hlj)]
                  have d0 := htj.town hlj
                  have d1 := htj.arrive hlj
                  have hva := validS_at Hvs.out hlj
                  have hvn := (fitsS_iff _ _).1 ((okS_iff _ _ _).1 ((validS_iff.1 Hvs.out).2 j hlj)).1
                  have hup : t < ((coach net k).getD j rd0).b := by
                    have h9 := subsUp (net := net) (ch := ch) Hok.out hc0 ⟨u, t, r⟩ hr0 ⟨((coach net k).getD j rd0).a, ((coach net k).getD j rd0).b, r + 1⟩ (by
                      unfold subs
                      rw [List.mem_flatMap]
                      refine ⟨coach net k, by rw [coach_eq hlt]; exact List.getElem_mem hlt, ?_⟩
                      rw [Hsub.out]
                      exact mem_subC.2 ⟨j, hij, hlj, rfl⟩)
                    exact h9.1
                  have e0 : wr.cell? ⟨w.heap.size, 0, none⟩ = some (.int .i64 u) := HWj.out.cell rfl
                  have e1 : wr.cell? ⟨w.heap.size, 1, none⟩ = some (.int .i64 t) := HWj.out.cell rfl
                  have e2 : wr.cell? ⟨w.heap.size, 2, none⟩ = some (.int .i64 r) := HWj.out.cell rfl
                  have Hsj := Lib.hid (subJ_succ (coach net k) r hij)
                  have Hc6 := Lib.hid (fun (w9 : World) (h : Below B wr w9) => show w9.cell? ⟨(hss k).getD j 0, 5, none⟩ = some (ptB (hss k)[j + 1]?) from (htj.belowB h htbj hhbj).halts j hlj |>.cell rfl)
                  obtain ⟨gk', rfl⟩ : ∃ g, gk = g + 1 := ⟨gk - 1, by omega⟩
                  have Hj := Lib.hid hj
                  have Hij := Lib.hid hij
                  have hbb := And.intro hva.2.2.1 (show ((coach net k).getD j rd0).b ≤ 10000 by omega)
                  have haa := And.intro hvn.1 hvn.2.1
                  clear htj hhbj hva hvn hj hij hlj
                  generalize ((coach net k).getD j rd0).a = aj at *
                  generalize ((coach net k).getD j rd0).b = bj at *
                  generalize hgje : (hss k).getD j 0 = gj at *
                  clear hgje
                  go_wp2_with fail
                  refine (brought_any gj u t r aj bj _ d0 d1 hr0 (by omega)).mono ?_; rintro e w3 ⟨rfl, hb3⟩
                  have HInv3 := Lib.hid (Hkeep.out _ _ _ Hinvj.out hb3)
                  have HP3 := Lib.hid (HPj.out.below (hb3.mono Hlej.out.1))
                  have HB3 := Lib.hid hb3
                  have Hle3 := Lib.hid (show B ≤ w3.heap.size ∧ B0 ≤ w3.heap.size by have := hb3.size; have := Hlej.out; omega)
                  clear d0 d1 e0 e1 e2 hb3
                  go_wp2_with fail
                  refine (IH.out _ ⟨aj, bj, r + 1⟩ _ HInv3.out HP3.out Hle3.out.2 haa.1 haa.2 hbb.1 hbb.2 (by simp only; omega) (by simp only; omega) (by simp only; omega)).mono ?_; rintro e w4 ⟨rfl, hinv4, htt4⟩
                  have HInv4 := Lib.hid hinv4
                  have HT4 := Lib.hid ((Httj.out.trans (Touch.of_below (S := S) HB3.out)).trans htt4)
                  have c6 := Hc6.out w4 ((HB3.out.mono Hlej.out.1).trans (htt4.below (fun p hp => (HS.out p hp).1) Hle3.out.1))
                  clear hinv4 htt4
                  go_wp2
                  go_roundg gk'
                  case measure => omega
                  case rel => exact ⟨j + 1, by have := Hj.out; omega, by have := Hij.out; omega, rfl, by rw [Hsj.out, sprL_append]; exact HInv4.out, HT4.out⟩
                · obtain rfl : j = (coach net k).length := by omega
                  have Hfin := Lib.hid (HT2.out.trans Httj.out)
                  have hpn : ptB (hss k)[(coach net k).length]? = .pointer none := ptB_none (by rw [(HPj.out.tt k hlt).1.len]; exact Nat.le_refl _)
                  rw [hpn]
                  clear hpn hlj hj hij
                  go_wp2
                  exact ⟨⟨k + 1, hlt, by go_num, by rw [Htf.out, sprL_append, HTk.out]; erw [Hsub.out]; rw [← subJ_all]; exact Hinvj.out, Hfin.out⟩, by simp [intOf]; omega⟩
          · have Hsub := Lib.hid (subsC_none (ch := ch) (x := ⟨u, t, r⟩) (atS_none hn))
            clear hn e0
            go_wp2
            exact ⟨⟨k + 1, hlt, by go_num, by rw [Htf.out]; erw [Hsub.out]; rw [List.append_nil]; exact Hinv.out, Htt.out⟩, by simp [intOf]; omega⟩
        · obtain rfl : k = net.length := by omega
          go_wp2
          go_end0
          refine ⟨rfl, ?_, Hout.out _ (HT1.out.trans Htt.out)⟩
          rw [Hs.out]
          have := Hinv.out
          rwa [List.take_length] at this
end

end Go.Proofs.Ytmkcnoaphoiiaaa
/- Nets, pure: the model's tables, round by round. -/
namespace Go.Proofs.Ytmkcnoaphoiiaaa

/-- What a list of times says of a town. -/
def fT (T : List Int) (u : Int) : Int := if 0 ≤ u then T.getD u.toNat (-1) else -1
theorem fT_at (T : List Int) (i : Nat) : fT T (i : Int) = T.getD i (-1) := by unfold fT; simp
theorem fT_set {T : List Int} {a x u : Int} (ha : 0 ≤ a) (hl : a < T.length) (hu : 0 ≤ u) : fT (T.set a.toNat x) u = if u = a then x else fT T u := by
  unfold fT
  rw [if_pos hu, if_pos hu]
  by_cases h : u = a
  · subst h
    rw [if_pos rfl]
    have : u.toNat < T.length := by omega
    simp [List.getD, this]
  · rw [if_neg h]
    have : a.toNat ≠ u.toNat := by omega
    simp [List.getD, this]

def rdyX (T : List Int) (ch f : Int) (s : Rd) : Bool := decide (0 ≤ fT T s.a) && decide (fT T s.a + dl ch f s.a ≤ s.m)
theorem rdyX_iff {T : List Int} {ch f : Int} {s : Rd} : rdyX T ch f s = true ↔ 0 ≤ fT T s.a ∧ fT T s.a + dl ch f s.a ≤ s.m := by simp [rdyX]

def upX (T : List Int) (s : Rd) : List Int := if fT T s.a < 0 ∨ s.b < fT T s.a then T.set s.a.toNat s.b else T
/-- One stop: who is aboard gets out; who is there in time gets in (rt: by which table). -/
def stG (rt : List Int → List Int) (ch f : Int) (p : List Int × Bool) (s : Rd) : List Int × Bool :=
  let T := if p.2 = true then upX p.1 s else p.1
  (T, p.2 || rdyX (rt T) ch f s)
def cchG (rt : List Int → List Int) (ch f : Int) (T : List Int) (l : List Rd) : List Int := (l.foldl (stG rt ch f) (T, false)).1
def rndG (rt : List Int → List Int) (ch f : Int) (net : List (List Rd)) (T : List Int) : List Int := net.foldl (cchG rt ch f) T

def rndA (ch f : Int) (net : List (List Rd)) (T : List Int) : List Int := rndG id ch f net T
def rndB (ch f : Int) (net : List (List Rd)) (T : List Int) : List Int := rndG (fun _ => T) ch f net T
def iniX (n : Nat) (f t0 : Int) : List Int := (List.replicate n (-1)).set f.toNat t0
def itA (ch f : Int) (net : List (List Rd)) (T : List Int) : Nat → List Int
  | 0 => T
  | k + 1 => rndA ch f net (itA ch f net T k)
def itB (ch f : Int) (net : List (List Rd)) (T : List Int) : Nat → List Int
  | 0 => T
  | k + 1 => rndB ch f net (itB ch f net T k)
def tabA (n : Int) (net : List (List Rd)) (ch f t0 : Int) : List Int := itA ch f net (iniX n.toNat f t0) (n.toNat + 1)
def tabB (n : Int) (net : List (List Rd)) (ch f t0 : Int) (k : Nat) : List Int := itB ch f net (iniX n.toNat f t0) k

theorem foldl_take {α β : Type} (g : β → α → β) (x : β) (l : List α) (k : Nat) (d : α) (h : k < l.length) : (l.take (k + 1)).foldl g x = g ((l.take k).foldl g x) (l.getD k d) := by
  rw [List.take_succ_eq_append_getElem h, List.foldl_append]
  simp [List.getD, h]

def LeI (T T' : List Int) : Prop := ∀ u : Int, 0 ≤ u → 0 ≤ fT T' u → 0 ≤ fT T u ∧ fT T u ≤ fT T' u
theorem LeI.refl (T : List Int) : LeI T T := fun _ _ h => ⟨h, Int.le_refl _⟩
theorem LeI.trans {A B C : List Int} (h : LeI A B) (h' : LeI B C) : LeI A C := fun u hu e => by
  obtain ⟨h1, h2⟩ := h' u hu e
  obtain ⟨h3, h4⟩ := h u hu h1
  exact ⟨h3, by omega⟩
theorem LeI.rdy {A B : List Int} (h : LeI A B) {ch f : Int} {s : Rd} (hs : 0 ≤ s.a) (hr : rdyX B ch f s = true) : rdyX A ch f s = true := by
  obtain ⟨h1, h2⟩ := rdyX_iff.1 hr
  obtain ⟨h3, h4⟩ := h _ hs h1
  exact rdyX_iff.2 ⟨h3, by omega⟩

def Ent (P : Int → Int → Prop) (T : List Int) : Prop := ∀ u : Int, 0 ≤ u → u < T.length → fT T u = -1 ∨ (0 ≤ fT T u ∧ P u (fT T u))

section
variable {n : Int} {net : List (List Rd)} {ch f t0 : Int} {rt : List Int → List Int} {P Q : Int → Int → Prop}

theorem upX_len (T : List Int) (s : Rd) : (upX T s).length = T.length := by unfold upX; split <;> simp
theorem upX_le {T : List Int} {s : Rd} (ha : 0 ≤ s.a) (hl : s.a < T.length) (hb : 0 ≤ s.b) : LeI (upX T s) T ∧ 0 ≤ fT (upX T s) s.a ∧ fT (upX T s) s.a ≤ s.b := by
  unfold upX
  split
  · rename_i h
    refine ⟨fun u hu e => ?_, ?_⟩
    · rw [fT_set ha hl hu]
      split
      · rename_i he; subst he; omega
      · exact ⟨e, Int.le_refl _⟩
    · rw [fT_set ha hl ha, if_pos rfl]; exact ⟨hb, Int.le_refl _⟩
  · rename_i h
    exact ⟨LeI.refl _, by omega, by omega⟩
theorem upX_ent {T : List Int} {s : Rd} (ha : 0 ≤ s.a) (hl : s.a < T.length) (hb : 0 ≤ s.b) (h : Ent P T) (hp : P s.a s.b) : Ent P (upX T s) := by
  intro u hu hlt
  rw [upX_len] at hlt
  unfold upX
  split
  · rw [fT_set ha hl hu]
    split
    · rename_i he; subst he; exact .inr ⟨hb, hp⟩
    · exact h u hu hlt
  · exact h u hu hlt

theorem coach_inv {l : List Rd} (hz : validS n l = true) {T X : List Int} (hn : (T.length : Int) = n)
    (hX : ∀ T', LeI T' T → LeI (rt T') X) (hQ : ∀ T', T'.length = T.length → LeI T' T → Ent P T' → Ent Q (rt T') ∧ (rt T').length = T.length)
    (hPQ : ∀ i j t, i < j → j < l.length → Q (l.getD i rd0).a t → t + dl ch f (l.getD i rd0).a ≤ (l.getD i rd0).m → P (l.getD j rd0).a (l.getD j rd0).b)
    (hT : Ent P T) : ∀ k, k ≤ l.length →
    ((l.take k).foldl (stG rt ch f) (T, false)).1.length = T.length ∧ LeI ((l.take k).foldl (stG rt ch f) (T, false)).1 T ∧ Ent P ((l.take k).foldl (stG rt ch f) (T, false)).1 ∧
    (((l.take k).foldl (stG rt ch f) (T, false)).2 = true → ∃ i t, i < k ∧ Q (l.getD i rd0).a t ∧ t + dl ch f (l.getD i rd0).a ≤ (l.getD i rd0).m) ∧
    (∀ i, i < k → rdyX X ch f (l.getD i rd0) = true → ((l.take k).foldl (stG rt ch f) (T, false)).2 = true) ∧
    (∀ i j, i < j → j < k → rdyX X ch f (l.getD i rd0) = true → 0 ≤ fT ((l.take k).foldl (stG rt ch f) (T, false)).1 (l.getD j rd0).a ∧ fT ((l.take k).foldl (stG rt ch f) (T, false)).1 (l.getD j rd0).a ≤ (l.getD j rd0).b)
  | 0, _ => by
    simp only [List.take_zero, List.foldl_nil]
    exact ⟨by trivial, LeI.refl _, hT, fun h => (by cases h), fun i hi => by omega, fun i j _ hj => by omega⟩
  | k + 1, hk => by
    obtain ⟨h1, h2, h3, h4, h5, h6⟩ := coach_inv hz hn hX hQ hPQ hT k (by omega)
    rw [foldl_take _ _ _ _ rd0 (by omega)]
    generalize (l.take k).foldl (stG rt ch f) (T, false) = p at *
    obtain ⟨T1, on⟩ := p
    simp only at h1 h2 h3 h4 h5 h6
    have hs := validS_at hz (show k < l.length by omega)
    have hs2 := (fitsS_iff _ _).1 ((okS_iff _ _ _).1 ((validS_iff.1 hz).2 k (by omega))).1
    generalize hr : l.getD k rd0 = s at *
    have ha : s.a < T1.length := by omega
    have e1 : (stG rt ch f (T1, on) s).1 = if on = true then upX T1 s else T1 := rfl
    have e2 : (stG rt ch f (T1, on) s).2 = (on || rdyX (rt (if on = true then upX T1 s else T1)) ch f s) := rfl
    rw [e1, e2]
    have hl : (if on = true then upX T1 s else T1).length = T.length := by split; rw [upX_len]; exact h1; exact h1
    have hle : LeI (if on = true then upX T1 s else T1) T1 := by
      split
      · exact (upX_le hs.1 ha hs.2.2.1).1
      · exact LeI.refl _
    have hen : Ent P (if on = true then upX T1 s else T1) := by
      split
      · rename_i ho
        obtain ⟨i, t, hi, hq, hd⟩ := h4 ho
        have := hPQ i k t hi (by omega) hq hd
        rw [hr] at this
        exact upX_ent hs.1 ha hs.2.2.1 h3 this
      · exact h3
    have hup : on = true → 0 ≤ fT (if on = true then upX T1 s else T1) s.a ∧ fT (if on = true then upX T1 s else T1) s.a ≤ s.b := fun ho => by
      rw [if_pos ho]; exact (upX_le hs.1 ha hs.2.2.1).2
    generalize (if on = true then upX T1 s else T1) = T2 at *
    have hle2 := hle.trans h2
    obtain ⟨hq1, hq2⟩ := hQ T2 hl hle2 hen
    refine ⟨hl, hle2, hen, fun ho => ?_, fun i hi hrd => ?_, fun i j hij hj hrd => ?_⟩
    · rcases Bool.or_eq_true _ _ ▸ ho with ho | ho
      · obtain ⟨i, t, hi, hq⟩ := h4 ho
        exact ⟨i, t, by omega, hq⟩
      · obtain ⟨g1, g2⟩ := rdyX_iff.1 ho
        refine ⟨k, fT (rt T2) s.a, by omega, ?_⟩
        rw [hr]
        rcases hq1 s.a hs.1 (by omega) with e | e
        · omega
        · exact ⟨e.2, g2⟩
    · by_cases hik : i = k
      · subst hik
        rw [hr] at hrd
        rw [(hX T2 hle2).rdy hs.1 hrd, Bool.or_true]
      · rw [h5 i (by omega) hrd, Bool.true_or]
    · by_cases hjk : j = k
      · subst hjk
        rw [hr]
        exact hup (h5 i (by omega) hrd)
      · obtain ⟨g1, g2⟩ := h6 i j hij (by omega) hrd
        have hj2 := validS_at hz (show j < l.length by omega)
        obtain ⟨g3, g4⟩ := hle _ hj2.1 g1
        exact ⟨g3, by omega⟩

theorem round_inv (ok : okNet n net = true) {T X : List Int} (hn : (T.length : Int) = n)
    (hX : ∀ T', LeI T' T → LeI (rt T') X) (hQ : ∀ T', T'.length = T.length → LeI T' T → Ent P T' → Ent Q (rt T') ∧ (rt T').length = T.length)
    (hPQ : ∀ u s v a t, Hop net u s v a → Q u t → t + dl ch f u ≤ s → P v a)
    (hT : Ent P T) : ∀ k, k ≤ net.length →
    ((net.take k).foldl (cchG rt ch f) T).length = T.length ∧ LeI ((net.take k).foldl (cchG rt ch f) T) T ∧ Ent P ((net.take k).foldl (cchG rt ch f) T) ∧
    ∀ c i j, c < k → i < j → j < (coach net c).length → rdyX X ch f (stp net c i) = true → 0 ≤ fT ((net.take k).foldl (cchG rt ch f) T) (stp net c j).a ∧ fT ((net.take k).foldl (cchG rt ch f) T) (stp net c j).a ≤ (stp net c j).b
  | 0, _ => by
    simp only [List.take_zero, List.foldl_nil]
    exact ⟨by trivial, LeI.refl _, hT, fun c _ _ hc => by omega⟩
  | k + 1, hk => by
    obtain ⟨h1, h2, h3, h4⟩ := round_inv ok hn hX hQ hPQ hT k (by omega)
    rw [foldl_take _ _ _ _ [] (by omega)]
    generalize (net.take k).foldl (cchG rt ch f) T = T1 at *
    have hz := (okNet_iff.1 ok).2 k (by omega)
    obtain ⟨g1, g2, g3, _, _, g6⟩ := coach_inv (rt := rt) (X := X) (ch := ch) (f := f) hz (T := T1) (by omega) (fun T' h => hX T' (h.trans h2))
      (fun T' hl h he => by rw [h1]; exact hQ T' (by omega) (h.trans h2) he)
      (fun i j t hij hj hq hd => hPQ _ _ _ _ t ⟨k, i, j, by omega, hij, hj, rfl, rfl, rfl, rfl⟩ hq hd) h3 (coach net k).length (Nat.le_refl _)
    rw [List.take_length] at g1 g2 g3 g6
    have e : net.getD k [] = coach net k := rfl
    rw [e]
    unfold cchG
    refine ⟨by omega, g2.trans h2, g3, fun c i j hc hij hj hrd => ?_⟩
    by_cases hck : c = k
    · subst hck; exact g6 i j hij hj hrd
    · obtain ⟨a1, a2⟩ := h4 c i j (by omega) hij hj hrd
      have hj2 := validS_at ((okNet_iff.1 ok).2 c (by omega)) hj
      obtain ⟨a3, a4⟩ := g2 _ hj2.1 a1
      exact ⟨a3, by unfold stp at a2 ⊢; omega⟩

theorem round_all (ok : okNet n net = true) {T X : List Int} (hn : (T.length : Int) = n)
    (hX : ∀ T', LeI T' T → LeI (rt T') X) (hQ : ∀ T', T'.length = T.length → LeI T' T → Ent P T' → Ent Q (rt T') ∧ (rt T').length = T.length)
    (hPQ : ∀ u s v a t, Hop net u s v a → Q u t → t + dl ch f u ≤ s → P v a) (hT : Ent P T) :
    (rndG rt ch f net T).length = T.length ∧ LeI (rndG rt ch f net T) T ∧ Ent P (rndG rt ch f net T) ∧
    ∀ u s v a, Hop net u s v a → 0 ≤ fT X u → fT X u + dl ch f u ≤ s → 0 ≤ fT (rndG rt ch f net T) v ∧ fT (rndG rt ch f net T) v ≤ a := by
  have h := round_inv ok hn hX hQ hPQ hT net.length (Nat.le_refl _)
  rw [List.take_length] at h
  obtain ⟨h1, h2, h3, h4⟩ := h
  refine ⟨h1, h2, h3, ?_⟩
  rintro u s v a ⟨c, i, j, hc, hij, hj, rfl, rfl, rfl, rfl⟩ hu hd
  exact h4 c i j hc hij hj (rdyX_iff.2 ⟨hu, hd⟩)

theorem ini_at (hf : 0 ≤ f ∧ f < n) {u : Int} (hu : 0 ≤ u) : fT (iniX n.toNat f t0) u = if u = f then t0 else -1 := by
  unfold iniX
  rw [fT_set hf.1 (by simp; omega) hu]
  split
  · rfl
  · unfold fT
    rw [if_pos hu]
    by_cases h : u.toNat < n.toNat
    · simp [List.getD, h]
    · simp [List.getD, h]
theorem ini_len : (iniX n.toNat f t0).length = n.toNat := by simp [iniX]

theorem itA_inv (ok : okNet n net = true) (hf : 0 ≤ f ∧ f < n) (ht : 0 ≤ t0 ∧ t0 ≤ 10000) : ∀ k, ((itA ch f net (iniX n.toNat f t0) k).length : Int) = n ∧ Ent (Rch net ch f t0) (itA ch f net (iniX n.toNat f t0) k) ∧
    ∀ k' u t, k' ≤ k → Rn net ch f t0 k' u t → 0 ≤ fT (itA ch f net (iniX n.toNat f t0) k) u ∧ fT (itA ch f net (iniX n.toNat f t0) k) u ≤ t
  | 0 => by
    refine ⟨by simp only [itA, ini_len]; omega, fun u hu hl => ?_, fun k' u t hk h => ?_⟩
    · show fT (iniX n.toNat f t0) u = -1 ∨ _
      rw [show itA ch f net (iniX n.toNat f t0) 0 = iniX n.toNat f t0 from rfl, ini_at hf hu]
      split
      · rename_i e; subst e; exact .inr ⟨ht.1, .base⟩
      · exact .inl rfl
    · obtain rfl : k' = 0 := by omega
      cases h
      rw [show itA ch f net (iniX n.toNat f t0) 0 = iniX n.toNat f t0 from rfl, ini_at hf hf.1, if_pos rfl]
      exact ⟨ht.1, Int.le_refl _⟩
  | k + 1 => by
    obtain ⟨h1, h2, h3⟩ := itA_inv ok hf ht k
    show ((rndA ch f net _).length : Int) = n ∧ _
    rw [show itA ch f net (iniX n.toNat f t0) (k + 1) = rndA ch f net (itA ch f net (iniX n.toNat f t0) k) from rfl]
    generalize itA ch f net (iniX n.toNat f t0) k = T at *
    obtain ⟨g1, g2, g3, g4⟩ := round_all (rt := id) (X := T) (P := Rch net ch f t0) (Q := Rch net ch f t0) (ch := ch) (f := f) ok h1 (fun T' h => h) (fun T' hl _ he => ⟨he, hl⟩) (fun u s v a t hh hq hd => hq.ride hh hd) h2
    have e : rndA ch f net T = rndG id ch f net T := rfl
    rw [e]
    refine ⟨by omega, g3, fun k' u t hk h => ?_⟩
    cases h with
    | base =>
      obtain ⟨a1, a2⟩ := h3 0 f t0 (Nat.zero_le _) .base
      obtain ⟨a3, a4⟩ := g2 f hf.1 a1
      exact ⟨a3, by omega⟩
    | ride h hh hs =>
      obtain ⟨a1, a2⟩ := h3 _ _ _ (by omega) h
      exact g4 _ _ _ _ hh a1 (by omega)

theorem tabA_len (ok : okNet n net = true) (hf : 0 ≤ f ∧ f < n) (ht : 0 ≤ t0 ∧ t0 ≤ 10000) : ((tabA n net ch f t0).length : Int) = n := (itA_inv ok hf ht (n.toNat + 1)).1

theorem tabA_isTab (ok : okNet n net = true) (hc : 0 ≤ ch) (hf : 0 ≤ f ∧ f < n) (ht : 0 ≤ t0 ∧ t0 ≤ 10000) : IsTab net ch f t0 n (fT (tabA n net ch f t0)) := by
  obtain ⟨h1, h2, h3⟩ := itA_inv (ch := ch) ok hf ht (n.toNat + 1)
  refine ⟨fun u t h => ?_, fun u hu hn => ?_⟩
  · obtain ⟨k, t', h', hle, hk⟩ := h.few ok hc hf
    obtain ⟨a1, a2⟩ := h3 k u t' (by omega) h'
    exact ⟨a1, by unfold tabA; omega⟩
  · rcases h2 u hu (by omega) with e | e
    · exact .inl e
    · exact .inr e.2

theorem itB_inv (ok : okNet n net = true) (hf : 0 ≤ f ∧ f < n) (ht : 0 ≤ t0 ∧ t0 ≤ 10000) : ∀ k, ((itB ch f net (iniX n.toNat f t0) k).length : Int) = n ∧ Ent (fun u t => ∃ k', k' ≤ k ∧ Rn net ch f t0 k' u t) (itB ch f net (iniX n.toNat f t0) k) ∧
    ∀ k' u t, k' ≤ k → Rn net ch f t0 k' u t → 0 ≤ fT (itB ch f net (iniX n.toNat f t0) k) u ∧ fT (itB ch f net (iniX n.toNat f t0) k) u ≤ t
  | 0 => by
    refine ⟨by simp only [itB, ini_len]; omega, fun u hu hl => ?_, fun k' u t hk h => ?_⟩
    · rw [show itB ch f net (iniX n.toNat f t0) 0 = iniX n.toNat f t0 from rfl, ini_at hf hu]
      split
      · rename_i e; subst e; exact .inr ⟨ht.1, 0, Nat.le_refl _, .base⟩
      · exact .inl rfl
    · obtain rfl : k' = 0 := by omega
      cases h
      rw [show itB ch f net (iniX n.toNat f t0) 0 = iniX n.toNat f t0 from rfl, ini_at hf hf.1, if_pos rfl]
      exact ⟨ht.1, Int.le_refl _⟩
  | k + 1 => by
    obtain ⟨h1, h2, h3⟩ := itB_inv ok hf ht k
    rw [show itB ch f net (iniX n.toNat f t0) (k + 1) = rndB ch f net (itB ch f net (iniX n.toNat f t0) k) from rfl]
    generalize itB ch f net (iniX n.toNat f t0) k = T at *
    obtain ⟨g1, g2, g3, g4⟩ := round_all (rt := fun _ => T) (X := T) (P := fun u t => ∃ k', k' ≤ k + 1 ∧ Rn net ch f t0 k' u t) (Q := fun u t => ∃ k', k' ≤ k ∧ Rn net ch f t0 k' u t) (ch := ch) (f := f) ok h1 (fun T' h => LeI.refl _) (fun T' hl _ he => ⟨h2, rfl⟩)
      (fun u s v a t hh ⟨k', hk', hq⟩ hd => ⟨k' + 1, by omega, .ride hq hh hd⟩)
      (fun u hu hl => by
        rcases h2 u hu hl with e | ⟨e, k', hk', hr⟩
        · exact .inl e
        · exact .inr ⟨e, k', by omega, hr⟩)
    have e : rndB ch f net T = rndG (fun _ => T) ch f net T := rfl
    rw [e]
    refine ⟨by omega, g3, fun k' u t hk h => ?_⟩
    cases h with
    | base =>
      obtain ⟨a1, a2⟩ := h3 0 f t0 (Nat.zero_le _) .base
      obtain ⟨a3, a4⟩ := g2 f hf.1 a1
      exact ⟨a3, by omega⟩
    | ride h hh hs =>
      obtain ⟨a1, a2⟩ := h3 _ _ _ (by omega) h
      exact g4 _ _ _ _ hh a1 (by omega)

theorem tabB_few (ok : okNet n net = true) (hf : 0 ≤ f ∧ f < n) (ht : 0 ≤ t0 ∧ t0 ≤ 10000) {u : Int} (hu : 0 ≤ u ∧ u < n) {k : Nat} (h : FewIs net ch f t0 u k) :
    0 ≤ fT (tabB n net ch f t0 k) u ∧ ∀ k', k' < k → fT (tabB n net ch f t0 k') u < 0 := by
  obtain ⟨⟨t, h1⟩, h2⟩ := h
  refine ⟨((itB_inv ok hf ht k).2.2 k u t (Nat.le_refl _) h1).1, fun k' hk' => ?_⟩
  obtain ⟨g1, g2, _⟩ := itB_inv (ch := ch) ok hf ht k'
  rcases g2 u hu.1 (by omega) with e | ⟨_, k2, hk2, hr⟩
  · unfold tabB; omega
  · exact absurd hr (h2 k2 _ (by omega))

end

end Go.Proofs.Ytmkcnoaphoiiaaa
/- The program's postTableOf. -/
namespace Go.Proofs.Ytmkcnoaphoiiaaa
open Go.RowKit

theorem impr_one (T : Tbl) (x : Ltr) : (impr κ1 T x).2 = beat (T 0 x.u) x ∧ (impr κ1 T x).1 0 = upT (T 0) x := by
  unfold impr κ1
  dsimp only
  by_cases hb : beat (T 0 x.u) x = true
  · rw [if_pos ⟨rfl, hb⟩]
    refine ⟨hb.symm, ?_⟩
    funext u
    unfold putT upT
    simp [hb]
  · rw [if_neg (fun h => hb h.2)]
    have hb' := Bool.eq_false_iff.2 hb
    exact ⟨hb'.symm, (upT_no hb').symm⟩

theorem callA (tb eb pb N : Nat) (B0 : Nat) : CallsspreadA κ1 (N : Int) (fun T w => PTab w tb eb pb N (T 0)) (fun p => p = eb) B0 tb := by
  intro T x w h _ hu0 hu1 _ _ _ _
  obtain ⟨e1, e2⟩ := impr_one T x
  refine (improve_any tb eb pb N (T 0) x.u x.t x.r w h ⟨hu0, hu1⟩).mono ?_
  rintro e w' ⟨rfl, h2, h3⟩
  exact ⟨by rw [e1], by show PTab w' tb eb pb N ((impr κ1 T x).1 0); rw [e2]; exact h2, h3⟩

def okT7 (n : Int) (net : List (List Rd)) (f t0 ch : Int) : Bool := okP n net ch && isTown n f && isT t0
/-- What postTableOf gives. -/
def PtOf (n : Int) (net : List (List Rd)) (f t0 ch : Int) (w : World) (e : Ending) (w' : World) : Prop :=
  (okT7 n net f t0 ch = true → ∃ tb eb pb a cap cb tbs hss B, e = .returned (.tuple #[.pointer (some ⟨tb, 0, none⟩), .bool true]) ∧ PTab w' tb eb pb n.toNat (tab1 net ch f t0 0) ∧ PNet w' B pb a cap cb tbs hss net ch ∧ Below w.heap.size w w') ∧
  (okT7 n net f t0 ch = false → e = .returned (.tuple #[.pointer none, .bool false]) ∧ Below w.heap.size w w')
theorem ptOf_no {n : Int} {net : List (List Rd)} {f t0 ch : Int} {w w' : World} {e : Ending} (h : okT7 n net f t0 ch = false) (he : e = .returned (.tuple #[.pointer none, .bool false])) (hb : Below w.heap.size w w') : PtOf n net f t0 ch w e w' :=
  ⟨fun h' => (by rw [h] at h'; cases h'), fun _ => ⟨he, hb⟩⟩
theorem okT7_iff {n : Int} {net : List (List Rd)} {f t0 ch : Int} : okT7 n net f t0 ch = true ↔ okNet n net = true ∧ (0 ≤ ch ∧ ch ≤ 300) ∧ (0 ≤ f ∧ f < n) ∧ (0 ≤ t0 ∧ t0 ≤ 10000) := by
  unfold okT7 okP
  rw [Bool.and_eq_true, Bool.and_eq_true, Bool.and_eq_true, isTown_iff, isT_iff, okDl_iff]
  constructor
  · rintro ⟨⟨⟨a, b⟩, c⟩, d⟩; exact ⟨a, b, c, d⟩
  · rintro ⟨a, b, c, d⟩; exact ⟨⟨⟨a, b⟩, c⟩, d⟩

set_option maxRecDepth 100000 in
set_option maxHeartbeats 2000000 in
theorem ptOf_any (n : Int) (v : Value) (net : List (List Rd)) (f t0 ch : Int) (w : World) (hv : NtIn w v net) (hm : totN net ≤ 1048577) :
    Calls Try.prog 66 #[.int .i64 n, v, .int .i64 f, .int .i64 t0, .int .i64 ch] w (PtOf n net f t0 ch w) := by
  have HC := Lib.hid (pnOf_any n v net ch w hv hm)
  have Hk := Lib.hid (show okT7 n net f t0 ch = (okP n net ch && isTown n f && isT t0) from rfl)
  clear hv hm
  cases hp : okP n net ch with
  | false =>
    have Ho := Lib.hid (show okT7 n net f t0 ch = false by rw [Hk.out, hp]; rfl)
    have Hp := Lib.hid hp; clear hp Hk
    go_enter Try.func66, Try.ntmps66
    go_wp2_with fail
    refine HC.out.mono ?_; rintro e w1 ⟨_, h1⟩
    obtain ⟨rfl, hb⟩ := h1 Hp.out
    clear h1 HC
    go_wp2
    go_ret2
    exact ptOf_no Ho.out rfl hb
  | true =>
    have Hp := Lib.hid hp
    rw [hp, Bool.true_and] at Hk
    clear hp
    go_enter Try.func66, Try.ntmps66
    go_wp2_with fail
    refine HC.out.mono ?_; rintro e w1 ⟨h1, _⟩
    obtain ⟨pb, a, cap, cb, tbs, hss, rfl, hP, hb⟩ := h1 Hp.out
    have HP := Lib.hid hP
    have HB := Lib.hid hb
    clear h1 HC hP hb
    go_wp2_with fail
    refine (hasTown_any n f _).mono ?_; rintro e w' ⟨rfl, rfl⟩
    cases hq : isTown n f with
    | false =>
      have Ho := Lib.hid (show okT7 n net f t0 ch = false by rw [Hk.out, hq]; rfl)
      clear hq Hk
      go_wp2
      go_ret2
      exact ptOf_no Ho.out rfl HB.out
    | true =>
      rw [hq, Bool.true_and] at Hk
      clear hq
      go_wp2_with fail
      refine (isTime_any t0 _).mono ?_; rintro e w2 ⟨rfl, rfl⟩
      cases hq : isT t0 with
      | false =>
        have Ho := Lib.hid (show okT7 n net f t0 ch = false by rw [Hk.out, hq])
        clear hq Hk
        go_wp2
        go_ret2
        exact ptOf_no Ho.out rfl HB.out
      | true =>
        have ho : okT7 n net f t0 ch = true := by rw [Hk.out, hq]
        have Ho := Lib.hid ho
        obtain ⟨o1, ⟨o2, o3⟩, ⟨o4, o5⟩, o6, o7⟩ := okT7_iff.1 ho
        have n8 := (okNet_iff.1 o1).1.2.1
        have O1 := Lib.hid o1
        clear hq Hk ho o1
        obtain ⟨N, rfl⟩ : ∃ N : Nat, n = (N : Int) := ⟨n.toNat, by omega⟩
        have hN : N ≤ 8 := by omega
        go_wp2_with fail
        refine (newTable_any pb N _ hN).mono ?_; rintro e w3 ⟨rfl, hT, hb3⟩
        have HP3 := Lib.hid (HP.out.below hb3)
        have HB3 := Lib.hid hb3
        have hlt := hT.top.lt
        have HS := Lib.hid (spreadA_any (κ := κ1) (n := (N : Int)) (net := net) (ch := ch) (w'.heap.size + 1) (fun T w => PTab w (w'.heap.size + 1) w'.heap.size pb N (T 0)) (fun p => p = w'.heap.size) w'.heap.size w3.heap.size pb a cap cb tbs hss O1.out o2 o3
          (fun T w w' h hb => h.below hb) (fun p hp => by rw [hp]; exact ⟨Nat.le_refl _, by omega⟩) (callA _ _ pb N _) 10001 noT ⟨f, t0, 0⟩ w3 hT HP3.out (Nat.le_refl _) o4 o5 o6 o7 (Int.le_refl _) (by simp only; omega) (by simp only; omega))
        unfold ltV at HS
        clear hT hb3
        go_wp2_with fail
        refine HS.out.mono ?_; rintro e w4 ⟨rfl, hT4, htt⟩
        have hb4 := htt.below (B := w'.heap.size) (fun p hp => by rw [hp]; exact Nat.le_refl _) (by omega)
        have Hfin := Lib.hid (show PtOf (N : Int) net f t0 ch w (.returned (.tuple #[.pointer (some ⟨w'.heap.size + 1, 0, none⟩), .bool true])) w4 from
          ⟨fun _ => ⟨_, _, pb, a, cap, cb, tbs, hss, _, rfl, hT4, HP3.out.below hb4, HB.out.trans ((HB3.out.trans hb4).mono HB.out.size)⟩, fun h => by rw [Ho.out] at h; cases h⟩)
        clear hT4 htt hb4 HS
        go_wp2
        go_ret2
        exact Hfin.out

/-- What the table says of a town. -/
theorem tmO_timeT (net : List (List Rd)) (ch f t0 u : Int) : tmO (tab1 net ch f t0 0 u) = timeT (tab1 net ch f t0) u := rfl

theorem pt_at {n : Int} {net : List (List Rd)} {f t0 ch : Int} (h : okT7 n net f t0 ch = true) {u : Int} (h0 : 0 ≤ u) (hn : u < n) : timeT (tab1 net ch f t0) u = fT (tabA n net ch f t0) u := by
  obtain ⟨o1, ⟨o2, _⟩, o3, o4⟩ := okT7_iff.1 h
  exact IsTab.uniq (tab1_isTab o1 o2 o4) (tabA_isTab o1 o2 o3 o4) h0 hn

theorem tabA_bd {n : Int} {net : List (List Rd)} {f t0 ch : Int} (h : okT7 n net f t0 ch = true) {u : Int} (h0 : 0 ≤ u) (hn : u < n) : -1 ≤ fT (tabA n net ch f t0) u ∧ fT (tabA n net ch f t0) u ≤ 10000 := by
  obtain ⟨o1, ⟨o2, _⟩, o3, o4⟩ := okT7_iff.1 h
  rcases (tabA_isTab o1 o2 o3 o4).2 u h0 hn with e | ⟨k, e⟩
  · omega
  · have := e.time o1 o4; omega

def ptX (n : Int) (net : List (List Rd)) (f t0 ch : Int) : List Int := if okT7 n net f t0 ch = true then tabA n net ch f t0 else []
theorem ptX_no {n : Int} {net : List (List Rd)} {f t0 ch : Int} (h : okT7 n net f t0 ch = false) : ptX n net f t0 ch = [] := by unfold ptX; rw [h]; rfl
theorem ptX_yes {n : Int} {net : List (List Rd)} {f t0 ch : Int} (h : okT7 n net f t0 ch = true) : ptX n net f t0 ch = tabA n net ch f t0 := by unfold ptX; rw [h]; rfl
theorem ptX_len {n : Int} {net : List (List Rd)} {f t0 ch : Int} : (ptX n net f t0 ch).length ≤ 8 := by
  cases h : okT7 n net f t0 ch with
  | false => rw [ptX_no h]; simp
  | true =>
    obtain ⟨o1, ⟨o2, _⟩, o3, o4⟩ := okT7_iff.1 h
    rw [ptX_yes h]
    have := tabA_len (ch := ch) o1 o3 o4
    have := (okNet_iff.1 o1).1.2.1
    omega
def paX (n : Int) (net : List (List Rd)) (f to t0 ch : Int) : Int := if okT7 n net f t0 ch = true ∧ isTown n to = true then fT (tabA n net ch f t0) to else -1
def rchB (T : List Int) (until_ : Int) (i : Nat) : Bool := decide (0 ≤ fT T (i : Int)) && decide (fT T (i : Int) ≤ until_)
def rchTo (T : List Int) (until_ : Int) (k : Nat) : List Int := ((List.range k).filter (rchB T until_)).map fun i : Nat => (i : Int)
def rchX (n : Int) (net : List (List Rd)) (f t0 ch until_ : Int) : List Int := if okT7 n net f t0 ch = true then rchTo (tabA n net ch f t0) until_ n.toNat else []
theorem rchTo_succ (T : List Int) (u : Int) (k : Nat) : rchTo T u (k + 1) = rchTo T u k ++ (if rchB T u k = true then [(k : Int)] else []) := by
  unfold rchTo
  rw [List.range_succ, List.filter_append, List.map_append]
  congr 1
  by_cases h : rchB T u k = true
  · rw [if_pos h]; simp [h]
  · rw [if_neg h]; simp [h]
theorem rchTo_len (T : List Int) (u : Int) (k : Nat) : (rchTo T u k).length ≤ k := by
  unfold rchTo
  rw [List.length_map]
  exact Nat.le_trans (List.length_filter_le _ _) (by simp)
theorem rchX_len {n : Int} {net : List (List Rd)} {f t0 ch u : Int} : (rchX n net f t0 ch u).length ≤ 8 := by
  unfold rchX
  split
  · rename_i h
    obtain ⟨o1, _⟩ := okT7_iff.1 h
    have := (okNet_iff.1 o1).1.2.1
    have := rchTo_len (tabA n net ch f t0) u n.toNat
    omega
  · simp

end Go.Proofs.Ytmkcnoaphoiiaaa
/- Nets, pure: journeys go back; the latest leaving is the earliest coming in the net that goes back. -/
namespace Go.Proofs.Ytmkcnoaphoiiaaa

/-- A journey that leaves u at s and ends in v at a. -/
inductive Jy (net : List (List Rd)) (ch : Int) : Int → Int → Int → Int → Prop where
  | one {u s v a : Int} : Hop net u s v a → Jy net ch u s v a
  | more {u s v a s' x b : Int} : Jy net ch u s v a → Hop net v s' x b → a + ch ≤ s' → Jy net ch u s x b

section
variable {n : Int} {net : List (List Rd)} {ch f t0 : Int}

theorem Jy.front {u s v a : Int} (h : Hop net u s v a) {s' x b : Int} (h' : Jy net ch v s' x b) (hs : a + ch ≤ s') : Jy net ch u s x b := by
  induction h' with
  | one h2 => exact .more (.one h) h2 hs
  | more _ h3 h4 ih => exact .more ih h3 h4

theorem Jy.first {u s v a : Int} (h : Jy net ch u s v a) : ∃ v' a', Hop net u s v' a' := by
  induction h with
  | one h => exact ⟨_, _, h⟩
  | more _ _ _ ih => exact ih

theorem Jy.rch (hc : 0 ≤ ch) {s v a : Int} (h : Jy net ch f s v a) (hs : t0 ≤ s) : Rch net ch f t0 v a := by
  induction h with
  | one h2 => exact Rch.base.ride h2 (by unfold dl; rw [if_pos rfl]; omega)
  | more h1 h3 h4 ih =>
    refine Rch.ride ih h3 ?_
    rename_i v a s' x b
    have := dl_le (f := f) hc v
    omega

theorem Rn.jy (ok : okNet n net = true) (hc : 0 ≤ ch) {k : Nat} {v t : Int} (h : Rn net ch f t0 k v t) : (v = f ∧ t0 ≤ t) ∨ ∃ s a, t0 ≤ s ∧ Jy net ch f s v a ∧ a ≤ t := by
  induction h with
  | base => exact .inl ⟨rfl, Int.le_refl _⟩
  | ride h hh hs ih =>
    rename_i k u t s v a
    have hge := h.ge ok hc
    by_cases huf : u = f
    · subst huf
      refine .inr ⟨s, a, ?_, .one hh, Int.le_refl _⟩
      have := dl_nn (f := u) hc u
      omega
    · rcases ih with ⟨e, _⟩ | ⟨s1, a1, h1, h2, h3⟩
      · exact absurd e huf
      · refine .inr ⟨s1, a, h1, .more h2 hh ?_, Int.le_refl _⟩
        unfold dl at hs
        rw [if_neg huf] at hs
        omega

theorem Jy.rev {net' : List (List Rd)} {K : Int} (H : ∀ u s v a, Hop net u s v a → Hop net' v (K - a) u (K - s)) {u s v a : Int} (h : Jy net ch u s v a) : Jy net' ch v (K - a) u (K - s) := by
  induction h with
  | one h => exact .one (H _ _ _ _ h)
  | more _ h3 h4 ih => exact Jy.front (H _ _ _ _ h3) ih (by omega)

/-- The coach that goes back, stop by stop. -/
theorem back_at {l : List Rd} (hz : validS n l = true) {i : Nat} (hi : i < l.length) : (backTo l 10000 0).getD i rd0 = ⟨(l.getD (l.length - 1 - i) rd0).a, 10000 - (l.getD (l.length - 1 - i) rd0).m, 10000 - (l.getD (l.length - 1 - i) rd0).b⟩ := by
  have hj : l.length - 1 - i < l.length := by omega
  have hv := validS_at hz hj
  have e : (backTo l 10000 0).getD i rd0 = bacR 10000 (l.getD (l.length - 1 - i) rd0) := by
    rw [getD_eq _ (by rw [backTo_len]; omega), getD_eq l hj]
    unfold backTo
    simp
  rw [e]
  unfold bacR
  rw [IntWalk.i64_in _ (by omega), IntWalk.i64_in _ (by omega)]

theorem back_valid {l : List Rd} (hz : validS n l = true) : validS n (backTo l 10000 0) = true := by
  obtain ⟨⟨h1, h2, h3, h4⟩, h5⟩ := validS_iff.1 hz
  have hlen := backTo_len l 10000 0
  refine validS_iff.2 ⟨⟨h1, h2, by omega, by omega⟩, fun i hi => ?_⟩
  have hi' : i < l.length := by omega
  have hj : l.length - 1 - i < l.length := by omega
  obtain ⟨g1, g2, g3⟩ := (okS_iff _ _ _).1 (h5 _ hj)
  have g4 := (fitsS_iff _ _).1 g1
  have hva := validS_at hz hj
  refine (okS_iff _ _ _).2 ⟨?_, ?_, ?_⟩
  · rw [back_at hz hi']
    exact (fitsS_iff _ _).2 ⟨g4.1, g4.2.1, by simp only; omega, by simp only; omega, by simp only; omega⟩
  · cases i with
    | zero => unfold lastS; rw [back_at hz hi']; simp only; omega
    | succ j =>
      have e : lastS (backTo l 10000 0) (j + 1) = ((backTo l 10000 0).getD j rd0).m := rfl
      rw [e, back_at hz hi', back_at hz (show j < l.length by omega)]
      have := validS_lt hz (show l.length - 1 - (j + 1) < l.length - 1 - j by omega) (by omega)
      simp only
      omega
  · refine (newS_iff _ _ _).2 fun j hj2 => ?_
    rw [back_at hz hi', back_at hz (show j < l.length by omega)]
    have := validS_ne hz (show l.length - 1 - i < l.length - 1 - j by omega) (by omega)
    simp only
    intro e
    exact this e.symm

theorem backOk_yes {l : List Rd} (hz : validS n l = true) : backOk n l 10000 = true := by
  unfold backOk; rw [hz, back_valid hz]; rfl

theorem bk_ok (ok : okNet n net = true) : bkOk n net 10000 = true := by
  obtain ⟨_, h2⟩ := okNet_iff.1 ok
  unfold bkOk
  rw [ok, Bool.true_and, List.all_eq_true]
  intro l hl
  obtain ⟨c, hc, rfl⟩ := List.getElem_of_mem hl
  rw [← coach_eq hc]
  exact backOk_yes (h2 c hc)

/-- The net that goes back. -/
def bkN (net : List (List Rd)) : List (List Rd) := bkM 10000 net net.length
theorem bkN_len : (bkN net).length = net.length := bkM_len (Nat.le_refl _)
theorem bkN_at {c : Nat} (h : c < net.length) : coach (bkN net) c = backTo (coach net c) 10000 0 := bkM_at h (Nat.le_refl _)
theorem bkN_ok (ok : okNet n net = true) : okNet n (bkN net) = true := by
  obtain ⟨⟨h1, h2, h3⟩, h4⟩ := okNet_iff.1 ok
  refine okNet_iff.2 ⟨⟨h1, h2, by rw [bkN_len]; exact h3⟩, fun c hc => ?_⟩
  rw [bkN_len] at hc
  rw [bkN_at hc]
  exact back_valid (h4 c hc)
theorem bkX_is (ok : okNet n net = true) : bkX n net 10000 = bkN net := bkX_yes (bk_ok ok)

theorem hop_back (ok : okNet n net = true) {u s v a : Int} (h : Hop net u s v a) : Hop (bkN net) v (10000 - a) u (10000 - s) := by
  obtain ⟨c, i, j, hc, hij, hj, rfl, rfl, rfl, rfl⟩ := h
  have hz := (okNet_iff.1 ok).2 c hc
  have hl := backTo_len (coach net c) 10000 0
  refine ⟨c, (coach net c).length - 1 - j, (coach net c).length - 1 - i, by rw [bkN_len]; exact hc, by omega, by rw [bkN_at hc]; omega, ?_, ?_, ?_, ?_⟩ <;>
    unfold stp <;> rw [bkN_at hc, back_at hz (by omega)]
  · rw [show (coach net c).length - 1 - ((coach net c).length - 1 - j) = j by omega]
  · rw [show (coach net c).length - 1 - ((coach net c).length - 1 - j) = j by omega]
  · rw [show (coach net c).length - 1 - ((coach net c).length - 1 - i) = i by omega]
  · rw [show (coach net c).length - 1 - ((coach net c).length - 1 - i) = i by omega]

theorem hop_forth (ok : okNet n net = true) {u s v a : Int} (h : Hop (bkN net) u s v a) : Hop net v (10000 - a) u (10000 - s) := by
  obtain ⟨c, i, j, hc, hij, hj, rfl, rfl, rfl, rfl⟩ := h
  rw [bkN_len] at hc
  have hz := (okNet_iff.1 ok).2 c hc
  have hl := backTo_len (coach net c) 10000 0
  rw [bkN_at hc] at hj
  refine ⟨c, (coach net c).length - 1 - j, (coach net c).length - 1 - i, hc, by omega, by omega, ?_, ?_, ?_, ?_⟩ <;>
    unfold stp <;> rw [bkN_at hc, back_at hz (by omega)] <;> simp only <;> omega

/-- The latest leaving. -/
def IsLast (net : List (List Rd)) (ch f to t b : Int) : Prop := (∀ s a, Jy net ch f s to a → a ≤ t → s ≤ b) ∧ (b = -1 ∨ ∃ a, Jy net ch f b to a ∧ a ≤ t)

theorem IsLast.uniq (ok : okNet n net = true) {to t b b' : Int} (h : IsLast net ch f to t b) (h' : IsLast net ch f to t b') : b = b' := by
  have hp : ∀ s a, Jy net ch f s to a → 0 ≤ s := fun s a hj => by
    obtain ⟨v', a', hh⟩ := hj.first
    exact (hh.fwd ok).2.1
  rcases h.2 with e | ⟨a, e1, e2⟩ <;> rcases h'.2 with e' | ⟨a', e1', e2'⟩
  · omega
  · have := h.1 _ _ e1' e2'; have := hp _ _ e1'; omega
  · have := h'.1 _ _ e1 e2; have := hp _ _ e1; omega
  · have := h.1 _ _ e1' e2'; have := h'.1 _ _ e1 e2; omega

/-- By the table of the net that goes back. -/
theorem last_back (ok : okNet n net = true) (hc : 0 ≤ ch) {to t : Int} (hne : f ≠ to) (hf : 0 ≤ f ∧ f < n) {T : Int → Int} (hT : IsTab (bkN net) ch to (10000 - t) n T) :
    IsLast net ch f to t (if 0 ≤ T f then 10000 - T f else -1) := by
  have okb := bkN_ok ok
  have up : ∀ s a, Jy net ch f s to a → a ≤ t → 0 ≤ T f ∧ T f ≤ 10000 - s := fun s a hj ha => by
    have h1 := hj.rev (K := 10000) (fun _ _ _ _ h => hop_back ok h)
    exact hT.1 _ _ (h1.rch hc (by omega))
  refine ⟨fun s a hj ha => ?_, ?_⟩
  · obtain ⟨h1, h2⟩ := up s a hj ha
    rw [if_pos h1]; omega
  · by_cases h0 : 0 ≤ T f
    · rw [if_pos h0]
      right
      rcases hT.2 f hf.1 hf.2 with e | ⟨k, e⟩
      · omega
      · rcases e.jy okb hc with ⟨e1, _⟩ | ⟨s', a', h1, h2, h3⟩
        · exact absurd e1 hne
        · have hj := h2.rev (K := 10000) (fun _ _ _ _ h => hop_forth ok h)
          have h4 := up _ _ hj (by omega)
          have : a' = T f := by omega
          subst this
          exact ⟨_, hj, by omega⟩
    · rw [if_neg h0]; exact .inl rfl

/-- The model's: over all coaches. -/
def leTo (n : Int) (net : List (List Rd)) (f to t ch : Int) : Nat → Int
  | 0 => -1
  | k + 1 => match atS (coach net k) f with
    | none => leTo n net f to t ch k
    | some i => if (stp net k i).m ≤ leTo n net f to t ch k then leTo n net f to t ch k else if 0 ≤ paX n net f to (stp net k i).m ch ∧ paX n net f to (stp net k i).m ch ≤ t then (stp net k i).m else leTo n net f to t ch k

theorem pa_iff (ok : okNet n net = true) (hc : 0 ≤ ch ∧ ch ≤ 300) {to t m : Int} (hne : f ≠ to) (hf : 0 ≤ f ∧ f < n) (hto : 0 ≤ to ∧ to < n) (hm : 0 ≤ m ∧ m ≤ 10000) :
    (0 ≤ paX n net f to m ch ∧ paX n net f to m ch ≤ t) ↔ ∃ s a, m ≤ s ∧ Jy net ch f s to a ∧ a ≤ t := by
  have ho : okT7 n net f m ch = true := okT7_iff.2 ⟨ok, hc, hf, hm⟩
  have e : paX n net f to m ch = fT (tabA n net ch f m) to := by unfold paX; rw [if_pos ⟨ho, isTown_iff.2 hto⟩]
  have hT := tabA_isTab ok hc.1 hf hm (net := net) (ch := ch)
  rw [e]
  constructor
  · rintro ⟨h0, h1⟩
    rcases hT.2 to hto.1 hto.2 with e | ⟨k, e⟩
    · omega
    · rcases e.jy ok hc.1 with ⟨e1, _⟩ | ⟨s, a, h2, h3, h4⟩
      · exact absurd e1.symm hne
      · exact ⟨s, a, h2, h3, by omega⟩
  · rintro ⟨s, a, h1, h2, h3⟩
    have := hT.1 _ _ (h2.rch hc.1 h1)
    omega

theorem leTo_inv (ok : okNet n net = true) (hc : 0 ≤ ch ∧ ch ≤ 300) {to t : Int} (hne : f ≠ to) (hf : 0 ≤ f ∧ f < n) (hto : 0 ≤ to ∧ to < n) : ∀ k, k ≤ net.length →
    (∀ c i s a, c < k → i < (coach net c).length → (stp net c i).a = f → (stp net c i).m ≤ s → Jy net ch f s to a → a ≤ t → (stp net c i).m ≤ leTo n net f to t ch k) ∧
    (leTo n net f to t ch k = -1 ∨ (∃ s a, leTo n net f to t ch k ≤ s ∧ Jy net ch f s to a ∧ a ≤ t)) ∧ leTo n net f to t ch k ≤ 10000 ∧ -1 ≤ leTo n net f to t ch k
  | 0, _ => ⟨fun c _ _ _ h => by omega, .inl rfl, by show (-1 : Int) ≤ 10000; decide, by show (-1 : Int) ≤ -1; decide⟩
  | k + 1, hk => by
    obtain ⟨h1, h2, h3, h5⟩ := leTo_inv ok hc hne hf hto (t := t) k (by omega)
    unfold leTo
    have hz := (okNet_iff.1 ok).2 k (by omega)
    cases hat : atS (coach net k) f with
    | none =>
      simp only
      refine ⟨fun c i s a hck hi ha hm hj hat2 => ?_, h2, h3, h5⟩
      by_cases e : c = k
      · subst e
        have := atS_one hz hi
        rw [show ((coach net c).getD i rd0).a = f from ha, hat] at this
        cases this
      · exact h1 c i s a (by omega) hi ha hm hj hat2
    | some i0 =>
      simp only
      obtain ⟨hi0, ha0⟩ := atS_in hat
      have hv := validS_at hz hi0
      have hm0 : 0 ≤ (stp net k i0).m ∧ (stp net k i0).m ≤ 10000 := by unfold stp; omega
      have hpa := pa_iff ok hc hne hf hto hm0 (t := t) (net := net)
      have same : ∀ i, i < (coach net k).length → (stp net k i).a = f → i = i0 := fun i hi ha => by
        have := atS_one hz hi
        rw [show ((coach net k).getD i rd0).a = f from ha, hat] at this
        injection this with this; exact this.symm
      split
      · rename_i hle
        refine ⟨fun c i s a hck hi ha hm hj hat2 => ?_, h2, h3, h5⟩
        by_cases e : c = k
        · subst e; rw [same i hi ha]; exact hle
        · exact h1 c i s a (by omega) hi ha hm hj hat2
      · rename_i hgt
        split
        · rename_i hp
          obtain ⟨s1, a1, g1, g2, g3⟩ := hpa.1 hp
          refine ⟨fun c i s a hck hi ha hm hj hat2 => ?_, .inr ⟨s1, a1, g1, g2, g3⟩, hm0.2, by omega⟩
          by_cases e : c = k
          · subst e; rw [same i hi ha]; exact Int.le_refl _
          · have := h1 c i s a (by omega) hi ha hm hj hat2; omega
        · rename_i hp
          refine ⟨fun c i s a hck hi ha hm hj hat2 => ?_, h2, h3, h5⟩
          by_cases e : c = k
          · subst e
            rw [same i hi ha] at hm
            exact absurd (hpa.2 ⟨s, a, hm, hj, hat2⟩) hp
          · exact h1 c i s a (by omega) hi ha hm hj hat2

theorem last_model (ok : okNet n net = true) (hc : 0 ≤ ch ∧ ch ≤ 300) {to t : Int} (hne : f ≠ to) (hf : 0 ≤ f ∧ f < n) (hto : 0 ≤ to ∧ to < n) : IsLast net ch f to t (leTo n net f to t ch net.length) := by
  obtain ⟨h1, h2, _, _⟩ := leTo_inv ok hc hne hf hto (t := t) net.length (Nat.le_refl _)
  have key : ∀ s a, Jy net ch f s to a → a ≤ t → s ≤ leTo n net f to t ch net.length := fun s a hj ha => by
    obtain ⟨v', a', c, i, j, hcc, hij, hj2, q1, q2, _, _⟩ := hj.first
    have := h1 c i s a hcc (by omega) q1 (by omega) hj ha
    omega
  refine ⟨key, ?_⟩
  rcases h2 with e | ⟨s, a, g1, g2, g3⟩
  · exact .inl e
  · have := key s a g2 g3
    have : s = leTo n net f to t ch net.length := by omega
    subst this
    exact .inr ⟨a, g2, g3⟩

def leX (n : Int) (net : List (List Rd)) (f to t ch : Int) : Int := if okT7 n net f t ch = true ∧ isTown n to = true then (if f = to then t else leTo n net f to t ch net.length) else -1

/-- What the program gives. -/
theorem leX_back {to t : Int} (h : okT7 n net f t ch = true) (hto : isTown n to = true) : leX n net f to t ch = if 0 ≤ timeT (tab1 (bkN net) ch to (10000 - t)) f then 10000 - timeT (tab1 (bkN net) ch to (10000 - t)) f else -1 := by
  obtain ⟨o1, o2, o3, o4⟩ := okT7_iff.1 h
  have hto2 := isTown_iff.1 hto
  have hT := tab1_isTab (f := to) (t0 := 10000 - t) (bkN_ok o1) o2.1 (by omega) (net := bkN net) (n := n)
  unfold leX
  rw [if_pos ⟨h, hto⟩]
  by_cases hft : f = to
  · rw [if_pos hft]
    subst hft
    have e := hT.from_ (bkN_ok o1) o2.1 o3
    rw [e, if_pos (by omega)]; omega
  · rw [if_neg hft]
    exact IsLast.uniq o1 (last_model o1 o2 hft o3 hto2) (last_back o1 o2.1 hft o3 hT)

end

end Go.Proofs.Ytmkcnoaphoiiaaa
/- Nets, pure: what the latest leaving is. -/
namespace Go.Proofs.Ytmkcnoaphoiiaaa

section
variable {n : Int} {net : List (List Rd)} {ch f to t : Int}

theorem paX_ge : -1 ≤ paX n net f to t ch ∧ paX n net f to t ch ≤ 10000 := by
  unfold paX
  split
  · rename_i h
    have := isTown_iff.1 h.2
    exact tabA_bd h.1 this.1 this.2
  · exact ⟨Int.le_refl _, by decide⟩

theorem paX_self (h : okT7 n net f t ch = true) : paX n net f f t ch = t := by
  obtain ⟨o1, o2, o3, o4⟩ := okT7_iff.1 h
  unfold paX
  rw [if_pos ⟨h, isTown_iff.2 o3⟩]
  exact (tabA_isTab o1 o2.1 o3 o4).from_ o1 o2.1 o3

theorem leave_law (h0 : 0 ≤ leX n net f to t ch) (ht : t ≤ 2000) :
    (0 ≤ paX n net f to (leX n net f to t ch) ch ∧ paX n net f to (leX n net f to t ch) ch ≤ t) ∧
    (paX n net f to (leX n net f to t ch + 1) ch = -1 ∨ t < paX n net f to (leX n net f to t ch + 1) ch) ∧ leX n net f to t ch ≤ leX n net f to (t + 5) ch ∧ leX n net f to t ch ≤ 10000 := by
  have hok : okT7 n net f t ch = true ∧ isTown n to = true := by
    unfold leX at h0
    split at h0
    · assumption
    · omega
  obtain ⟨o1, o2, o3, o4⟩ := okT7_iff.1 hok.1
  have hto := isTown_iff.1 hok.2
  have hok5 : okT7 n net f (t + 5) ch = true := okT7_iff.2 ⟨o1, o2, o3, by omega⟩
  have hge := paX_ge (n := n) (net := net) (f := f) (to := to) (t := leX n net f to t ch + 1) (ch := ch)
  by_cases hft : f = to
  · subst hft
    have e : leX n net f f t ch = t := by unfold leX; rw [if_pos hok, if_pos rfl]
    have e5 : leX n net f f (t + 5) ch = t + 5 := by unfold leX; rw [if_pos ⟨hok5, hok.2⟩, if_pos rfl]
    rw [e, e5, paX_self hok.1]
    have hok1 : okT7 n net f (t + 1) ch = true := okT7_iff.2 ⟨o1, o2, o3, by omega⟩
    rw [paX_self hok1]
    omega
  · have e : leX n net f to t ch = leTo n net f to t ch net.length := by unfold leX; rw [if_pos hok, if_neg hft]
    have e5 : leX n net f to (t + 5) ch = leTo n net f to (t + 5) ch net.length := by unfold leX; rw [if_pos ⟨hok5, hok.2⟩, if_neg hft]
    have hL := last_model o1 o2 hft o3 hto (t := t)
    have hL5 := last_model o1 o2 hft o3 hto (t := t + 5)
    rw [← e] at hL
    rw [← e5] at hL5
    generalize leX n net f to t ch = S at *
    generalize leX n net f to (t + 5) ch = Z at *
    obtain ⟨hL1, hL2⟩ := hL
    rcases hL2 with e9 | ⟨a, hj, ha⟩
    · omega
    · obtain ⟨v', a', hh⟩ := hj.first
      have hb := hh.fwd o1
      have hS : 0 ≤ S ∧ S ≤ 10000 := by omega
      refine ⟨(pa_iff o1 o2 hft o3 hto hS).2 ⟨S, a, Int.le_refl _, hj, ha⟩, ?_, hL5.1 S a hj (by omega), hS.2⟩
      by_cases h1 : S + 1 ≤ 10000
      · by_cases hc : 0 ≤ paX n net f to (S + 1) ch ∧ paX n net f to (S + 1) ch ≤ t
        · obtain ⟨s, a2, g1, g2, g3⟩ := (pa_iff o1 o2 hft o3 hto (t := t) (by omega)).1 hc
          have := hL1 s a2 g2 g3
          omega
        · omega
      · left
        unfold paX
        rw [if_neg (by
          rintro ⟨h9, _⟩
          have := (okT7_iff.1 h9).2.2.2
          omega)]

theorem leX_ge : -1 ≤ leX n net f to t ch := by
  unfold leX
  split
  · rename_i h
    obtain ⟨o1, o2, o3, o4⟩ := okT7_iff.1 h.1
    split
    · omega
    · rename_i hft
      exact (leTo_inv o1 o2 hft o3 (isTown_iff.1 h.2) net.length (Nat.le_refl _)).2.2.2
  · exact Int.le_refl _

end

end Go.Proofs.Ytmkcnoaphoiiaaa
/- The model's l7Ok, l7Ready. -/
namespace Go.Proofs.Ytmkcnoaphoiiaaa
open Go.RowKit

set_option maxRecDepth 100000 in
set_option maxHeartbeats 1000000 in
theorem l7Ok_any (n : Int) (v : Value) (net : List (List Rd)) (f t0 ch : Int) (w : World) (hv : NtIn w v net) (hm : totN net ≤ 1048577) (wn : W64 n) :
    Calls Try.prog 64 #[.int .i64 n, v, .int .i64 f, .int .i64 t0, .int .i64 ch] w (Gives (.bool (okT7 n net f t0 ch)) w) := by
  have HC := Lib.hid (netValid1_any n v net w hv hm)
  have Hk := Lib.hid (show okT7 n net f t0 ch = (okNet n net && okDl ch && isTown n f && isT t0) from rfl)
  clear hv hm
  cases hp : okNet n net with
  | false =>
    rw [hp] at HC
    have Ho := Lib.hid (show okT7 n net f t0 ch = false by rw [Hk.out, hp]; rfl)
    clear hp Hk
    go_enter Try.func64, Try.ntmps64
    go_wp2_with fail
    refine HC.out.mono ?_; rintro e w1 ⟨rfl, hb⟩
    go_wp2
    go_ret
    exact ⟨ret_bool (by rw [Ho.out]), hb⟩
  | true =>
    rw [hp] at HC Hk
    have hn := (okNet_iff.1 hp).1
    have n1 := hn.1
    have n8 := hn.2.1
    clear hp hn
    have hI := fun (x lo hi : Int) (w : World) => l6In_any x lo hi w
    by_cases hf : 0 ≤ f ∧ f ≤ n - 1
    · have hf1 : inB f 0 (n - 1) = true := (inB_iff _ _ _).2 hf
      have hf2 : isTown n f = true := isTown_iff.2 ⟨hf.1, by omega⟩
      rw [hf2] at Hk
      by_cases ht : 0 ≤ t0 ∧ t0 ≤ 10000
      · have ht1 : inB t0 0 10000 = true := (inB_iff _ _ _).2 ht
        rw [(isT_iff t0).2 ht] at Hk
        by_cases hc : 0 ≤ ch ∧ ch ≤ 300
        · have hc1 : inB ch 0 300 = true := (inB_iff _ _ _).2 hc
          rw [okDl_iff.2 hc] at Hk
          clear hf ht hc hf2 hI
          go_enter Try.func64, Try.ntmps64
          go_wp2_with fail
          refine HC.out.mono ?_; rintro e w1 ⟨rfl, hb⟩
          go_wp2_with (go_at_call 59; refine (l6In_any _ _ _ _).mono ?_; rintro e w' ⟨rfl, rfl⟩)
          go_ret
          exact ⟨ret_bool (by rw [Hk.out]; simp [hc1]), hb⟩
        · have hc1 : inB ch 0 300 = false := Bool.eq_false_iff.2 (fun h => hc ((inB_iff _ _ _).1 h))
          rw [show okDl ch = false from Bool.eq_false_iff.2 (fun h => hc (okDl_iff.1 h))] at Hk
          clear hf ht hc hf2 hI
          go_enter Try.func64, Try.ntmps64
          go_wp2_with fail
          refine HC.out.mono ?_; rintro e w1 ⟨rfl, hb⟩
          go_wp2_with (go_at_call 59; refine (l6In_any _ _ _ _).mono ?_; rintro e w' ⟨rfl, rfl⟩)
          go_ret
          exact ⟨ret_bool (by rw [Hk.out]; simp [hc1]), hb⟩
      · have ht1 : inB t0 0 10000 = false := Bool.eq_false_iff.2 (fun h => ht ((inB_iff _ _ _).1 h))
        rw [show isT t0 = false from Bool.eq_false_iff.2 (fun h => ht ((isT_iff t0).1 h))] at Hk
        clear hf ht hf2 hI
        go_enter Try.func64, Try.ntmps64
        go_wp2_with fail
        refine HC.out.mono ?_; rintro e w1 ⟨rfl, hb⟩
        go_wp2_with (go_at_call 59; refine (l6In_any _ _ _ _).mono ?_; rintro e w' ⟨rfl, rfl⟩)
        go_ret
        exact ⟨ret_bool (by rw [Hk.out]; simp), hb⟩
    · have hf1 : inB f 0 (n - 1) = false := Bool.eq_false_iff.2 (fun h => hf ((inB_iff _ _ _).1 h))
      rw [show isTown n f = false from Bool.eq_false_iff.2 (fun h => hf (by have := isTown_iff.1 h; omega))] at Hk
      clear hf hI
      go_enter Try.func64, Try.ntmps64
      go_wp2_with fail
      refine HC.out.mono ?_; rintro e w1 ⟨rfl, hb⟩
      go_wp2_with (go_at_call 59; refine (l6In_any _ _ _ _).mono ?_; rintro e w' ⟨rfl, rfl⟩)
      go_ret
      exact ⟨ret_bool (by rw [Hk.out]; simp), hb⟩

/-- A table of times in memory. -/
def TbOk (N : Nat) (T : List Int) : Prop := T.length = N ∧ ∀ i, i < N → -1 ≤ fT T (i : Int) ∧ fT T (i : Int) ≤ 10000
theorem fT_get {T : List Int} {i : Nat} (h : i < T.length) : fT T (i : Int) = T.getD i 0 := by
  rw [fT_at]; simp [List.getD, h]
structure TabAt (w : World) (g N : Nat) (T : List Int) : Prop where
  ok : TbOk N T
  lt : g < w.heap.size
  at_ : IntAt w g 0 T
  room : Room w g N

section
variable {w w' : World} {g N : Nat} {T : List Int}
theorem TabAt.cell (h : TabAt w g N T) {i : Nat} (hi : i < N) : w.cell? ⟨g, i, none⟩ = some (.int .i64 (fT T (i : Int))) := by
  have := h.at_ i (by rw [h.ok.1]; exact hi)
  rw [Nat.zero_add] at this
  rw [this, fT_get (by rw [h.ok.1]; exact hi)]
theorem TabAt.below (h : TabAt w g N T) (hb : Below w.heap.size w w') : TabAt w' g N T :=
  ⟨h.ok, Nat.lt_of_lt_of_le h.lt hb.size, h.at_.below hb h.lt, h.room.below hb h.lt⟩
theorem TabAt.set (h : TabAt w g N T) {i : Nat} (hi : i < N) {x : Int} (h0 : -1 ≤ x) (h1 : x ≤ 10000) : TabAt (w.setCell ⟨g, i, none⟩ (.int .i64 x)) g N (T.set i x) := by
  have hl := h.ok.1
  refine ⟨⟨by simpa using hl, fun j hj => ?_⟩, by simpa using h.lt, fun j hj => ?_, h.room.setCell _ _⟩
  · have e := fT_set (T := T) (a := (i : Int)) (x := x) (u := (j : Int)) (by omega) (by omega) (by omega)
    rw [show ((i : Int)).toNat = i from rfl] at e
    rw [e]
    split
    · exact ⟨h0, h1⟩
    · exact h.ok.2 j hj
  · simp only [List.length_set] at hj
    rw [Nat.zero_add]
    by_cases hij : i = j
    · subst hij
      obtain ⟨u, hu⟩ := h.room.1 i hi
      rw [World.cell?_setCell_same _ _ _ hu]
      simp [List.getD, hj]
    · rw [World.cell?_setCell_other _ _ _ _ (by intro e; injection e; omega)]
      have := h.at_ j hj
      rw [Nat.zero_add] at this
      rw [this]
      simp [List.getD, List.getElem?_set, hij]
end

set_option maxRecDepth 100000 in
set_option maxHeartbeats 1000000 in
theorem l7Ready_any (g N cap : Nat) (T : List Int) (f a b m ch : Int) (w : World) (h : TabAt w g N T) (ha : 0 ≤ a ∧ a < N) (hc0 : 0 ≤ ch) (hc1 : ch ≤ 300) :
    Calls Try.prog 96 #[.slice (some ⟨g, 0, none⟩) N cap, .int .i64 f, .agg #[.int .i64 a, .int .i64 b, .int .i64 m], .int .i64 ch] w (Gives (.bool (rdyX T ch f ⟨a, b, m⟩)) w) := by
  obtain ⟨i, rfl⟩ : ∃ i : Nat, a = (i : Int) := ⟨a.toNat, by omega⟩
  have hi : i < N := by omega
  have hi' : (i : Int) < (N : Int) := by omega
  have hb : Below w.heap.size w (w.alloc (.cells #[.int .i64 (i : Int), .int .i64 b, .int .i64 m] 77)) := (Below.refl _ _).alloc (Nat.le_refl _) _
  have hl := Whole.made w 77 #[.int .i64 (i : Int), .int .i64 b, .int .i64 m]
  have c0 := (h.below hb).cell hi
  have e0 : (w.alloc (.cells #[.int .i64 (i : Int), .int .i64 b, .int .i64 m] 77)).cell? ⟨w.heap.size, 0, none⟩ = some (.int .i64 (i : Int)) := hl.cell rfl
  have e2 : (w.alloc (.cells #[.int .i64 (i : Int), .int .i64 b, .int .i64 m] 77)).cell? ⟨w.heap.size, 2, none⟩ = some (.int .i64 m) := hl.cell rfl
  obtain ⟨x0, x1⟩ := h.ok.2 i hi
  have HB := Lib.hid hb
  have HR := Lib.hid (show rdyX T ch f ⟨(i : Int), b, m⟩ = (decide (0 ≤ fT T (i : Int)) && decide (fT T (i : Int) + dl ch f (i : Int) ≤ m)) from rfl)
  clear h hb hl ha
  generalize fT T (i : Int) = x at *
  by_cases hx : x < 0
  · have Hr := Lib.hid (show rdyX T ch f ⟨(i : Int), b, m⟩ = false by rw [HR.out, decide_eq_false (by omega)]; rfl)
    clear HR
    go_enter Try.func96, Try.ntmps96
    go_wp2
    go_ret
    exact ⟨ret_bool (by rw [Hr.out]), HB.out⟩
  · rw [decide_eq_true (show 0 ≤ x by omega), Bool.true_and] at HR
    by_cases hf : (i : Int) = f
    · rw [show dl ch f (i : Int) = 0 from if_pos hf, Int.add_zero] at HR
      have hq : ((i : Int) == f) = true := by simpa using hf
      have Hf := Lib.hid hf
      clear hf
      by_cases hm : x ≤ m
      · have hd : decide (x ≤ m) = true := decide_eq_true hm
        go_enter Try.func96, Try.ntmps96
        go_wp2
        go_quiet (fail)
        all_goals go_wp2
        all_goals go_ret
        all_goals exact ⟨ret_bool (by rw [HR.out, hd]), by first | exact HB.out | exact HB.out.drewN _ | exact HB.out.drew⟩
      · have hd : decide (x ≤ m) = false := decide_eq_false hm
        go_enter Try.func96, Try.ntmps96
        go_wp2
        go_quiet (fail)
        all_goals go_wp2
        all_goals go_ret
        all_goals exact ⟨ret_bool (by rw [HR.out, hd]), by first | exact HB.out | exact HB.out.drewN _ | exact HB.out.drew⟩
    · rw [show dl ch f (i : Int) = ch from if_neg hf] at HR
      have hq : ((i : Int) == f) = false := by simpa using hf
      have hw : wrap64 (x + ch) = x + ch := by unfold wrap64; omega
      have hw2 : IntKind.i64.wrap (x + ch) = x + ch := IntWalk.i64_in _ (by omega)
      clear hf
      by_cases hm : x + ch ≤ m
      · have hd : decide (x + ch ≤ m) = true := decide_eq_true hm
        go_enter Try.func96, Try.ntmps96
        go_wp2
        go_quiet (fail)
        all_goals go_wp2
        all_goals go_ret
        all_goals exact ⟨ret_bool (by rw [HR.out, hd]), by first | exact HB.out | exact HB.out.drewN _ | exact HB.out.drew⟩
      · have hd : decide (x + ch ≤ m) = false := decide_eq_false hm
        go_enter Try.func96, Try.ntmps96
        go_wp2
        go_quiet (fail)
        all_goals go_wp2
        all_goals go_ret
        all_goals exact ⟨ret_bool (by rw [HR.out, hd]), by first | exact HB.out | exact HB.out.drewN _ | exact HB.out.drew⟩

end Go.Proofs.Ytmkcnoaphoiiaaa
/- Rows of numbers that a function gives. -/
namespace Go.Proofs.Ytmkcnoaphoiiaaa
open Go.RowKit

theorem IntsOk.no {w w' : World} {g : Nat} (hg : w.heap.size ≤ g) (hl : g < w'.heap.size) (hb : Below w.heap.size w w') : IntsOk [] false w (.returned (.tuple #[.slice (some ⟨g, 0, none⟩) 0 0, .bool false])) w' :=
  ⟨some ⟨g, 0, none⟩, 0, rfl, Nat.le_refl _, fun h => absurd rfl h, fun j hj => by obtain ⟨o, ho⟩ := hj; cases ho; exact ⟨hg, hl⟩, hb⟩
theorem IntsOk.row {w wr : World} {B : Nat} {u : Value} {xs : List Int} (ok : Bool) (h : RowI wr B u xs) (hB : w.heap.size ≤ B) (hb : Below w.heap.size w wr) : IntsOk xs ok w (.returned (.tuple #[u, .bool ok])) wr := by
  obtain ⟨ad, cap, rfl, hc, ho, hin⟩ := h.row
  exact ⟨ad, cap, rfl, hc, ho, fun j hj => ⟨by have := (hin j hj).1; omega, (hin j hj).2⟩, hb⟩
/-- A row of numbers of the call's own, alone. -/
def IntsOne (xs : List Int) (w : World) (e : Ending) (w' : World) : Prop :=
  ∃ (ad : Option Addr) (cap : Nat), e = .returned (.slice ad xs.length cap) ∧ xs.length ≤ cap ∧ OwnI w' ad xs ∧ (∀ j, inBlk ad j → w.heap.size ≤ j ∧ j < w'.heap.size) ∧ Below w.heap.size w w'
theorem IntsOne.row {w wr : World} {B : Nat} {u : Value} {xs : List Int} (h : RowI wr B u xs) (hB : w.heap.size ≤ B) (hb : Below w.heap.size w wr) : IntsOne xs w (.returned u) wr := by
  obtain ⟨ad, cap, rfl, hc, ho, hin⟩ := h.row
  exact ⟨ad, cap, rfl, hc, ho, fun j hj => ⟨by have := (hin j hj).1; omega, (hin j hj).2⟩, hb⟩

end Go.Proofs.Ytmkcnoaphoiiaaa
/- The program's PostTable, PostArrive, PostReach. -/
namespace Go.Proofs.Ytmkcnoaphoiiaaa
open Go.RowKit

theorem one_int (w : World) (x : Int) : ∀ j u, ([Value.int .i64 x])[j]? = some u → (w.alloc (.cells #[.int .i64 x] 3)).cell? ((⟨w.heap.size, 0, none⟩ : Addr).add j) = some u := news1 w #[.int .i64 x] 3
theorem take_int {T : List Int} {k : Nat} (h : k < T.length) : T.take (k + 1) = T.take k ++ [fT T (k : Int)] := by
  rw [List.take_succ_eq_append_getElem h, fT_at]; simp [List.getD, h]

def PtRel (T : List Int) (w1 : World) (v iv : Value) (wr : World) : Prop := ∃ (k : Nat) (sv : Value), k ≤ T.length ∧ iv = .int .i64 k ∧ sv = v ∧ RowI wr w1.heap.size sv (T.take k) ∧ Below w1.heap.size w1 wr

set_option maxRecDepth 100000 in
set_option maxHeartbeats 2000000 in
theorem postTable2_any (n : Int) (v : Value) (net : List (List Rd)) (f t0 ch : Int) (w : World) (hv : NtIn w v net) (hm : totN net ≤ 1048577) :
    Calls Try.prog 29 #[.int .i64 n, v, .int .i64 f, .int .i64 t0, .int .i64 ch] w (IntsOk (ptX n net f t0 ch) (okT7 n net f t0 ch) w) := by
  have HC := Lib.hid (ptOf_any n v net f t0 ch w hv hm)
  obtain ⟨i0, hi, hz0, hz1, hz2⟩ := info_parts Try.info3
  clear hv hm
  cases ho : okT7 n net f t0 ch with
  | false =>
    have Ho := Lib.hid ho; clear ho
    go_enter Try.func29, Try.ntmps29
    go_wp2_with fail
    refine HC.out.mono ?_; rintro e w1 ⟨_, h1⟩
    obtain ⟨rfl, hb⟩ := h1 Ho.out
    have HB := Lib.hid hb
    clear h1 HC hb
    go_wp2
    go_ret2
    rw [ptX_no Ho.out]
    exact IntsOk.no HB.out.size (by simp) (HB.out.alloc HB.out.size _)
  | true =>
    have Ho := Lib.hid ho
    have Hat := Lib.hid (fun (u : Int) => pt_at ho (u := u))
    have Hx := Lib.hid (ptX_yes ho)
    obtain ⟨o1, ⟨o2, o3⟩, ⟨o4, o5⟩, o6, o7⟩ := okT7_iff.1 ho
    have n8 := (okNet_iff.1 o1).1.2.1
    obtain ⟨N, rfl⟩ : ∃ N : Nat, n = (N : Int) := ⟨n.toNat, by omega⟩
    have hlen : (tabA (N : Int) net ch f t0).length = N := by have := tabA_len (ch := ch) o1 ⟨o4, o5⟩ ⟨o6, o7⟩; omega
    have hN : N ≤ 8 := by omega
    clear ho o1 o2 o3 o4 o5 o6 o7 n8
    generalize tabA (N : Int) net ch f t0 = T at *
    have Hlen := Lib.hid hlen
    clear hlen
    go_enter Try.func29, Try.ntmps29
    go_wp2_with fail
    refine HC.out.mono ?_; rintro e w1 ⟨h1, _⟩
    obtain ⟨tb, eb, pb, _, _, _, _, _, _, rfl, hT, _, hb⟩ := h1 Ho.out
    rw [show (N : Int).toNat = N from rfl] at hT
    have HT := Lib.hid hT
    have HB := Lib.hid hb
    have HR := Lib.hid (RowI.made w1 w1.heap.size (Nat.le_refl _))
    have HB1 := Lib.hid ((Below.refl w1.heap.size w1).alloc (Nat.le_refl _) (.cells #[] 3))
    clear h1 HC hT hb
    go_wp2
    go_loopw [14, 30] (fun v iv wr => PtRel T w1 v iv wr) (fun _ iv _ => N - (intOf iv).toNat)
    case atStart => exact ⟨0, _, Nat.zero_le _, rfl, rfl, HR.out, HB1.out⟩
    case round =>
      obtain ⟨k, sv, hk, rfl, rfl, hrow, hbel⟩ := hrel
      rw [Hlen.out] at hk
      have HRr := Lib.hid hrow
      have HBr := Lib.hid hbel
      have hsz := hbel.size
      by_cases hlt : k < N
      · have hPT := HT.out.below hbel
        have Htk := Lib.hid (take_int (T := T) (k := k) (by rw [Hlen.out]; exact hlt))
        have Hv := Lib.hid (show tmO (tab1 net ch f t0 0 (k : Int)) = fT T (k : Int) from Hat.out (k : Int) (by omega) (by omega))
        have hlt' : (k : Int) < (N : Int) := by omega
        have hrow' : wr.ownsRow w1.heap.size 3 1 sv k ((T.take k).map (Value.int .i64)) := by
          have e : (T.take k).length = k := by rw [List.length_take, Hlen.out]; omega
          unfold RowI at hrow; rwa [e] at hrow
        have Hl := Lib.hid (show (T.take k).length = k by rw [List.length_take, Hlen.out]; omega)
        clear hrow hbel
        go_wp2_with fail
        refine (time_any tb eb pb N _ (k : Int) _ hPT (And.intro (Int.natCast_nonneg k) hlt')).mono ?_; rintro e w' ⟨rfl, rfl⟩
        rw [Hv.out]
        clear hPT
        obtain ⟨en, hen⟩ : ∃ en, en = (T.take k).map (Value.int .i64) := ⟨_, rfl⟩
        rw [← hen] at hrow'
        obtain ⟨x, hx⟩ : ∃ x, x = fT T (k : Int) := ⟨_, rfl⟩
        rw [← hx]
        have Hex := Lib.hid (And.intro hen hx)
        clear hen hx
        go_wp2_with (at_builtin; refine wpList_append_own _ rfl _ _ 38 rfl w1.heap.size 3 i0 _ 1 8 Try.underlying38 hi hz0 hz1 hz2 rfl (by decide) _ k en rfl (World.ownsRow.alloc hrow' _) ⟨w'.heap.size, 0, none⟩ 1 1 [.int .i64 x] rfl rfl (one_int w' x) (by simp [Value.oneCell']) (by simp only [maxLen]; omega) (by omega) (by simp; omega) ?_; intro v' w8 hown8 hgrow8 _; have HO8 := Lib.hid hown8; have HB8 := Lib.hid ((HBr.out.alloc HBr.out.size _).grown hgrow8 (by simp; omega) (fun j hj => (hrow'.lt j hj).1)); clear hown8 hgrow8 hrow')
        refine ⟨⟨k + 1, v', by rw [Hlen.out]; exact hlt, by go_num, rfl, ?_, HB8.out⟩, by simp [intOf]; omega⟩
        rw [Htk.out, ← Hex.out.2]
        refine RowI.snoc ?_
        rw [← Hex.out.1, Hl.out]
        exact HO8.out
      · obtain rfl : k = N := by omega
        clear hrow hbel
        go_wp2
        go_ret2
        rw [Hx.out]
        have hr := HRr.out
        rw [← Hlen.out, List.take_length] at hr
        exact IntsOk.row true hr HB.out.size (HB.out.trans (HBr.out.mono HB.out.size))

set_option maxRecDepth 100000 in
set_option maxHeartbeats 2000000 in
theorem postArrive2_any (n : Int) (v : Value) (net : List (List Rd)) (f to t0 ch : Int) (w : World) (hv : NtIn w v net) (hm : totN net ≤ 1048577) :
    Calls Try.prog 35 #[.int .i64 n, v, .int .i64 f, .int .i64 to, .int .i64 t0, .int .i64 ch] w (Gives (.int .i64 (paX n net f to t0 ch)) w) := by
  have HC := Lib.hid (ptOf_any n v net f t0 ch w hv hm)
  clear hv hm
  cases ho : okT7 n net f t0 ch with
  | false =>
    have Ho := Lib.hid ho
    have Hp := Lib.hid (show paX n net f to t0 ch = -1 by unfold paX; rw [if_neg (by rw [ho]; simp)])
    clear ho
    go_enter Try.func35, Try.ntmps35
    go_wp2_with fail
    refine HC.out.mono ?_; rintro e w1 ⟨_, h1⟩
    obtain ⟨rfl, hb⟩ := h1 Ho.out
    have HB := Lib.hid hb
    clear h1 HC hb
    go_wp2
    go_ret
    exact ⟨ret_int Hp.out.symm, HB.out⟩
  | true =>
    have Ho := Lib.hid ho
    have Hat := Lib.hid (fun (u : Int) => pt_at ho (u := u))
    obtain ⟨o1, _⟩ := okT7_iff.1 ho
    have n1 := (okNet_iff.1 o1).1.1
    obtain ⟨N, rfl⟩ : ∃ N : Nat, n = (N : Int) := ⟨n.toNat, by omega⟩
    have Hp := Lib.hid (show paX (N : Int) net f to t0 ch = if isTown (N : Int) to = true then fT (tabA (N : Int) net ch f t0) to else -1 by unfold paX; rw [ho]; simp)
    clear ho o1 n1
    generalize tabA (N : Int) net ch f t0 = T at *
    go_enter Try.func35, Try.ntmps35
    go_wp2_with fail
    refine HC.out.mono ?_; rintro e w1 ⟨h1, _⟩
    obtain ⟨tb, eb, pb, _, _, _, _, _, _, rfl, hT, _, hb⟩ := h1 Ho.out
    rw [show (N : Int).toNat = N from rfl] at hT
    have HT := Lib.hid hT
    have HB := Lib.hid hb
    clear h1 HC hT hb
    go_wp2_with fail
    refine (hasTown_any _ to _).mono ?_; rintro e w' ⟨rfl, rfl⟩
    cases hq : isTown (N : Int) to with
    | false =>
      rw [hq] at Hp
      clear hq
      go_wp2
      go_ret
      exact ⟨ret_int Hp.out.symm, HB.out⟩
    | true =>
      rw [hq, if_pos rfl] at Hp
      have hq2 := isTown_iff.1 hq
      have Hv := Lib.hid (show tmO (tab1 net ch f t0 0 to) = fT T to from Hat.out to hq2.1 hq2.2)
      clear hq
      go_wp2_with fail
      refine (time_any tb eb pb N _ to _ HT.out hq2).mono ?_; rintro e w2 ⟨rfl, rfl⟩
      rw [Hv.out]
      clear hq2
      go_wp2
      go_ret
      exact ⟨ret_int Hp.out.symm, HB.out⟩

def RcRel (T : List Int) (u : Int) (N : Nat) (w1 : World) (v iv : Value) (wr : World) : Prop := ∃ (k : Nat) (sv : Value), k ≤ N ∧ iv = .int .i64 k ∧ sv = v ∧ RowI wr w1.heap.size sv (rchTo T u k) ∧ Below w1.heap.size w1 wr

theorem tmO_some {o : Option Ltr} : (o.isSome = true → ∃ y, o = some y ∧ tmO o = y.t) ∧ (o.isSome = false → tmO o = -1) := by
  cases o with
  | none => exact ⟨fun h => by simp at h, fun _ => rfl⟩
  | some y => exact ⟨fun _ => ⟨y, rfl, rfl⟩, fun h => by simp at h⟩

set_option maxRecDepth 100000 in
set_option maxHeartbeats 2000000 in
theorem postReach2_any (n : Int) (v : Value) (net : List (List Rd)) (f t0 ch u : Int) (w : World) (hv : NtIn w v net) (hm : totN net ≤ 1048577) :
    Calls Try.prog 37 #[.int .i64 n, v, .int .i64 f, .int .i64 t0, .int .i64 ch, .int .i64 u] w (IntsOne (rchX n net f t0 ch u) w) := by
  have HC := Lib.hid (ptOf_any n v net f t0 ch w hv hm)
  obtain ⟨i0, hi, hz0, hz1, hz2⟩ := info_parts Try.info3
  clear hv hm
  cases ho : okT7 n net f t0 ch with
  | false =>
    have Ho := Lib.hid ho
    have Hp := Lib.hid (show rchX n net f t0 ch u = [] by unfold rchX; rw [ho]; rfl)
    clear ho
    go_enter Try.func37, Try.ntmps37
    go_wp2_with fail
    refine HC.out.mono ?_; rintro e w1 ⟨_, h1⟩
    obtain ⟨rfl, hb⟩ := h1 Ho.out
    have HB := Lib.hid hb
    clear h1 HC hb
    go_wp2
    go_ret
    rw [Hp.out]
    exact IntsOne.row (RowI.made w1 w.heap.size HB.out.size) (Nat.le_refl _) (HB.out.alloc HB.out.size _)
  | true =>
    have Ho := Lib.hid ho
    have Hat := Lib.hid (fun (u : Int) => pt_at ho (u := u))
    obtain ⟨o1, ⟨o2, o3⟩, ⟨o4, o5⟩, o6, o7⟩ := okT7_iff.1 ho
    have n8 := (okNet_iff.1 o1).1.2.1
    obtain ⟨N, rfl⟩ : ∃ N : Nat, n = (N : Int) := ⟨n.toNat, by omega⟩
    have Hp := Lib.hid (show rchX (N : Int) net f t0 ch u = rchTo (tabA (N : Int) net ch f t0) u N by unfold rchX; rw [ho]; rfl)
    have hN : N ≤ 8 := by omega
    have Hge := Lib.hid (fun (k : Nat) (hk : k < N) (y : Ltr) (e : tab1 net ch f t0 0 (k : Int) = some y) => (show 0 ≤ y.t by
      obtain ⟨⟨_, _, h2⟩, _⟩ := tab1_lok o1 o2 e
      have := h2.ge o1 o2; omega))
    clear ho o1 o2 o3 o4 o5 o6 o7 n8
    generalize tabA (N : Int) net ch f t0 = T at *
    go_enter Try.func37, Try.ntmps37
    go_wp2_with fail
    refine HC.out.mono ?_; rintro e w1 ⟨h1, _⟩
    obtain ⟨tb, eb, pb, _, _, _, _, _, _, rfl, hT, _, hb⟩ := h1 Ho.out
    rw [show (N : Int).toNat = N from rfl] at hT
    have HT := Lib.hid hT
    have HB := Lib.hid hb
    have HR := Lib.hid (RowI.made w1 w1.heap.size (Nat.le_refl _))
    have HB1 := Lib.hid ((Below.refl w1.heap.size w1).alloc (Nat.le_refl _) (.cells #[] 3))
    clear h1 HC hT hb
    go_wp2
    go_loopw [15, 31] (fun v iv wr => RcRel T u N w1 v iv wr) (fun _ iv _ => N - (intOf iv).toNat)
    case atStart => exact ⟨0, _, Nat.zero_le _, rfl, rfl, HR.out, HB1.out⟩
    case round =>
      obtain ⟨k, sv, hk, rfl, rfl, hrow, hbel⟩ := hrel
      have HRr := Lib.hid hrow
      have HBr := Lib.hid hbel
      have hsz := hbel.size
      by_cases hlt : k < N
      · have HPT := Lib.hid (HT.out.below hbel)
        have Htk := Lib.hid (rchTo_succ T u k)
        have hv9 : tmO (tab1 net ch f t0 0 (k : Int)) = fT T (k : Int) := Hat.out (k : Int) (by omega) (by omega)
        have hlt' : (k : Int) < (N : Int) := by omega
        have Hl := Lib.hid (rchTo_len T u k)
        have Hin := Lib.hid (And.intro (Int.natCast_nonneg k) hlt')
        have hge := Hge.out k hlt
        clear hrow hbel
        go_wp2_with fail
        refine (has_any tb eb pb N _ (k : Int) _ HPT.out Hin.out).mono ?_; rintro e w' ⟨rfl, rfl⟩
        cases hs : (tab1 net ch f t0 0 (k : Int)).isSome with
        | false =>
          have Hno := Lib.hid (show rchB T u k = false by
            unfold rchB; rw [← hv9, tmO_some.2 hs]; rfl)
          rw [Hno.out, if_neg (by simp), List.append_nil] at Htk
          clear hs hv9 hge
          go_wp2
          exact ⟨⟨k + 1, sv, hlt, by go_num, rfl, by rw [Htk.out]; exact HRr.out, HBr.out⟩, by simp [intOf]; omega⟩
        | true =>
          have hpos : 0 ≤ fT T (k : Int) := by
            obtain ⟨y, e1, e2⟩ := tmO_some.1 hs
            rw [← hv9, e2]; exact hge y e1
          clear hs hge
          go_wp2_with fail
          refine (time_any tb eb pb N _ (k : Int) _ HPT.out Hin.out).mono ?_; rintro e w2 ⟨rfl, rfl⟩
          rw [hv9]
          by_cases hu : fT T (k : Int) ≤ u
          · have Hyes := Lib.hid (show rchB T u k = true by unfold rchB; simp [hpos, hu])
            rw [Hyes.out, if_pos rfl] at Htk
            have hrow' := HRr.out
            unfold RowI at hrow'
            have hd : decide (fT T (k : Int) ≤ u) = true := decide_eq_true hu
            clear hu hv9 hpos
            generalize fT T (k : Int) = x at *
            obtain ⟨en, hen⟩ : ∃ en, en = (rchTo T u k).map (Value.int .i64) := ⟨_, rfl⟩
            rw [← hen] at hrow'
            have Hen := Lib.hid hen
            obtain ⟨m, hm⟩ : ∃ m, m = (rchTo T u k).length := ⟨_, rfl⟩
            rw [← hm] at hrow'
            have hm8 : m ≤ 8 := by have := Hl.out; omega
            have Hm := Lib.hid hm
            clear hen hm
            go_wp2_with (at_builtin; refine wpList_append_own _ rfl _ _ 38 rfl w1.heap.size 3 i0 _ 1 8 Try.underlying38 hi hz0 hz1 hz2 rfl (by decide) _ m en rfl (World.ownsRow.alloc hrow' _) ⟨w2.heap.size, 0, none⟩ 1 1 [.int .i64 (k : Int)] rfl rfl (one_int w2 (k : Int)) (by simp [Value.oneCell']) (by simp only [maxLen]; omega) (by omega) (by simp; omega) ?_; intro v' w8 hown8 hgrow8 _; have HO8 := Lib.hid hown8; have HB8 := Lib.hid ((HBr.out.alloc HBr.out.size _).grown hgrow8 (by simp; omega) (fun j hj => (hrow'.lt j hj).1)); clear hown8 hgrow8 hrow')
            refine ⟨⟨k + 1, v', hlt, by go_num, rfl, ?_, HB8.out⟩, by simp [intOf]; omega⟩
            rw [Htk.out]
            refine RowI.snoc ?_
            rw [← Hen.out, ← Hm.out]
            exact HO8.out
          · have Hno := Lib.hid (show rchB T u k = false by unfold rchB; simp [hu])
            rw [Hno.out, if_neg (by simp), List.append_nil] at Htk
            have hd : decide (fT T (k : Int) ≤ u) = false := decide_eq_false hu
            clear hv9
            go_wp2
            exact ⟨⟨k + 1, sv, hlt, by go_num, rfl, by rw [Htk.out]; exact HRr.out, HBr.out⟩, by simp [intOf]; omega⟩
      · obtain rfl : k = N := by omega
        clear hrow hbel
        go_wp2
        go_ret
        rw [Hp.out]
        exact IntsOne.row HRr.out HB.out.size (HB.out.trans (HBr.out.mono HB.out.size))

end Go.Proofs.Ytmkcnoaphoiiaaa
/- slices.Grow and slices.Concat of two parts, of numbers. -/
namespace Go.Proofs.Ytmkcnoaphoiiaaa
open Go.RowKit

theorem encI_len (l : List Int) : (l.map (Value.int .i64)).length = l.length * 1 := by simp
theorem encI_one (l : List Int) : ∀ u ∈ l.map (Value.int .i64), u.oneCell' = true := by
  intro u hu
  obtain ⟨x, _, rfl⟩ := List.mem_map.1 hu
  rfl
theorem RowI.more {w : World} {B : Nat} {v : Value} {l l' : List Int} (h : w.ownsRow B 3 1 v (l.length + l'.length) (l.map (Value.int .i64) ++ l'.map (Value.int .i64))) : RowI w B v (l ++ l') := by
  unfold RowI
  rw [List.length_append, List.map_append]
  exact h

/-- The first i parts behind one another. -/
def catI (pl : Nat → List Int) : Nat → List Int
  | 0 => []
  | i + 1 => catI pl i ++ pl i
theorem catI_len (pl : Nat → List Int) (i : Nat) : (catI pl (i + 1)).length = (catI pl i).length + (pl i).length := by simp [catI]
theorem catI_mono (pl : Nat → List Int) {i j : Nat} (h : i ≤ j) : (catI pl i).length ≤ (catI pl j).length := by
  induction j with
  | zero => obtain rfl : i = 0 := by omega
            exact Nat.le_refl _
  | succ j ih =>
    by_cases e : i = j + 1
    · subst e; exact Nat.le_refl _
    · have := ih (by omega); rw [catI_len]; omega

/-- Two slices lie from ⟨g, 0⟩ on; each part's cells can be appended. -/
structure PartsI (w : World) (g : Nat) (pa : Nat → Addr) (pc : Nat → Nat) (pl : Nat → List Int) : Prop where
  lt : g < w.heap.size
  cell : ∀ i, i < 2 → w.cell? ⟨g, i, none⟩ = some (.slice (some (pa i)) (pl i).length (pc i))
  blk : ∀ i, i < 2 → pl i ≠ [] → (pa i).block < w.heap.size
  news : ∀ i, i < 2 → ∀ j u, ((pl i).map (Value.int .i64))[j]? = some u → w.cell? ((pa i).add j) = some u

theorem addI_block (a : Addr) (j : Nat) : (a.add j).block = a.block := by
  unfold Addr.add; split <;> rfl

theorem PartsI.below {w w' : World} {g : Nat} {pa : Nat → Addr} {pc : Nat → Nat} {pl : Nat → List Int} (h : PartsI w g pa pc pl) (hb : Below w.heap.size w w') : PartsI w' g pa pc pl where
  lt := Nat.lt_of_lt_of_le h.lt hb.size
  cell i hi := (hb.cell (p := ⟨g, i, none⟩) h.lt).trans (h.cell i hi)
  blk i hi hn := Nat.lt_of_lt_of_le (h.blk i hi hn) hb.size
  news i hi j u hj := by
    have hn : pl i ≠ [] := by rintro e; rw [e] at hj; simp at hj
    exact (hb.cell (p := (pa i).add j) (by rw [addI_block]; exact h.blk i hi hn)).trans (h.news i hi j u hj)

def CcIRel (g : Nat) (pa : Nat → Addr) (pc : Nat → Nat) (pl : Nat → List Int) (w : World) (v iv : Value) (wr : World) : Prop :=
  ∃ i : Nat, i ≤ 2 ∧ iv = .int .i64 i ∧ RowI wr w.heap.size v (catI pl i) ∧ PartsI wr g pa pc pl ∧ Below w.heap.size w wr

def CsIRel (pl : Nat → List Int) (w : World) (v iv : Value) (wr : World) : Prop :=
  ∃ i : Nat, i ≤ 2 ∧ iv = .int .i64 i ∧ v = .int .i64 (catI pl i).length ∧ wr = w

end Go.Proofs.Ytmkcnoaphoiiaaa
/- slices.Clone of numbers; a number of a row of the call's own is set. -/
namespace Go.Proofs.Ytmkcnoaphoiiaaa
open Go.RowKit

/-- The cells of a part of a row, for an append. -/
theorem IntAt.news {w : World} {b o : Nat} {l : List Int} (h : IntAt w b o l) : ∀ j u, (l.map (Value.int .i64))[j]? = some u → w.cell? ((⟨b, o, none⟩ : Addr).add j) = some u := by
  intro j u hj
  have e : (⟨b, o, none⟩ : Addr).add j = ⟨b, o + j, none⟩ := by
    unfold Addr.add; split
    · rename_i h; rw [h]; simp
    · rfl
  rw [e]
  have hjl : j < l.length := by
    rw [List.getElem?_eq_some_iff] at hj
    obtain ⟨h1, _⟩ := hj
    simpa using h1
  rw [h j hjl]
  simp [List.getElem?_map, List.getElem?_eq_getElem hjl] at hj
  rw [← hj]; simp [List.getD, hjl]

def CpIOut (l : List Int) (w : World) (e : Ending) (w' : World) : Prop := ∃ v, e = .returned v ∧ RowI w' w.heap.size v l ∧ Below w.heap.size w w'

theorem RowI.setAt {w : World} {B g n cap : Nat} {l : List Int} (h : RowI w B (.slice (some ⟨g, 0, none⟩) n cap) l) (i : Nat) (v : Int) :
    RowI (w.setCell ⟨g, i, none⟩ (.int .i64 v)) B (.slice (some ⟨g, 0, none⟩) n cap) (l.set i v) := by
  obtain ⟨hlen, h⟩ := h
  rcases h with ⟨h1, h0⟩ | ⟨g', cap', cur, h1, hB, hh, hcap, hmax, hs, htk⟩
  · cases h1
  · injection h1 with h1 h2 h3
    injection h1 with h1
    injection h1 with h1
    subst h1 h2 h3
    unfold RowI
    rw [List.length_set]
    refine ⟨by simp, .inr ⟨g, cap, _, rfl, hB, Whole.set (show Whole w g _ cur from hh) i (.int .i64 v), hcap, hmax, by rw [Array.size_setIfInBounds]; exact hs, ?_⟩⟩
    rw [Array.toList_setIfInBounds, List.take_set, htk, List.map_set]
theorem RowI.open2 {w : World} {B : Nat} {v : Value} {l : List Int} (h : RowI w B v l) (h0 : 0 < l.length) : ∃ g cap, v = .slice (some ⟨g, 0, none⟩) l.length cap ∧ l.length ≤ cap ∧ IntAt w g 0 l ∧ Room w g l.length ∧ B ≤ g ∧ g < w.heap.size := by
  obtain ⟨ad, cap, rfl, hc, ho, hin⟩ := h.row
  obtain ⟨g, rfl, hlt, hat, hroom⟩ := ho (by rintro rfl; simp at h0)
  exact ⟨g, cap, rfl, hc, hat, hroom, (hin g ⟨0, rfl⟩).1, hlt⟩
theorem RowI.in_ {w : World} {B : Nat} {v : Value} {l : List Int} (h : RowI w B v l) : IntsIn w v l := by
  obtain ⟨ad, cap, rfl, hc, ho, _⟩ := h.row
  exact ho.ints hc

end Go.Proofs.Ytmkcnoaphoiiaaa
/- The model's l7Table. -/
namespace Go.Proofs.Ytmkcnoaphoiiaaa
open Go.RowKit

theorem upX_ok {N : Nat} {T : List Int} {s : Rd} (h : TbOk N T) (ha : 0 ≤ s.a ∧ s.a < N) (hb : 0 ≤ s.b ∧ s.b ≤ 10000) : TbOk N (upX T s) := by
  refine ⟨by rw [upX_len]; exact h.1, fun i hi => ?_⟩
  unfold upX
  split
  · rw [fT_set ha.1 (by rw [h.1]; exact ha.2) (by omega)]
    split
    · omega
    · exact h.2 i hi
  · exact h.2 i hi

def T1Rel (N : Nat) (w : World) (v iv : Value) (wr : World) : Prop := ∃ (k : Nat) (sv : Value), k ≤ N ∧ iv = .int .i64 k ∧ sv = v ∧ RowI wr w.heap.size sv (List.replicate k (-1)) ∧ Below w.heap.size w wr
def T2Rel (N : Nat) (ch f t0 : Int) (net : List (List Rd)) (g : Nat) (w : World) (iv : Value) (wr : World) : Prop := ∃ r : Nat, r ≤ N + 1 ∧ iv = .int .i64 r ∧ TabAt wr g N (itA ch f net (iniX N f t0) r) ∧ Below w.heap.size w wr
def T3Rel (N : Nat) (ch f : Int) (net : List (List Rd)) (T : List Int) (g : Nat) (w : World) (iv : Value) (wr : World) : Prop := ∃ c : Nat, c ≤ net.length ∧ iv = .int .i64 c ∧ TabAt wr g N ((net.take c).foldl (cchG id ch f) T) ∧ Below w.heap.size w wr
def T4Rel (N : Nat) (ch f : Int) (l : List Rd) (T : List Int) (g : Nat) (w : World) (ov iv : Value) (wr : World) : Prop := ∃ (i : Nat) (Ti : List Int) (on : Bool), i ≤ l.length ∧ iv = .int .i64 i ∧ ov = .bool on ∧ (l.take i).foldl (stG id ch f) (T, false) = (Ti, on) ∧ TabAt wr g N Ti ∧ Below w.heap.size w wr

theorem stG_off (rt : List Int → List Int) (ch f : Int) (T : List Int) (s : Rd) : stG rt ch f (T, false) s = (T, rdyX (rt T) ch f s) := rfl
theorem stG_on (rt : List Int → List Int) (ch f : Int) (T : List Int) (s : Rd) : stG rt ch f (T, true) s = (upX T s, true) := rfl

def L7Out (N : Nat) (T : List Int) (w : World) (e : Ending) (w' : World) : Prop :=
  ∃ g cap, e = .returned (.slice (some ⟨g, 0, none⟩) N cap) ∧ N ≤ cap ∧ w.heap.size ≤ g ∧ TabAt w' g N T ∧ Below w.heap.size w w'

set_option maxRecDepth 100000 in
set_option maxHeartbeats 4000000 in
theorem l7Table_any (N : Nat) (v : Value) (net : List (List Rd)) (f t0 ch : Int) (w : World) (hv : NtIn w v net) (hm : totN net ≤ 1048577) (ho : okT7 (N : Int) net f t0 ch = true) :
    Calls Try.prog 65 #[.int .i64 (N : Int), v, .int .i64 f, .int .i64 t0, .int .i64 ch] w (L7Out N (tabA (N : Int) net ch f t0) w) := by
  obtain ⟨o1, ⟨o2, o3⟩, ⟨o4, o5⟩, o6, o7⟩ := okT7_iff.1 ho
  have hn8 := (okNet_iff.1 o1).1.2.1
  have hN : N ≤ 8 := by omega
  have O1 := Lib.hid o1
  have Hfin := Lib.hid (show tabA (N : Int) net ch f t0 = itA ch f net (iniX N f t0) (N + 1) from rfl)
  obtain ⟨i0, hi, hz0, hz1, hz2⟩ := info_parts Try.info3
  obtain ⟨a, cap, rfl, hcap, ha⟩ := hv
  have hl1 : net.length ≤ 6 := (okNet_iff.1 o1).1.2.2
  have Ha := Lib.hid ha
  have Hm := Lib.hid hm
  obtain ⟨F, rfl⟩ : ∃ F : Nat, f = (F : Int) := ⟨f.toNat, by omega⟩
  have hF : F < N := by omega
  have hR0 := Lib.hid (RowI.made w w.heap.size (Nat.le_refl _))
  have hB0 := Lib.hid ((Below.refl w.heap.size w).alloc (Nat.le_refl _) (.cells #[] 3))
  clear ho hcap ha hm o1
  go_enter Try.func65, Try.ntmps65
  go_wp2
  go_loopw [11, 12] (fun v iv wr => T1Rel N w v iv wr) (fun _ iv _ => N - (intOf iv).toNat)
  case atStart => exact ⟨0, _, Nat.zero_le _, rfl, rfl, hR0.out, hB0.out⟩
  case round =>
    obtain ⟨k, sv, hk, rfl, rfl, hrow, hbel⟩ := hrel
    have HB := Lib.hid hbel
    have HR := Lib.hid hrow
    by_cases hlt : k < N
    · have hrow' := hrow
      unfold RowI at hrow'
      rw [List.length_replicate] at hrow'
      obtain ⟨en, hen⟩ : ∃ en, en = (List.replicate k (-1 : Int)).map (Value.int .i64) := ⟨_, rfl⟩
      rw [← hen] at hrow'
      have Hen := Lib.hid hen
      have hsz := hbel.size
      have hlt' : (k : Int) < (N : Int) := by omega
      clear hen hrow hbel
      go_wp2_with (at_builtin; refine wpList_append_own _ rfl _ _ 38 rfl w.heap.size 3 i0 _ 1 8 Try.underlying38 hi hz0 hz1 hz2 rfl (by decide) _ k en rfl (World.ownsRow.alloc hrow' _) ⟨wr.heap.size, 0, none⟩ 1 1 [.int .i64 (-1)] rfl rfl (one_int wr (-1)) (by simp [Value.oneCell']) (by simp only [maxLen]; omega) (by omega) (by simp; omega) ?_; intro v' w8 hown8 hgrow8 _; have HO8 := Lib.hid hown8; have HB8 := Lib.hid ((HB.out.alloc HB.out.size _).grown hgrow8 (by simp; omega) (fun j hj => (hrow'.lt j hj).1)); clear hown8 hgrow8 hrow')
      refine ⟨⟨k + 1, v', hlt, by go_num, rfl, ?_, HB8.out⟩, by simp [intOf]; omega⟩
      rw [List.replicate_succ']
      refine RowI.snoc ?_
      rw [← Hen.out, List.length_replicate]
      exact HO8.out
    · obtain rfl : k = N := by omega
      obtain ⟨g, cp, rfl, hcp, hat, hroom, hg, hgl⟩ := hrow.open2 (by simp; omega)
      rw [List.length_replicate] at hcp hroom ⊢
      have hTab : TabAt wr g k (List.replicate k (-1)) := ⟨⟨by simp, fun i hi => by rw [fT_at]; simp [List.getD, hi]⟩, hgl, hat, hroom⟩
      have hTab2 := hTab.set hF (x := t0) (by omega) o7
      have c0 := hTab.cell hF
      have f0 := hroom.2 F
      have HT2 := Lib.hid hTab2
      have HB2 := Lib.hid (hbel.setCell (p := ⟨g, F, none⟩) hg (.int .i64 t0))
      have Hg := Lib.hid (And.intro hg hcp)
      have hF' : (F : Int) < (k : Int) := by omega
      have hini : (List.replicate k (-1 : Int)).set F t0 = iniX k (F : Int) t0 := rfl
      rw [hini] at HT2
      clear hrow hbel hat hroom hTab hTab2 hini HR hlt hk hgl
      go_wp2
      generalize wr.setCell ⟨g, F, none⟩ (.int .i64 t0) = w2 at *
      clear c0 f0
      go_loopw [13] (fun iv wr => T2Rel k ch (F : Int) t0 net g w iv wr) (fun iv _ => k + 1 - (intOf iv).toNat)
      case atStart => exact ⟨0, Nat.zero_le _, rfl, HT2.out, HB2.out⟩
      case round =>
        obtain ⟨r, hr, rfl, htab, hbel⟩ := hrel
        have HT := Lib.hid htab
        have HB3 := Lib.hid hbel
        clear htab hbel
        by_cases hlt : r ≤ k
        · have hlt' : (r : Int) ≤ (k : Int) := by omega
          have Hitr := Lib.hid (show itA ch (F : Int) net (iniX k (F : Int) t0) (r + 1) = net.foldl (cchG id ch (F : Int)) (itA ch (F : Int) net (iniX k (F : Int) t0) r) from rfl)
          generalize itA ch (F : Int) net (iniX k (F : Int) t0) r = T at *
          go_wp2
          go_loopw [14] (fun iv wr => T3Rel k ch (F : Int) net T g w iv wr) (fun iv _ => net.length - (intOf iv).toNat)
          case atStart => exact ⟨0, Nat.zero_le _, rfl, HT.out, HB3.out⟩
          case round =>
            obtain ⟨c, hc, rfl, htab, hbel⟩ := hrel
            have HT5 := Lib.hid htab
            have HB5 := Lib.hid hbel
            clear htab hbel
            by_cases hltc : c < net.length
            · obtain ⟨b, o, rfl, hb, hrw⟩ := Ha.out (by intro h; simp [h] at hltc)
              obtain ⟨u, hu, hin⟩ := hrw c hltc
              have Hu := Lib.hid (fun (W : World) (h : Below w.heap.size w W) => (h.cell (p := ⟨b, o + c, none⟩) hb).trans hu)
              obtain ⟨a2, cap2, rfl, _, ha2⟩ := hin
              have Ha2 := Lib.hid ha2
              have Hcc := Lib.hid (foldl_take (cchG id ch (F : Int)) T net c [] hltc)
              have hvs := (okNet_iff.1 O1.out).2 c hltc
              have l8 : (coach net c).length ≤ 8 := (validS_iff.1 hvs).1.2.2.2
              have Hvs := Lib.hid hvs
              have hltc' : (c : Int) < (net.length : Int) := by omega
              clear hrw hu ha2 hvs
              generalize (net.take c).foldl (cchG id ch (F : Int)) T = Tc at *
              have Hcch := Lib.hid (show cchG id ch (F : Int) Tc (net.getD c []) = ((coach net c).foldl (stG id ch (F : Int)) (Tc, false)).1 from rfl)
              go_wp2
              go_loopw [15, 16] (fun ov iv wr => T4Rel k ch (F : Int) (coach net c) Tc g w ov iv wr) (fun _ iv _ => (coach net c).length - (intOf iv).toNat)
              case atStart => exact ⟨0, Tc, false, Nat.zero_le _, rfl, rfl, rfl, HT5.out, HB5.out⟩
              case round =>
                obtain ⟨i, Ti, on, hi9, rfl, rfl, hfold, htab, hbel⟩ := hrel
                have c1 := Hu.out wr hbel
                have HT7 := Lib.hid htab
                have HB7 := Lib.hid hbel
                have Hfold := Lib.hid hfold
                clear hfold
                by_cases hlti : i < (coach net c).length
                · obtain ⟨b3, ob3, rfl, hb3, hrow3⟩ := Ha2.out (by intro h; simp [h] at hlti)
                  obtain ⟨d0, d1, d2⟩ := (hrow3.below hbel hb3) i hlti
                  have hva := validS_at Hvs.out hlti
                  have hvn := (fitsS_iff _ _).1 ((okS_iff _ _ _).1 ((validS_iff.1 Hvs.out).2 i hlti)).1
                  have Hst := Lib.hid (foldl_take (stG id ch (F : Int)) (Tc, false) (coach net c) i rd0 hlti)
                  rw [Hfold.out] at Hst
                  obtain ⟨⟨xa, xb, xm⟩, hxr⟩ : ∃ r, (coach net c).getD i tz0 = r := ⟨_, rfl⟩
                  have hxr2 : (coach net c).getD i rd0 = ⟨xa, xb, xm⟩ := hxr
                  rw [hxr] at d0 d1 d2
                  rw [hxr2] at hva hvn Hst
                  simp only at d0 d1 d2 hva hvn
                  obtain ⟨A, rfl⟩ : ∃ A : Nat, xa = (A : Int) := ⟨xa.toNat, by omega⟩
                  have hA : A < k := by omega
                  have hA' : (A : Int) < (k : Int) := by omega
                  have hlti' : (i : Int) < ((coach net c).length : Int) := by omega
                  have hbA : Below wr.heap.size wr (wr.alloc (.cells #[.int .i64 (A : Int), .int .i64 xb, .int .i64 xm] 77)) := (Below.refl _ _).alloc (Nat.le_refl _) _
                  have htab2 := htab.below hbA
                  have hl := Whole.made wr 77 #[.int .i64 (A : Int), .int .i64 xb, .int .i64 xm]
                  have e0 : (wr.alloc (.cells #[.int .i64 (A : Int), .int .i64 xb, .int .i64 xm] 77)).cell? ⟨wr.heap.size, 0, none⟩ = some (.int .i64 (A : Int)) := hl.cell rfl
                  have e1 : (wr.alloc (.cells #[.int .i64 (A : Int), .int .i64 xb, .int .i64 xm] 77)).cell? ⟨wr.heap.size, 1, none⟩ = some (.int .i64 xb) := hl.cell rfl
                  have e2 : (wr.alloc (.cells #[.int .i64 (A : Int), .int .i64 xb, .int .i64 xm] 77)).cell? ⟨wr.heap.size, 2, none⟩ = some (.int .i64 xm) := hl.cell rfl
                  have ct := htab2.cell hA
                  have ft := htab2.room.2 A
                  have hng : g ≠ wr.heap.size := by have := htab.lt; omega
                  have HT8 := Lib.hid htab2
                  have HB8 := Lib.hid (hbel.trans (hbA.mono hbel.size))
                  have HL := Lib.hid hl
                  have hx0 := (htab.ok.2 A hA).1
                  have hx1 := (htab.ok.2 A hA).2
                  have hbb := And.intro hva.2.2.1 (show xb ≤ 10000 by omega)
                  clear hva hvn hrow3 htab hbel hbA htab2 hl hxr hxr2
                  have HT9 := Lib.hid (fun (W : World) (h : Below (wr.alloc (.cells #[.int .i64 (A : Int), .int .i64 xb, .int .i64 xm] 77)).heap.size (wr.alloc (.cells #[.int .i64 (A : Int), .int .i64 xb, .int .i64 xm] 77)) W) => And.intro (HT8.out.below h) (HB8.out.trans (h.mono HB8.out.size)))
                  cases on with
                  | false =>
                    rw [stG_off] at Hst
                    go_wp2
                    go_quiet (fail)
                    go_wp2_with fail
                    refine (l7Ready_any g k cp Ti (F : Int) (A : Int) xb xm ch _ (HT9.out _ (by first | exact (Below.refl _ _).drewN _ | exact ((Below.refl _ _).drewN _).drewN _ | exact (Below.refl _ _).drew | exact Below.refl _ _)).1 ⟨Int.natCast_nonneg A, hA'⟩ o2 o3).mono ?_; rintro e w9 ⟨rfl, hb9⟩
                    have HT10 := Lib.hid (TabAt.below (HT9.out _ (by first | exact (Below.refl _ _).drewN _ | exact ((Below.refl _ _).drewN _).drewN _ | exact (Below.refl _ _).drew | exact Below.refl _ _)).1 hb9)
                    have hB10 := Below.trans (HT9.out _ (by first | exact (Below.refl _ _).drewN _ | exact ((Below.refl _ _).drewN _).drewN _ | exact (Below.refl _ _).drew | exact Below.refl _ _)).2 (Below.mono hb9 (HT9.out _ (by first | exact (Below.refl _ _).drewN _ | exact ((Below.refl _ _).drewN _).drewN _ | exact (Below.refl _ _).drew | exact Below.refl _ _)).2.size)
                    have HB10 := Lib.hid hB10
                    clear hB10
                    clear hb9 ct ft e0 e1 e2 d0 d1 d2
                    go_wp2
                    exact ⟨⟨i + 1, Ti, _, hlti, by go_num, rfl, by rw [Hst.out]; rfl, HT10.out, HB10.out⟩, by simp [intOf]; omega⟩
                  | true =>
                    rw [stG_on] at Hst
                    have Hup := Lib.hid (show upX Ti ⟨(A : Int), xb, xm⟩ = if fT Ti (A : Int) < 0 ∨ xb < fT Ti (A : Int) then Ti.set A xb else Ti from rfl)
                    generalize fT Ti (A : Int) = x at *
                    by_cases h1 : x < 0
                    · have h1' : decide (x < 0) = true := decide_eq_true h1
                      rw [if_pos (.inl h1)] at Hup
                      clear hx1
                      go_wp2
                      go_quiet (fail)
                      go_wp2
                      exact ⟨⟨i + 1, Ti.set A xb, true, hlti, by go_num, rfl, by rw [Hst.out, Hup.out], TabAt.set (HT9.out _ (by first | exact (Below.refl _ _).drewN _ | exact ((Below.refl _ _).drewN _).drewN _ | exact (Below.refl _ _).drew | exact Below.refl _ _)).1 hA (x := xb) (by omega) hbb.2, Below.setCell (HT9.out _ (by first | exact (Below.refl _ _).drewN _ | exact ((Below.refl _ _).drewN _).drewN _ | exact (Below.refl _ _).drew | exact Below.refl _ _)).2 (p := ⟨g, A, none⟩) Hg.out.1 _⟩, by simp [intOf]; omega⟩
                    · by_cases h2 : xb < x
                      · have h1' : decide (x < 0) = false := decide_eq_false h1
                        have h2' : decide (xb < x) = true := decide_eq_true h2
                        rw [if_pos (.inr h2)] at Hup
                        go_wp2
                        go_quiet (fail)
                        go_wp2
                        exact ⟨⟨i + 1, Ti.set A xb, true, hlti, by go_num, rfl, by rw [Hst.out, Hup.out], TabAt.set (HT9.out _ (by first | exact (Below.refl _ _).drewN _ | exact ((Below.refl _ _).drewN _).drewN _ | exact (Below.refl _ _).drew | exact Below.refl _ _)).1 hA (x := xb) (by omega) hbb.2, Below.setCell (HT9.out _ (by first | exact (Below.refl _ _).drewN _ | exact ((Below.refl _ _).drewN _).drewN _ | exact (Below.refl _ _).drew | exact Below.refl _ _)).2 (p := ⟨g, A, none⟩) Hg.out.1 _⟩, by simp [intOf]; omega⟩
                      · have h1' : decide (x < 0) = false := decide_eq_false h1
                        have h2' : decide (xb < x) = false := decide_eq_false h2
                        rw [if_neg (by omega)] at Hup
                        go_wp2
                        go_quiet (fail)
                        go_wp2
                        exact ⟨⟨i + 1, Ti, true, hlti, by go_num, rfl, by rw [Hst.out, Hup.out], (HT9.out _ (by first | exact (Below.refl _ _).drewN _ | exact ((Below.refl _ _).drewN _).drewN _ | exact (Below.refl _ _).drew | exact Below.refl _ _)).1, (HT9.out _ (by first | exact (Below.refl _ _).drewN _ | exact ((Below.refl _ _).drewN _).drewN _ | exact (Below.refl _ _).drew | exact Below.refl _ _)).2⟩, by simp [intOf]; omega⟩
                · obtain rfl : i = (coach net c).length := by omega
                  have hfo := Hfold.out
                  rw [List.take_length] at hfo
                  have Hn := Lib.hid (show (net.take (c + 1)).foldl (cchG id ch (F : Int)) T = Ti by rw [Hcc.out, Hcch.out, hfo])
                  clear hfo hlti hi9 htab hbel
                  go_wp2
                  exact ⟨⟨c + 1, hltc, by go_num, by rw [Hn.out]; exact HT7.out, HB7.out⟩, by simp [intOf]; omega⟩
            · obtain rfl : c = net.length := by omega
              rw [List.take_length] at HT5
              have Hn := Lib.hid (show TabAt wr g k (itA ch (F : Int) net (iniX k (F : Int) t0) (r + 1)) by rw [Hitr.out]; exact HT5.out)
              go_wp2
              exact ⟨⟨r + 1, by omega, by go_num, Hn.out, HB5.out⟩, by simp [intOf]; omega⟩
        · obtain rfl : r = k + 1 := by omega
          go_wp2
          go_ret
          exact ⟨g, cp, rfl, Hg.out.2, Hg.out.1, by rw [Hfin.out]; exact HT.out, HB3.out⟩

end Go.Proofs.Ytmkcnoaphoiiaaa
/- The model's PostTable, PostArrive, PostReach. -/
namespace Go.Proofs.Ytmkcnoaphoiiaaa
open Go.RowKit

theorem TabAt.own {w : World} {g N cap : Nat} {T : List Int} (h : TabAt w g N T) (hc : N ≤ cap) : ∃ (ad : Option Addr) (cp : Nat), (Value.slice (some ⟨g, 0, none⟩) N cap) = .slice ad T.length cp ∧ T.length ≤ cp ∧ OwnI w ad T ∧ ∀ j, inBlk ad j → j = g :=
  ⟨some ⟨g, 0, none⟩, cap, by rw [h.ok.1], by rw [h.ok.1]; exact hc, fun _ => ⟨g, rfl, h.lt, h.at_, by rw [h.ok.1]; exact h.room⟩, fun j hj => by obtain ⟨o, ho⟩ := hj; cases ho; rfl⟩

set_option maxRecDepth 100000 in
set_option maxHeartbeats 1000000 in
theorem postTable1_any (n : Int) (v : Value) (net : List (List Rd)) (f t0 ch : Int) (w : World) (hv : NtIn w v net) (hm : totN net ≤ 1048577) (wn : W64 n) :
    Calls Try.prog 28 #[.int .i64 n, v, .int .i64 f, .int .i64 t0, .int .i64 ch] w (IntsOk (ptX n net f t0 ch) (okT7 n net f t0 ch) w) := by
  have HC := Lib.hid (l7Ok_any n v net f t0 ch w hv hm wn)
  have HV := Lib.hid hv
  have Hm := Lib.hid hm
  clear hv hm
  cases ho : okT7 n net f t0 ch with
  | false =>
    rw [ho] at HC
    have Ho := Lib.hid ho; clear ho
    go_enter Try.func28, Try.ntmps28
    go_wp2_with fail
    refine HC.out.mono ?_; rintro e w1 ⟨rfl, hb⟩
    have HB := Lib.hid hb
    clear HC hb
    go_wp2
    go_ret2
    rw [ptX_no Ho.out]
    exact IntsOk.no HB.out.size (by simp) (HB.out.alloc HB.out.size _)
  | true =>
    rw [ho] at HC
    have Ho := Lib.hid ho
    have n1 := (okNet_iff.1 (okT7_iff.1 ho).1).1.1
    obtain ⟨N, rfl⟩ : ∃ N : Nat, n = (N : Int) := ⟨n.toNat, by omega⟩
    have Hx := Lib.hid (ptX_yes ho)
    clear ho n1
    go_enter Try.func28, Try.ntmps28
    go_wp2_with fail
    refine HC.out.mono ?_; rintro e w1 ⟨rfl, hb⟩
    have HB := Lib.hid hb
    clear HC hb
    go_wp2_with fail
    refine (l7Table_any N v net f t0 ch _ (HV.out.below HB.out) Hm.out Ho.out).mono ?_; rintro e w2 ⟨g, cap, rfl, hcp, hg, htab, hb2⟩
    have HT := Lib.hid (And.intro htab (And.intro hcp hg))
    have HB2 := Lib.hid (HB.out.trans (hb2.mono HB.out.size))
    clear htab hcp hg hb2
    go_wp2
    go_ret2
    rw [Hx.out]
    obtain ⟨ad, cp, e1, e2, e3, e4⟩ := HT.out.1.own HT.out.2.1
    exact ⟨ad, cp, by rw [← e1]; rfl, e2, e3, fun j hj => by rw [e4 j hj]; have := HT.out.2.2; have := HB.out.size; have := HT.out.1.lt; omega, HB2.out⟩

theorem IntsOk.at_ {xs : List Int} {ok : Bool} {w : World} {e : Ending} {w' : World} (h : IntsOk xs ok w e w') (h0 : 0 < xs.length) : ∃ g cap, e = .returned (.tuple #[.slice (some ⟨g, 0, none⟩) xs.length cap, .bool ok]) ∧ g < w'.heap.size ∧ IntAt w' g 0 xs ∧ Below w.heap.size w w' := by
  obtain ⟨ad, cp, rfl, hc, ho, _, hb⟩ := h
  obtain ⟨g, rfl, hlt, hat, _⟩ := ho (by rintro rfl; simp at h0)
  exact ⟨g, cp, rfl, hlt, hat, hb⟩

set_option maxRecDepth 100000 in
set_option maxHeartbeats 1000000 in
theorem postArrive1_any (n : Int) (v : Value) (net : List (List Rd)) (f to t0 ch : Int) (w : World) (hv : NtIn w v net) (hm : totN net ≤ 1048577) (wn : W64 n) :
    Calls Try.prog 34 #[.int .i64 n, v, .int .i64 f, .int .i64 to, .int .i64 t0, .int .i64 ch] w (Gives (.int .i64 (paX n net f to t0 ch)) w) := by
  have HC := Lib.hid (postTable1_any n v net f t0 ch w hv hm wn)
  clear hv hm
  cases ho : okT7 n net f t0 ch with
  | false =>
    rw [ho] at HC
    have Hp := Lib.hid (show paX n net f to t0 ch = -1 by unfold paX; rw [if_neg (by rw [ho]; simp)])
    clear ho
    go_enter Try.func34, Try.ntmps34
    go_wp2_with fail
    refine HC.out.mono ?_; rintro e w1 ⟨ad, cp, rfl, _, _, _, hb⟩
    clear HC
    go_wp2
    go_ret
    exact ⟨ret_int Hp.out.symm, hb⟩
  | true =>
    rw [ho, ptX_yes ho] at HC
    obtain ⟨o1, ⟨o2, o3⟩, ⟨o4, o5⟩, o6, o7⟩ := okT7_iff.1 ho
    have n1 := (okNet_iff.1 o1).1.1
    have n8 := (okNet_iff.1 o1).1.2.1
    obtain ⟨N, rfl⟩ : ∃ N : Nat, n = (N : Int) := ⟨n.toNat, by omega⟩
    have hlen := tabA_len (ch := ch) o1 ⟨o4, o5⟩ ⟨o6, o7⟩
    have Hp := Lib.hid (show paX (N : Int) net f to t0 ch = if isTown (N : Int) to = true then fT (tabA (N : Int) net ch f t0) to else -1 by unfold paX; rw [ho]; simp)
    generalize tabA (N : Int) net ch f t0 = T at *
    have hpos : 0 < T.length := by omega
    have hTN : T.length = N := by omega
    clear ho o1 o2 o3 o4 o5 o6 o7 hlen
    by_cases hto : 0 ≤ to ∧ to ≤ (N : Int) - 1
    · have hin : inB to 0 ((N : Int) - 1) = true := (inB_iff _ _ _).2 hto
      rw [if_pos (isTown_iff.2 ⟨hto.1, by omega⟩)] at Hp
      obtain ⟨t0', ht1⟩ := hto
      obtain ⟨K, rfl⟩ : ∃ K : Nat, to = (K : Int) := ⟨to.toNat, by omega⟩
      have hK : K < T.length := by omega
      go_enter Try.func34, Try.ntmps34
      go_wp2_with fail
      refine HC.out.mono ?_; intro e w1 hx
      obtain ⟨g, cap, rfl, hg, hat, hb⟩ := hx.at_ hpos
      have c0 : w1.cell? ⟨g, K, none⟩ = some (.int .i64 (fT T (K : Int))) := by
        have := hat K hK
        rw [Nat.zero_add] at this
        rw [this, fT_get hK]
      have hK' : (K : Int) < (T.length : Int) := by omega
      have HTN := Lib.hid hTN
      clear hx hat HC hTN
      go_wp2_with fail
      refine (l6In_any _ _ _ _).mono ?_; rintro e w' ⟨rfl, rfl⟩
      rw [hin]
      go_wp2
      go_ret
      exact ⟨ret_int Hp.out.symm, hb⟩
    · have hin : inB to 0 ((N : Int) - 1) = false := Bool.eq_false_iff.2 (fun h => hto ((inB_iff _ _ _).1 h))
      rw [if_neg (by intro h; have := isTown_iff.1 h; omega)] at Hp
      have HTN := Lib.hid hTN
      clear hto hTN
      go_enter Try.func34, Try.ntmps34
      go_wp2_with fail
      refine HC.out.mono ?_; intro e w1 hx
      obtain ⟨g, cap, rfl, hg, hat, hb⟩ := hx.at_ hpos
      clear hx hat HC
      go_wp2_with fail
      refine (l6In_any _ _ _ _).mono ?_; rintro e w' ⟨rfl, rfl⟩
      rw [hin]
      go_wp2
      go_ret
      exact ⟨ret_int Hp.out.symm, hb⟩

def R1Rel (ad : Option Addr) (T : List Int) (u : Int) (B1 : Nat) (w : World) (v iv : Value) (wr : World) : Prop := ∃ (k : Nat) (sv : Value), k ≤ T.length ∧ iv = .int .i64 k ∧ sv = v ∧ RowI wr w.heap.size sv (rchTo T u k) ∧ Below w.heap.size w wr ∧ OwnI wr ad T ∧ (∀ q, sv.ownBlock = some q → q = w.heap.size ∨ B1 ≤ q) ∧ B1 ≤ wr.heap.size

set_option maxRecDepth 100000 in
set_option maxHeartbeats 2000000 in
theorem postReach1_any (n : Int) (v : Value) (net : List (List Rd)) (f t0 ch u : Int) (w : World) (hv : NtIn w v net) (hm : totN net ≤ 1048577) (wn : W64 n) :
    Calls Try.prog 36 #[.int .i64 n, v, .int .i64 f, .int .i64 t0, .int .i64 ch, .int .i64 u] w (IntsOne (rchX n net f t0 ch u) w) := by
  have hb0 : Below w.heap.size w (w.alloc (.cells #[] 3)) := (Below.refl _ _).alloc (Nat.le_refl _) _
  have HC := Lib.hid (postTable1_any n v net f t0 ch _ (hv.below hb0) hm wn)
  have HR := Lib.hid (RowI.made w w.heap.size (Nat.le_refl _))
  have HB0 := Lib.hid hb0
  obtain ⟨i0, hi, hz0, hz1, hz2⟩ := info_parts Try.info3
  clear hv hm hb0
  obtain ⟨T, ok, hT, hrx, hT8⟩ : ∃ T ok, ptX n net f t0 ch = T ∧ rchX n net f t0 ch u = rchTo T u T.length ∧ T.length ≤ 8 := by
    cases ho : okT7 n net f t0 ch with
    | false => exact ⟨[], false, ptX_no ho, by unfold rchX; rw [ho]; rfl, by simp⟩
    | true =>
      obtain ⟨o1, ⟨o2, o3⟩, o4, o6⟩ := okT7_iff.1 ho
      have hl := tabA_len (ch := ch) o1 o4 o6
      have n8 := (okNet_iff.1 o1).1.2.1
      exact ⟨_, true, ptX_yes ho, by unfold rchX; rw [ho, if_pos rfl]; congr 1; omega, by omega⟩
  rw [hT] at HC
  have Hrx := Lib.hid hrx
  clear hT hrx
  go_enter Try.func36, Try.ntmps36
  go_wp2_with fail
  have Hw0 := Lib.hid (show (w.alloc (.cells #[] 3)).heap.size = w.heap.size + 1 by simp)
  generalize w.alloc (.cells #[] 3) = w0 at *
  refine HC.out.mono ?_; rintro e w1 ⟨ad, cap, rfl, hcap, hown, hblk, hb⟩
  have Hblk := Lib.hid (show ∀ j, inBlk ad j → w.heap.size < j ∧ j < w1.heap.size from fun j hj => by have := hblk j hj; have := Hw0.out; omega)
  clear hblk
  have HR1 := Lib.hid (HR.out.below hb)
  have HB1 := Lib.hid (HB0.out.trans (hb.mono HB0.out.size))
  have Hown := Lib.hid hown
  clear HC hb hown hcap
  go_wp2
  go_loopw [13, 16] (fun v iv wr => R1Rel ad T u w1.heap.size w v iv wr) (fun _ iv _ => T.length - (intOf iv).toNat)
  case atStart => exact ⟨0, _, Nat.zero_le _, rfl, rfl, HR1.out, HB1.out, Hown.out, fun q hq => .inl (Option.some.inj hq).symm, Nat.le_refl _⟩
  case round =>
    obtain ⟨k, sv, hk, rfl, rfl, hrow, hbel, hown, hq, hB1⟩ := hrel
    have HQ := Lib.hid hq
    have HB1' := Lib.hid hB1
    have HO := Lib.hid hown
    have HRr := Lib.hid hrow
    have HBr := Lib.hid hbel
    have hsz := hbel.size
    by_cases hlt : k < T.length
    · obtain ⟨g, rfl, hg, hat, _⟩ := hown (by rintro rfl; simp at hlt)
      have c0 : wr.cell? ⟨g, k, none⟩ = some (.int .i64 (fT T (k : Int))) := by
        have := hat k hlt
        rw [Nat.zero_add] at this
        rw [this, fT_get hlt]
      have Htk := Lib.hid (rchTo_succ T u k)
      have Hl := Lib.hid (rchTo_len T u k)
      have hlt' : (k : Int) < (T.length : Int) := by omega
      clear hat hbel
      by_cases h0 : 0 ≤ fT T (k : Int)
      · have hd0 : decide (0 ≤ fT T (k : Int)) = true := decide_eq_true h0
        by_cases hu : fT T (k : Int) ≤ u
        · have Hyes := Lib.hid (show rchB T u k = true by unfold rchB; simp [h0, hu])
          rw [Hyes.out, if_pos rfl] at Htk
          have hrow' := hrow
          unfold RowI at hrow'
          have hd : decide (fT T (k : Int) ≤ u) = true := decide_eq_true hu
          generalize fT T (k : Int) = x at *
          obtain ⟨en, hen⟩ : ∃ en, en = (rchTo T u k).map (Value.int .i64) := ⟨_, rfl⟩
          rw [← hen] at hrow'
          have Hen := Lib.hid hen
          obtain ⟨m, hm⟩ : ∃ m, m = (rchTo T u k).length := ⟨_, rfl⟩
          rw [← hm] at hrow'
          have hm8 : m ≤ 8 := by have := Hl.out; omega
          have Hm := Lib.hid hm
          have hgne : ∀ q, sv.ownBlock = some q → w.heap.size ≤ q := fun q hq => (hrow'.lt q hq).1
          clear hen hm hrow
          go_wp2_with (at_builtin; refine wpList_append_lies _ rfl _ _ 38 rfl w.heap.size 3 i0 _ 1 8 Try.underlying38 hi hz0 hz1 hz2 rfl (by decide) _ m en rfl (World.ownsRow.alloc hrow' _) ⟨wr.heap.size, 0, none⟩ 1 1 [.int .i64 (k : Int)] rfl rfl (one_int wr (k : Int)) (by simp [Value.oneCell']) (by decide) (by simp only [maxLen]; omega) (by omega) (by simp; omega) _ rfl ?_; intro g2 cp2 w8 hown8 hgrow8 hlie8 _; have HO8 := Lib.hid hown8; have HG8 := Lib.hid hgrow8; have HL8 := Lib.hid hlie8; have HB8 := Lib.hid ((HBr.out.alloc HBr.out.size _).grown hgrow8 (by simp; omega) (fun j hj => (hrow'.lt j hj).1)); clear hown8 hgrow8 hlie8 hrow')
          have hg8 := HG8.out
          have hT : Touch (fun q => sv.ownBlock = some q) wr w8 := ⟨by rw [hg8.os]; rfl, by rw [hg8.tape]; rfl, by rw [hg8.output]; rfl, by have := hg8.size; simp at this; omega, fun j hj hS => (hg8.block j (by simp; omega) (fun e => hS e.symm)).trans (((Below.refl wr.heap.size wr).alloc (Nat.le_refl _) _).block j hj)⟩
          refine ⟨⟨k + 1, .slice (some ⟨g2, 0, none⟩) (m + 1) cp2, hlt, by go_num, rfl, ?_, HB8.out, ?_, fun q hq => ?_, ?_⟩, by simp [intOf]; omega⟩
          · rw [Htk.out]
            refine RowI.snoc ?_
            rw [← Hen.out, ← Hm.out]
            exact HO8.out
          · exact HO.out.touch hT (fun j hj hS => by have := Hblk.out j hj; rcases HQ.out j hS with h | h <;> omega)
          · have hq2 : some g2 = some q := hq
            injection hq2 with hq2
            rcases HL8.out with h | h
            · exact HQ.out q (by rw [← hq2]; exact h)
            · right; have := HB1'.out; simp at h; omega
          · have := hT.size; have := HB1'.out; omega
        · have Hno := Lib.hid (show rchB T u k = false by unfold rchB; simp [hu])
          rw [Hno.out, if_neg (by simp), List.append_nil] at Htk
          have hd : decide (fT T (k : Int) ≤ u) = false := decide_eq_false hu
          clear hrow
          go_wp2
          exact ⟨⟨k + 1, sv, hlt, by go_num, rfl, by rw [Htk.out]; exact HRr.out, HBr.out, HO.out, HQ.out, HB1'.out⟩, by simp [intOf]; omega⟩
      · have Hno := Lib.hid (show rchB T u k = false by unfold rchB; simp [h0])
        rw [Hno.out, if_neg (by simp), List.append_nil] at Htk
        have hd0 : decide (0 ≤ fT T (k : Int)) = false := decide_eq_false h0
        clear hrow
        go_wp2
        exact ⟨⟨k + 1, sv, hlt, by go_num, rfl, by rw [Htk.out]; exact HRr.out, HBr.out, HO.out, HQ.out, HB1'.out⟩, by simp [intOf]; omega⟩
    · obtain rfl : k = T.length := by omega
      clear hrow hbel
      go_wp2
      go_ret
      rw [Hrx.out]
      exact IntsOne.row HRr.out (Nat.le_refl _) HBr.out

end Go.Proofs.Ytmkcnoaphoiiaaa
/- PostLeave: the program's and the model's. -/
namespace Go.Proofs.Ytmkcnoaphoiiaaa
open Go.RowKit

theorem leX_no {n : Int} {net : List (List Rd)} {f to t ch : Int} (h : okT7 n net f t ch = false) : leX n net f to t ch = -1 := by unfold leX; rw [if_neg (by rw [h]; simp)]
theorem leX_no2 {n : Int} {net : List (List Rd)} {f to t ch : Int} (h : isTown n to = false) : leX n net f to t ch = -1 := by unfold leX; rw [if_neg (by rw [h]; simp)]

/-- TimeMax less a time is a time, and less any other number is none. -/
theorem isT_back {t : Int} (wt : W64 t) : isT (wrap64 (10000 - t)) = isT t := by
  unfold W64 at wt
  rw [Bool.eq_iff_iff, isT_iff, isT_iff]
  unfold wrap64
  omega

set_option maxRecDepth 100000 in
set_option maxHeartbeats 2000000 in
theorem postLeave2_any (n : Int) (v : Value) (net : List (List Rd)) (f to t ch : Int) (w : World) (hv : NtIn w v net) (hm : totN net ≤ 1048576) (wt : W64 t) :
    Calls Try.prog 43 #[.int .i64 n, v, .int .i64 f, .int .i64 to, .int .i64 t, .int .i64 ch] w (Gives (.int .i64 (leX n net f to t ch)) w) := by
  have HC := Lib.hid (postBack2_any n v net 10000 w hv hm (by unfold W64; omega))
  clear hv
  cases ho : okNet n net with
  | false =>
    have hb : bkOk n net 10000 = false := by unfold bkOk; rw [ho]; rfl
    rw [hb] at HC
    have Hx := Lib.hid (leX_no (to := to) (show okT7 n net f t ch = false by unfold okT7 okP; rw [ho]; rfl))
    clear ho hb
    go_enter Try.func43, Try.ntmps43
    go_wp2_with fail
    refine HC.out.mono ?_; rintro e w1 ⟨b, cap, ads, cps, rfl, _, _, hb⟩
    clear HC
    go_wp2
    go_ret
    exact ⟨ret_int Hx.out.symm, hb⟩
  | true =>
    have hbk := bk_ok ho
    rw [hbk, bkX_is ho] at HC
    have hbn := bkN_ok ho
    have htb : totN (bkN net) ≤ 1048577 := by
      have := bkX_tot (n := n) (t := 10000) hm
      rw [bkX_is ho] at this; omega
    have Htb := Lib.hid htb
    have Hbl := Lib.hid (bkN_len (net := net))
    obtain ⟨N, rfl⟩ : ∃ N : Nat, n = (N : Int) := ⟨n.toNat, by have := (okNet_iff.1 ho).1.1; omega⟩
    have Ho := Lib.hid ho
    have Hbn := Lib.hid hbn
    clear ho hbk hbn htb
    go_enter Try.func43, Try.ntmps43
    go_wp2_with fail
    refine HC.out.mono ?_; rintro e w1 ⟨b, cap, ads, cps, rfl, hcap, hown, hb⟩
    have HN := Lib.hid (hown.ins hcap)
    have HB := Lib.hid hb
    clear HC hcap hown hb
    obtain ⟨m, hm9⟩ : ∃ m, m = (bkN net).length := ⟨_, rfl⟩
    rw [← hm9]
    rw [← hm9] at HN
    clear hm9
    obtain ⟨q, hq⟩ : ∃ q, q = wrap64 (10000 - t) := ⟨_, rfl⟩
    have Hq := Lib.hid hq
    go_wp2_with fail
    rw [← hq]
    refine (ptOf_any (N : Int) _ (bkN net) to q ch _ HN.out Htb.out).mono ?_; rintro e w2 ⟨h1, h2⟩
    have Hk := Lib.hid (show okT7 (N : Int) (bkN net) to q ch = (okDl ch && isTown (N : Int) to && isT t) by unfold okT7 okP; rw [Hbn.out, Bool.true_and, Hq.out, isT_back wt])
    have Hk2 := Lib.hid (show okT7 (N : Int) net f t ch = (okDl ch && isTown (N : Int) f && isT t) by unfold okT7 okP; rw [Ho.out, Bool.true_and])
    cases hok : okT7 (N : Int) (bkN net) to q ch with
    | false =>
      obtain ⟨rfl, hb2⟩ := h2 hok
      have HB2 := Lib.hid (HB.out.trans (hb2.mono HB.out.size))
      have Hx := Lib.hid (show leX (N : Int) net f to t ch = -1 by
        cases h9 : isTown (N : Int) to with
        | false => exact leX_no2 h9
        | true =>
          refine leX_no ?_
          rw [Hk2.out]
          rw [Hk.out, h9, Bool.and_true] at hok
          cases hd : okDl ch with
          | false => rfl
          | true => rw [hd, Bool.true_and] at hok; rw [hok, Bool.and_false])
      clear h1 h2 hb2 hok hq
      go_wp2
      go_ret
      exact ⟨ret_int Hx.out.symm, HB2.out⟩
    | true =>
      obtain ⟨tb, eb, pb, _, _, _, _, _, _, rfl, hT, _, hb2⟩ := h1 hok
      rw [show (N : Int).toNat = N from rfl] at hT
      have HT := Lib.hid hT
      have HB2 := Lib.hid (HB.out.trans (hb2.mono HB.out.size))
      have hok2 := hok
      rw [Hk.out, Bool.and_eq_true, Bool.and_eq_true] at hok2
      have htt := (isT_iff t).1 hok2.2
      have hqt : q = 10000 - t := by rw [hq]; unfold wrap64; omega
      have Hqt := Lib.hid hqt
      have Hok2 := Lib.hid hok2
      clear h1 h2 hb2 hok hok2 hT hq hqt
      go_wp2_with fail
      refine (hasTown_any _ f _).mono ?_; rintro e w' ⟨rfl, rfl⟩
      cases hf : isTown (N : Int) f with
      | false =>
        have Hx := Lib.hid (show leX (N : Int) net f to t ch = -1 from leX_no (by rw [Hk2.out, hf, Bool.and_false, Bool.false_and]))
        clear hf
        go_wp2
        go_ret
        exact ⟨ret_int Hx.out.symm, HB2.out⟩
      | true =>
        have Hx := Lib.hid (leX_back (f := f) (t := t) (ch := ch) (net := net) (n := (N : Int)) (by rw [Hk2.out, hf, Hok2.out.1.1, Hok2.out.2]; rfl) Hok2.out.1.2)
        rw [← Hqt.out] at Hx
        have hf2 := isTown_iff.1 hf
        have Hf2 := Lib.hid hf2
        have Htm := Lib.hid (show tmO (tab1 (bkN net) ch to q 0 f) = timeT (tab1 (bkN net) ch to q) f from rfl)
        have Hbd := Lib.hid (fun (y : Ltr) (h : tab1 (bkN net) ch to q 0 f = some y) => show 0 ≤ y.t ∧ y.t ≤ 10000 by
          obtain ⟨⟨_, _, hr⟩, _⟩ := tab1_lok Hbn.out (okDl_iff.1 Hok2.out.1.1).1 h
          exact hr.time Hbn.out (by rw [Hqt.out]; omega))
        clear hf hf2
        go_wp2_with fail
        refine (has_any tb eb pb N _ f _ HT.out Hf2.out).mono ?_; rintro e w3 ⟨rfl, rfl⟩
        cases hs : (tab1 (bkN net) ch to q 0 f).isSome with
        | false =>
          have Hx2 := Lib.hid (show leX (N : Int) net f to t ch = -1 by rw [Hx.out, ← Htm.out, tmO_some.2 hs]; rfl)
          clear hs
          go_wp2
          go_ret
          exact ⟨ret_int Hx2.out.symm, HB2.out⟩
        | true =>
          obtain ⟨y, e1, e2⟩ := tmO_some.1 hs
          have hbd := Hbd.out y e1
          have Hx2 := Lib.hid (show leX (N : Int) net f to t ch = 10000 - tmO (tab1 (bkN net) ch to q 0 f) by rw [Hx.out, ← Htm.out, e2, if_pos hbd.1])
          have hbd2 : 0 ≤ tmO (tab1 (bkN net) ch to q 0 f) ∧ tmO (tab1 (bkN net) ch to q 0 f) ≤ 10000 := by rw [e2]; exact hbd
          clear hs e1 e2 hbd
          go_wp2_with fail
          refine (time_any tb eb pb N _ f _ HT.out Hf2.out).mono ?_; rintro e w4 ⟨rfl, rfl⟩
          generalize tmO (tab1 (bkN net) ch to q 0 f) = x at *
          have hwr : wrap64 (10000 - x) = 10000 - x := by unfold wrap64; omega
          go_wp2
          go_ret
          exact ⟨ret_int (by first | exact Hx2.out.symm | (rw [Hx2.out])), HB2.out⟩

end Go.Proofs.Ytmkcnoaphoiiaaa
/- The model's PostLeave. -/
namespace Go.Proofs.Ytmkcnoaphoiiaaa
open Go.RowKit

def LvRel (n : Int) (net : List (List Rd)) (f to t ch : Int) (w : World) (bv cv : Value) (wr : World) : Prop :=
  ∃ c : Nat, c ≤ net.length ∧ cv = .int .i64 c ∧ bv = .int .i64 (leTo n net f to t ch c) ∧ Below w.heap.size w wr

set_option maxRecDepth 100000 in
set_option maxHeartbeats 2000000 in
theorem postLeave1_any (n : Int) (v : Value) (net : List (List Rd)) (f to t ch : Int) (w : World) (hv : NtIn w v net) (hm : totN net ≤ 1048577) (wn : W64 n) :
    Calls Try.prog 42 #[.int .i64 n, v, .int .i64 f, .int .i64 to, .int .i64 t, .int .i64 ch] w (Gives (.int .i64 (leX n net f to t ch)) w) := by
  have HC := Lib.hid (l7Ok_any n v net f t ch w hv hm wn)
  have HA := Lib.hid (fun (m : Int) (W : World) (h : Below w.heap.size w W) => postArrive1_any n v net f to m ch W (hv.below h) hm wn)
  obtain ⟨a, cap, rfl, hcap, ha⟩ := hv
  have Ha := Lib.hid ha
  have Hm := Lib.hid hm
  clear hcap ha hm
  cases ho : okT7 n net f t ch with
  | false =>
    rw [ho] at HC
    have Hx := Lib.hid (leX_no (to := to) ho)
    clear ho HA
    go_enter Try.func42, Try.ntmps42
    go_wp2_with fail
    refine HC.out.mono ?_; rintro e w1 ⟨rfl, hb⟩
    clear HC
    go_wp2
    go_ret
    exact ⟨ret_int Hx.out.symm, hb⟩
  | true =>
    rw [ho] at HC
    obtain ⟨o1, ⟨o2, o3⟩, ⟨o4, o5⟩, o6, o7⟩ := okT7_iff.1 ho
    have n1 := (okNet_iff.1 o1).1.1
    have n8 := (okNet_iff.1 o1).1.2.1
    have l6 := (okNet_iff.1 o1).1.2.2
    have O1 := Lib.hid o1
    by_cases hto : 0 ≤ to ∧ to ≤ n - 1
    · have hin : inB to 0 (n - 1) = true := (inB_iff _ _ _).2 hto
      have hq := isTown_iff.2 (show 0 ≤ to ∧ to < n by omega)
      by_cases hft : f = to
      · have Hx := Lib.hid (show leX n net f to t ch = t by unfold leX; rw [if_pos ⟨ho, hq⟩, if_pos hft])
        have hft' : (f == to) = true := by simpa using hft
        clear ho hq hft hto HA o1
        go_enter Try.func42, Try.ntmps42
        go_wp2_with fail
        refine HC.out.mono ?_; rintro e w1 ⟨rfl, hb⟩
        clear HC
        go_wp2_with fail
        refine (l6In_any _ _ _ _).mono ?_; rintro e w' ⟨rfl, rfl⟩
        rw [hin]
        go_wp2
        go_ret
        exact ⟨ret_int Hx.out.symm, hb⟩
      · have Hx := Lib.hid (show leX n net f to t ch = leTo n net f to t ch net.length by unfold leX; rw [if_pos ⟨ho, hq⟩, if_neg hft])
        have hft' : (f == to) = false := by simpa using hft
        have Hbd := Lib.hid (fun k hk => (leTo_inv o1 ⟨o2, o3⟩ hft ⟨o4, o5⟩ (show 0 ≤ to ∧ to < n by omega) (t := t) k hk).2.2)
        clear ho hq hft hto o1
        go_enter Try.func42, Try.ntmps42
        go_wp2_with fail
        refine HC.out.mono ?_; rintro e w1 ⟨rfl, hb⟩
        have HB1 := Lib.hid hb
        clear HC hb
        go_wp2_with fail
        refine (l6In_any _ _ _ _).mono ?_; rintro e w' ⟨rfl, rfl⟩
        rw [hin]
        go_wp2
        go_loopw [13, 14] (fun bv cv wr => LvRel n net f to t ch w bv cv wr) (fun _ cv _ => net.length - (intOf cv).toNat)
        case atStart => exact ⟨0, Nat.zero_le _, rfl, rfl, HB1.out⟩
        case round =>
          obtain ⟨c, hc, rfl, rfl, hbel⟩ := hrel
          have HB2 := Lib.hid hbel
          by_cases hlt : c < net.length
          · obtain ⟨b, o, rfl, hb, hrw⟩ := Ha.out (by intro h; simp [h] at hlt)
            obtain ⟨u, hu, hin2⟩ := hrw c hlt
            have c0 := (hbel.cell (p := ⟨b, o + c, none⟩) hb).trans hu
            have Hc0 := Lib.hid (fun (W : World) (h : Below w.heap.size w W) => (h.cell (p := ⟨b, o + c, none⟩) hb).trans hu)
            have hln : (coach net c).length ≤ 1048576 := by have := totTo_at net hlt; have := Hm.out; unfold totN at this; omega
            have hlt' : (c : Int) < (net.length : Int) := by omega
            obtain ⟨hb1, hb2⟩ := Hbd.out c hc
            have HL := Lib.hid (l2At_any u (coach net c) f wr (hin2.below hbel).roads hln)
            obtain ⟨a2, cap2, rfl, _, ha2⟩ := hin2
            have Ha2 := Lib.hid ha2
            have Hvs := Lib.hid ((okNet_iff.1 O1.out).2 c hlt)
            have Hst := Lib.hid (show leTo n net f to t ch (c + 1) = (match atS (coach net c) f with
              | none => leTo n net f to t ch c
              | some i => if (stp net c i).m ≤ leTo n net f to t ch c then leTo n net f to t ch c else if 0 ≤ paX n net f to (stp net c i).m ch ∧ paX n net f to (stp net c i).m ch ≤ t then (stp net c i).m else leTo n net f to t ch c) from rfl)
            generalize leTo n net f to t ch c = best at *
            clear hu hrw ha2 hbel
            go_wp2_with fail
            refine HL.out.mono ?_; rintro e w' ⟨rfl, rfl⟩
            cases hat : atS (coach net c) f with
            | none =>
              rw [hat] at Hst
              have hav : atV (coach net c) f = -1 := by unfold atV; rw [hat]
              rw [hav]
              clear hat hav
              go_wp2
              exact ⟨⟨c + 1, hlt, by go_num, by rw [Hst.out], HB2.out⟩, by simp [intOf]; omega⟩
            | some i =>
              rw [hat] at Hst
              have hav : atV (coach net c) f = (i : Int) := by unfold atV; rw [hat]
              rw [hav]
              obtain ⟨hi, _⟩ := atS_in hat
              obtain ⟨b3, ob3, rfl, hb3, hrow3⟩ := Ha2.out (by intro h; simp [h] at hi)
              have Hd2 := Lib.hid (fun (W : World) (h : Below w.heap.size w W) => ((hrow3.below h hb3) i hi).2.2)
              have hva := validS_at Hvs.out hi
              have hm9 : 0 ≤ ((coach net c).getD i rd0).m ∧ ((coach net c).getD i rd0).m ≤ 10000 := by omega
              have hs : stp net c i = (coach net c).getD i rd0 := rfl
              dsimp only at Hst
              rw [hs] at Hst
              have hd0 : ∀ (W : World), Below w.heap.size w W → W.cell? ⟨b3, ob3 + i * 3 + 2, none⟩ = some (.int .i64 ((coach net c).getD i rd0).m) := fun W h => Hd2.out W h
              have HD := Lib.hid hd0
              have hi' : (i : Int) < ((coach net c).length : Int) := by omega
              clear hd0 hat hav hs hva Hd2 hrow3
              generalize ((coach net c).getD i rd0).m = m at *
              have d2 := HD.out _ HB2.out
              by_cases hle : m ≤ best
              · rw [if_pos hle] at Hst
                have hdd : decide (m ≤ best) = true := decide_eq_true hle
                clear hle
                go_wp2
                exact ⟨⟨c + 1, hlt, by go_num, by rw [Hst.out], HB2.out⟩, by simp [intOf]; omega⟩
              · rw [if_neg hle] at Hst
                have hdd : decide (m ≤ best) = false := decide_eq_false hle
                clear hle
                go_wp2_with fail
                refine (HA.out m _ HB2.out).mono ?_; rintro e w3 ⟨rfl, hb3'⟩
                have HB3 := Lib.hid (HB2.out.trans (hb3'.mono HB2.out.size))
                have c0' := Hc0.out _ HB3.out
                have d2' := HD.out _ HB3.out
                clear c0 d2 hb3' hdd
                generalize paX n net f to m ch = x at *
                by_cases hx0 : 0 ≤ x
                · by_cases hx1 : x ≤ t
                  · rw [if_pos ⟨hx0, hx1⟩] at Hst
                    go_wp2
                    exact ⟨⟨c + 1, hlt, by go_num, by rw [Hst.out], HB3.out⟩, by simp [intOf]; omega⟩
                  · rw [if_neg (fun h => hx1 h.2)] at Hst
                    have hd : decide (x ≤ t) = false := decide_eq_false hx1
                    clear c0' d2'
                    go_wp2
                    exact ⟨⟨c + 1, hlt, by go_num, by rw [Hst.out], HB3.out⟩, by simp [intOf]; omega⟩
                · rw [if_neg (fun h => hx0 h.1)] at Hst
                  clear c0' d2'
                  go_wp2
                  exact ⟨⟨c + 1, hlt, by go_num, by rw [Hst.out], HB3.out⟩, by simp [intOf]; omega⟩
          · obtain rfl : c = net.length := by omega
            clear hbel
            go_wp2
            go_ret
            exact ⟨ret_int (by rw [Hx.out]), HB2.out⟩
    · have hin : inB to 0 (n - 1) = false := Bool.eq_false_iff.2 (fun h => hto ((inB_iff _ _ _).1 h))
      have Hx := Lib.hid (leX_no2 (net := net) (f := f) (t := t) (ch := ch) (n := n) (to := to) (Bool.eq_false_iff.2 (fun h => hto (by have := isTown_iff.1 h; omega))))
      clear hto ho HA o1
      go_enter Try.func42, Try.ntmps42
      go_wp2_with fail
      refine HC.out.mono ?_; rintro e w1 ⟨rfl, hb⟩
      clear HC
      go_wp2_with fail
      refine (l6In_any _ _ _ _).mono ?_; rintro e w' ⟨rfl, rfl⟩
      rw [hin]
      go_wp2
      go_ret
      exact ⟨ret_int Hx.out.symm, hb⟩

end Go.Proofs.Ytmkcnoaphoiiaaa
