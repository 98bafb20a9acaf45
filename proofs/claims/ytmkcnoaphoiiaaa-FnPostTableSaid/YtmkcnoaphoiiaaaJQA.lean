/- The program's spread, with a callback. -/
import Derived.Test.YtmkcnoaphoiiaaaJP
import Derived.Deep.LoopGhost
namespace Go.Proofs.Ytmkcnoaphoiiaaa
open Go.RowKit

section
variable {n : Int} {net : List (List Rd)} {ch : Int} {κ : Kp}
/-- What the callback does. -/
def CallsspreadA (κ : Kp) (n : Int) (Inv : Tbl → World → Prop) (S : Nat → Prop) (B0 : Nat) (tb : Nat) : Prop :=
  ∀ (T : Tbl) (x : Ltr) (w : World), Inv T w → B0 ≤ w.heap.size → 0 ≤ x.u → x.u < n → 0 ≤ x.t → x.t ≤ 10000 → 0 ≤ x.r → x.r ≤ 20001 →
    Calls Try.prog 81 #[.pointer (some ⟨tb, 0, none⟩), ltV x] w fun e w' => e = .returned (.bool (impr κ T x).2) ∧ Inv (impr κ T x).1 w' ∧ Touch S w w'

def spreadARel (κ : Kp) (net : List (List Rd)) (ch : Int) (d : Nat) (T1 : Tbl) (x : Ltr) (Inv : Tbl → World → Prop) (S : Nat → Prop) (w1 : World) (iv : Value) (wr : World) : Prop :=
  ∃ k : Nat, k ≤ net.length ∧ iv = .int .i64 k ∧ Inv (sprL κ net ch d T1 ((net.take k).flatMap (subsC ch x))) wr ∧ Touch S w1 wr
def spreadAIn (κ : Kp) (net : List (List Rd)) (ch : Int) (d : Nat) (Tk : Tbl) (x : Ltr) (l : List Rd) (hs : List Nat) (i : Nat) (Inv : Tbl → World → Prop) (S : Nat → Prop) (w2 : World) (gk : Nat) (hv : Value) (wr : World) : Prop :=
  ∃ j : Nat, j + gk = l.length ∧ i < j ∧ hv = ptB hs[j]? ∧ Inv (sprL κ net ch d Tk (subJ l x.r i j)) wr ∧ Touch S w2 wr

set_option maxRecDepth 100000 in
set_option maxHeartbeats 4000000 in
theorem spreadA_any (tb : Nat) (Inv : Tbl → World → Prop) (S : Nat → Prop) (B B0 pb : Nat) (a : Option Addr) (cap cb : Nat) (tbs : Nat → Nat) (hss : Nat → List Nat) (ok : okNet n net = true) (hc0 : 0 ≤ ch) (hc1 : ch ≤ 300)
    (hkeep : ∀ T w w', Inv T w → Below w.heap.size w w' → Inv T w') (hS : ∀ p, S p → B ≤ p ∧ p < B0) (HC : CallsspreadA κ n Inv S B0 tb) :
    ∀ (d : Nat) (T : Tbl) (x : Ltr) (w : World), Inv T w → PNet w B pb a cap cb tbs hss net ch → B0 ≤ w.heap.size → 0 ≤ x.u → x.u < n → 0 ≤ x.t → x.t ≤ 10000 → 0 ≤ x.r → x.r + d ≤ 20001 → 10000 < (d : Int) + x.t →
    Calls Try.prog 79 #[.pointer (some ⟨pb, 0, none⟩), ltV x, .func (.func 81) #[.pointer (some ⟨tb, 0, none⟩)] #[]] w fun e w' => e = .returned (.tuple #[]) ∧ Inv (spr κ net ch d T x) w' ∧ Touch S w w' := by
  intro d
  induction d with
  | zero => intro T x w _ _ _ _ _ _ h1 _ _ h2; omega
  | succ d ih =>
    intro T x w hinv hP hB0 hu0 hu1 ht0 ht1 hr0 hrd hd
    have Hok := Lib.hid ok
    have Hkeep := Lib.hid hkeep
    have HS := Lib.hid hS
    have HCC := Lib.hid HC
    have IH := Lib.hid ih
    obtain ⟨hn1, hn8, hl6⟩ := (okNet_iff.1 ok).1
    have hb : Below w.heap.size w (w.alloc (.cells (ltC x) 81)) := (Below.refl _ _).alloc (Nat.le_refl _) _
    have HW := Lib.hid (Whole.made w 81 (ltC x))
    have HInv := Lib.hid (hkeep T _ _ hinv hb)
    have HP := Lib.hid (hP.below (hb.mono (Nat.le_trans hP.hi (Nat.le_refl _))))
    have HB := Lib.hid hb
    have hz : (w.alloc (.cells (ltC x) 81)).heap.size = w.heap.size + 1 := by simp
    have Hz := Lib.hid hz
    have Hhi := Lib.hid hP.hi
    have Hout := Lib.hid (fun (w' : World) (h : Touch S (w.alloc (.cells (ltC x) 81)) w') => (Touch.of_below (S := S) hb).trans h)
    clear ok hkeep hS HC ih hinv hP hb hz
    obtain ⟨u, t, r⟩ := x
    simp only at hu0 hu1 ht0 ht1 hr0 hrd hd
    unfold ltC at *
    unfold ltV
    simp only at *
    have e0 : (w.alloc (.cells #[.int .i64 u, .int .i64 t, .int .i64 r] 81)).cell? ⟨w.heap.size, 0, none⟩ = some (.int .i64 u) := HW.out.cell rfl
    have e1 : (w.alloc (.cells #[.int .i64 u, .int .i64 t, .int .i64 r] 81)).cell? ⟨w.heap.size, 1, none⟩ = some (.int .i64 t) := HW.out.cell rfl
    have e2 : (w.alloc (.cells #[.int .i64 u, .int .i64 t, .int .i64 r] 81)).cell? ⟨w.heap.size, 2, none⟩ = some (.int .i64 r) := HW.out.cell rfl
    go_enter Try.func79, Try.ntmps79
    go_wp2_with fail
    generalize w.alloc (.cells #[.int .i64 u, .int .i64 t, .int .i64 r] 81) = w0 at *
    refine (HCC.out T ⟨u, t, r⟩ _ HInv.out (by have := Hz.out; omega) hu0 hu1 ht0 ht1 hr0 (by simp only; omega)).mono ?_; rintro e w1 ⟨rfl, hinv1, htt1⟩
    have HInv1 := Lib.hid hinv1
    have HT1 := Lib.hid htt1
    clear hinv1 htt1 e0 e1 e2 HInv
    have HB0 := Lib.hid hB0
    have HP1 := Lib.hid (HP.out.below (HT1.out.below (fun p hp => (HS.out p hp).1) (by have := Hhi.out; have := Hz.out; omega)))
    have HW1 := Lib.hid (HW.out.touch7 HT1.out (fun hp => by have := (HS.out _ hp).2; have := HB0.out; omega))
    have hz1 := HT1.out.size
    have Hz1 := Lib.hid hz1
    have Hhi1 := Lib.hid (show B ≤ w1.heap.size by have := Hhi.out; have := Hz.out; omega)
    have HB1 := Lib.hid (show B0 ≤ w1.heap.size by have := HB0.out; have := Hz.out; omega)
    clear hz1 hB0
    cases hgo : (impr κ T ⟨u, t, r⟩).2 with
    | false =>
      have Hs := Lib.hid (spr_no (net := net) (ch := ch) (d := d) hgo)
      clear hgo
      go_wp2
      refine bodyPost_ret (v := .tuple #[]) (by simp [results, Try.results79, go_sem]) rfl ?_
      exact ⟨rfl, by rw [Hs.out]; exact HInv1.out, Hout.out _ HT1.out⟩
    | true =>
      have Hs := Lib.hid (spr_yes (net := net) (ch := ch) (d := d) hgo)
      clear hgo
      generalize (impr κ T ⟨u, t, r⟩).1 = T1 at *
      have c0 : w1.cell? ⟨pb, 0, none⟩ = some (.slice a net.length cap) := HP1.out.top.cell rfl
      go_wp2
      clear c0
      go_loopw [18] (fun iv wr => spreadARel κ net ch d T1 ⟨u, t, r⟩ Inv S w1 iv wr) (fun iv _ => net.length - (intOf iv).toNat)
      case atStart => exact ⟨0, Nat.zero_le _, rfl, by rw [List.take_zero]; exact HInv1.out, Touch.refl _ _⟩
      case round =>
        obtain ⟨k, hk, rfl, hinv, htt⟩ := hrel
        have Hinv := Lib.hid hinv
        have Htt := Lib.hid htt
        have hPr := HP1.out.below (htt.below (fun p hp => (HS.out p hp).1) Hhi1.out)
        have hWr := HW1.out.touch7 htt (fun hp => by have := (HS.out _ hp).2; have := HB0.out; omega)
        have HPr := Lib.hid hPr
        have HWr := Lib.hid hWr
        have hsz := htt.size
        have Hsz := Lib.hid hsz
        clear hinv htt hPr hWr hsz
        by_cases hlt : k < net.length
        · obtain ⟨rfl, hcb, c1⟩ := HPr.out.row k hlt
          obtain ⟨htk, htb, hhb⟩ := HPr.out.tt k hlt
          have e0 : wr.cell? ⟨w.heap.size, 0, none⟩ = some (.int .i64 u) := HWr.out.cell rfl
          have hvs := (okNet_iff.1 Hok.out).2 k hlt
          have l8 : (coach net k).length ≤ 8 := (validS_iff.1 hvs).1.2.2.2
          have Hvs := Lib.hid hvs
          have Hhb := Lib.hid hhb
          have Htf := Lib.hid (take_flat (subsC ch ⟨u, t, r⟩) net hlt)
          have Htk := Lib.hid htk
          have L8 := Lib.hid l8
          clear hhb hvs htk l8 hcb
          go_wp2_with fail
          refine (in_any (tbs k) (hss k) (coach net k) u _ Htk.out L8.out).mono ?_
          rintro e w' ⟨rfl, ⟨i, hi, rfl, hn, hta⟩ | ⟨rfl, hn⟩⟩
          · have Hat := Lib.hid (show atS (coach net k) (⟨u, t, r⟩ : Ltr).u = some i from atS_some hi hn hta)
            have c2 := Htk.out.leave hi
            have c3 : w'.cell? ⟨pb, 1, none⟩ = some (.int .i64 ch) := HPr.out.top.cell rfl
            have e1 : w'.cell? ⟨w.heap.size, 1, none⟩ = some (.int .i64 t) := HWr.out.cell rfl
            have e2 : w'.cell? ⟨w.heap.size, 2, none⟩ = some (.int .i64 r) := HWr.out.cell rfl
            have Hi := Lib.hid hi
            have Hno := Lib.hid (fun h => subsC_no (ch := ch) (x := ⟨u, t, r⟩) Hat.out h)
            have Hyes := Lib.hid (fun h => subsC_yes (ch := ch) (x := ⟨u, t, r⟩) Hat.out h)
            have Hc5 := Lib.hid (fun (w9 : World) (h : Below B w' w9) => show w9.cell? ⟨(hss k).getD i 0, 5, none⟩ = some (ptB (hss k)[i + 1]?) from (Htk.out.belowB h htb Hhb.out).halts i hi |>.cell rfl)
            have hgi := Hhb.out i hi
            clear hn hta hi
            generalize ((coach net k).getD i rd0).m = m at *
            generalize hgie : (hss k).getD i 0 = gi at *
            clear hgie
            go_wp2_with fail
            refine (catches_any pb gi u t r ch m _ c3 c2 ht0 ht1 hc0 hc1).mono ?_; rintro e w2 ⟨rfl, hb2⟩
            have HT2 := Lib.hid (Htt.out.trans (Touch.of_below (S := S) hb2))
            have HB2 := Lib.hid hb2
            have HInv2 := Lib.hid (Hkeep.out _ _ _ Hinv.out hb2)
            have hBle : B ≤ w'.heap.size := Nat.le_trans Hhi1.out Hsz.out
            have c5 := Hc5.out w2 (hb2.mono hBle)
            have HP2 := Lib.hid (HPr.out.below (hb2.mono hBle))
            have HW2 := Lib.hid (HWr.out.below hb2 HWr.out.lt)
            have Hle2 := Lib.hid (show B ≤ w2.heap.size ∧ B0 ≤ w2.heap.size by have := hb2.size; have := HB1.out; have := Hsz.out; omega)
            clear c2 c3 e0 e1 e2 hb2 hBle
            cases hcat : catL ch ⟨u, t, r⟩ m with
            | false =>
              have Hsub := Lib.hid (Hno.out hcat)
              clear hcat c5
              go_wp2
              exact ⟨⟨k + 1, hlt, by go_num, by rw [Htf.out]; erw [Hsub.out]; rw [List.append_nil]; exact HInv2.out, HT2.out⟩, by simp [intOf]; omega⟩
            | true =>
              have Hsub := Lib.hid (Hyes.out hcat)
              clear hcat
              generalize hTk : sprL κ net ch d T1 ((net.take k).flatMap (subsC ch ⟨u, t, r⟩)) = Tk at *
              have HTk := Lib.hid hTk
              clear hTk
              go_wp2
              clear c5
              go_loopg [8] ((coach net k).length - (i + 1)) (fun gk hv wr => spreadAIn κ net ch d Tk ⟨u, t, r⟩ (coach net k) (hss k) i Inv S w2 gk hv wr)
              case atStart => exact ⟨i + 1, by have := Hi.out; omega, Nat.lt_succ_self i, rfl, by rw [subJ_nil]; exact HInv2.out, Touch.refl _ _⟩
              case round =>
                obtain ⟨j, hj, hij, rfl, hinvj, httj⟩ := hrel
                have hPj := HP2.out.below (httj.below (fun p hp => (HS.out p hp).1) Hle2.out.1)
                have HPj := Lib.hid hPj
                have HWj := Lib.hid (HW2.out.touch7 httj (fun hp => by have := (HS.out _ hp).2; have := HB0.out; omega))
                have Hinvj := Lib.hid hinvj
                have Httj := Lib.hid httj
                have Hlej := Lib.hid (show B ≤ wr.heap.size ∧ B0 ≤ wr.heap.size by have := httj.size; have := Hle2.out; omega)
                clear hPj hinvj httj
                by_cases hlj : j < (coach net k).length
                · obtain ⟨htj, htbj, hhbj⟩ := HPj.out.tt k hlt
                  rw [ptB_some (by rw [htj.len]; exact hlj)]
                  have d0 := htj.town hlj
                  have d1 := htj.arrive hlj
                  have hva := validS_at Hvs.out hlj
                  have hvn := (fitsS_iff _ _).1 ((okS_iff _ _ _).1 ((validS_iff.1 Hvs.out).2 j hlj)).1
                  have hup : t < ((coach net k).getD j rd0).b := by
                    have h9 := subsUp (net := net) (ch := ch) Hok.out hc0 ⟨u, t, r⟩ hr0 ⟨((coach net k).getD j rd0).a, ((coach net k).getD j rd0).b, r + 1⟩ (by
                      unfold subs
                      rw [List.mem_flatMap]
                      refine ⟨coach net k, by rw [coach_eq hlt]; exact List.getElem_mem hlt, ?_⟩
                      rw [Hsub.out]
                      exact mem_subC.2 ⟨j, hij, hlj, rfl⟩)
                    exact h9.1
                  have e0 : wr.cell? ⟨w.heap.size, 0, none⟩ = some (.int .i64 u) := HWj.out.cell rfl
                  have e1 : wr.cell? ⟨w.heap.size, 1, none⟩ = some (.int .i64 t) := HWj.out.cell rfl
                  have e2 : wr.cell? ⟨w.heap.size, 2, none⟩ = some (.int .i64 r) := HWj.out.cell rfl
                  have Hsj := Lib.hid (subJ_succ (coach net k) r hij)
                  have Hc6 := Lib.hid (fun (w9 : World) (h : Below B wr w9) => show w9.cell? ⟨(hss k).getD j 0, 5, none⟩ = some (ptB (hss k)[j + 1]?) from (htj.belowB h htbj hhbj).halts j hlj |>.cell rfl)
                  obtain ⟨gk', rfl⟩ : ∃ g, gk = g + 1 := ⟨gk - 1, by omega⟩
                  have Hj := Lib.hid hj
                  have Hij := Lib.hid hij
                  have hbb := And.intro hva.2.2.1 (show ((coach net k).getD j rd0).b ≤ 10000 by omega)
                  have haa := And.intro hvn.1 hvn.2.1
                  clear htj hhbj hva hvn hj hij hlj
                  generalize ((coach net k).getD j rd0).a = aj at *
                  generalize ((coach net k).getD j rd0).b = bj at *
                  generalize hgje : (hss k).getD j 0 = gj at *
                  clear hgje
                  go_wp2_with fail
                  refine (brought_any gj u t r aj bj _ d0 d1 hr0 (by omega)).mono ?_; rintro e w3 ⟨rfl, hb3⟩
                  have HInv3 := Lib.hid (Hkeep.out _ _ _ Hinvj.out hb3)
                  have HP3 := Lib.hid (HPj.out.below (hb3.mono Hlej.out.1))
                  have HB3 := Lib.hid hb3
                  have Hle3 := Lib.hid (show B ≤ w3.heap.size ∧ B0 ≤ w3.heap.size by have := hb3.size; have := Hlej.out; omega)
                  clear d0 d1 e0 e1 e2 hb3
                  go_wp2_with fail
                  refine (IH.out _ ⟨aj, bj, r + 1⟩ _ HInv3.out HP3.out Hle3.out.2 haa.1 haa.2 hbb.1 hbb.2 (by simp only; omega) (by simp only; omega) (by simp only; omega)).mono ?_; rintro e w4 ⟨rfl, hinv4, htt4⟩
                  have HInv4 := Lib.hid hinv4
                  have HT4 := Lib.hid ((Httj.out.trans (Touch.of_below (S := S) HB3.out)).trans htt4)
                  have c6 := Hc6.out w4 ((HB3.out.mono Hlej.out.1).trans (htt4.below (fun p hp => (HS.out p hp).1) Hle3.out.1))
                  clear hinv4 htt4
                  go_wp2
                  go_roundg gk'
                  case measure => omega
                  case rel => exact ⟨j + 1, by have := Hj.out; omega, by have := Hij.out; omega, rfl, by rw [Hsj.out, sprL_append]; exact HInv4.out, HT4.out⟩
                · obtain rfl : j = (coach net k).length := by omega
                  have Hfin := Lib.hid (HT2.out.trans Httj.out)
                  have hpn : ptB (hss k)[(coach net k).length]? = .pointer none := ptB_none (by rw [(HPj.out.tt k hlt).1.len]; exact Nat.le_refl _)
                  rw [hpn]
                  clear hpn hlj hj hij
                  go_wp2
                  exact ⟨⟨k + 1, hlt, by go_num, by rw [Htf.out, sprL_append, HTk.out]; erw [Hsub.out]; rw [← subJ_all]; exact Hinvj.out, Hfin.out⟩, by simp [intOf]; omega⟩
          · have Hsub := Lib.hid (subsC_none (ch := ch) (x := ⟨u, t, r⟩) (atS_none hn))
            clear hn e0
            go_wp2
            exact ⟨⟨k + 1, hlt, by go_num, by rw [Htf.out]; erw [Hsub.out]; rw [List.append_nil]; exact Hinv.out, Htt.out⟩, by simp [intOf]; omega⟩
        · obtain rfl : k = net.length := by omega
          go_wp2
          go_end0
          refine ⟨rfl, ?_, Hout.out _ (HT1.out.trans Htt.out)⟩
          rw [Hs.out]
          have := Hinv.out
          rwa [List.take_length] at this
end

end Go.Proofs.Ytmkcnoaphoiiaaa
