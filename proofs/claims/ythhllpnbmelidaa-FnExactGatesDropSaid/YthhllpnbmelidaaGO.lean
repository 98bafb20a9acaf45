/- ifGates; GatesLater, program and model. -/
import Derived.Test.YthhllpnbmelidaaGN
import Derived.Laws.AppendOwn
import Derived.Deep.RegionHeld3
import Derived.Deep.RegionLaw
import Derived.Deep.AppendLies
namespace Go.Proofs.Ythhllpnbmelidaa
open Go.RowKit
set_option linter.unusedVariables false
set_option linter.unusedSimpArgs false

def latGt (k : Int) (r : Gt) : Gt := ⟨wrap64 (r.a + k), r.b, r.m⟩
def laterG (l : List Gt) (k : Int) : List Gt := l.map (latGt k)
def laterGOk (l : List Gt) (k : Int) : Bool := validG l && validG (laterG l k)
def laterGX (l : List Gt) (k : Int) : List Gt := if laterGOk l k = true then laterG l k else []

theorem laterG_len (l : List Gt) (k : Int) : (laterG l k).length = l.length := by simp [laterG]
theorem laterG_take (l : List Gt) (k : Int) {i : Nat} (h : i < l.length) : laterG (l.take (i + 1)) k = laterG (l.take i) k ++ [latGt k (l.getD i gt0)] := by
  rw [Gt.take_snoc l i h]; simp [laterG]

/-- Beyond a day's times nothing is one. -/
theorem laterG_far {l : List Gt} {k : Int} (hz : validG l = true) (h0 : 0 < l.length) (hw : W64 k) (hk : ¬ (-999 ≤ k ∧ k ≤ 999)) : validG (laterG l k) = false := by
  have h1 := validG_at hz h0
  refine validG_no (i := 0) (by rw [laterG_len]; omega) ?_
  rw [Bool.eq_false_iff]
  intro h
  have h3 := (fitsG_iff _).1 ((okG_iff _ _).1 h).1
  have e : (laterG l k).getD 0 gt0 = latGt k (l.getD 0 gt0) := by
    unfold laterG
    rw [Gt.getD_eq _ (by simp; omega), Gt.getD_eq l h0]
    simp
  rw [e] at h3
  unfold W64 at hw
  unfold latGt at h3
  simp only [wrap64] at h3
  omega

/-- What ifRuns gives. -/
def IfG (ad : Option Addr) (cap : Nat) (xs : List Gt) (w : World) (e : Ending) (w' : World) : Prop :=
  Below w.heap.size w w' ∧ ((validG xs = true ∧ e = .returned (.tuple #[.slice ad xs.length cap, .bool true])) ∨
    (validG xs = false ∧ ∃ g, w.heap.size ≤ g ∧ g < w'.heap.size ∧ e = .returned (.tuple #[.slice (some ⟨g, 0, none⟩) 0 0, .bool false])))

set_option maxHeartbeats 400000 in
theorem ifG_any (ad : Option Addr) (cap : Nat) (xs : List Gt) (w : World) (hv : GtIn w (.slice ad xs.length cap) xs) (hm : xs.length ≤ 1048576) :
    Calls Try.prog 71 #[.slice ad xs.length cap] w (IfG ad cap xs w) := by
  have Hc := Lib.hid (gv2_any _ xs w hv (by omega))
  clear hv
  cases hz : validG xs with
  | true =>
    have Hz := Lib.hid hz; clear hz
    go_enter Try.func71, Try.ntmps71
    go_wp2_with fail
    refine (Hc.out).mono ?_; rintro e w1 ⟨rfl, hb⟩
    rw [Hz.out]
    go_wp2
    go_ret2
    exact ⟨hb, .inl ⟨Hz.out, rfl⟩⟩
  | false =>
    have Hz := Lib.hid hz; clear hz
    go_enter Try.func71, Try.ntmps71
    go_wp2_with fail
    refine (Hc.out).mono ?_; rintro e w1 ⟨rfl, hb⟩
    rw [Hz.out]
    go_wp2
    go_ret2
    exact ⟨hb.alloc hb.size _, .inr ⟨Hz.out, _, hb.size, by simp, rfl⟩⟩

theorem GtOut.no {w w' : World} {g : Nat} (hg : w.heap.size ≤ g) (hl : g < w'.heap.size) (hb : Below w.heap.size w w') : GtOut [] false w (.returned (.tuple #[.slice (some ⟨g, 0, none⟩) 0 0, .bool false])) w' :=
  ⟨some ⟨g, 0, none⟩, 0, rfl, Nat.le_refl _, fun h => absurd rfl h, fun j hj => by obtain ⟨o, ho⟩ := hj; cases ho; exact ⟨hg, hl⟩, hb⟩

/-- From ifRuns' end to a function's. -/
theorem IfG.out {ad : Option Addr} {cap : Nat} {xs : List Gt} {w w1 w2 : World} {e : Ending} (h : IfG ad cap xs w1 e w2) (hc : xs.length ≤ cap) (ho : OwnGt w1 ad xs) (hblk : ∀ j, inBlk ad j → w.heap.size ≤ j ∧ j < w1.heap.size) (hb : Below w.heap.size w w1) :
    GtOut (if validG xs = true then xs else []) (validG xs) w e w2 := by
  obtain ⟨hb2, ⟨hv, rfl⟩ | ⟨hv, g, hg1, hg2, rfl⟩⟩ := h
  · rw [hv, if_pos rfl]
    exact ⟨ad, cap, rfl, hc, ho.below hb2, fun j hj => ⟨(hblk j hj).1, Nat.lt_of_lt_of_le (hblk j hj).2 hb2.size⟩, hb.trans (hb2.mono hb.size)⟩
  · rw [hv]
    exact GtOut.no (Nat.le_trans hb.size hg1) hg2 (hb.trans (hb2.mono hb.size))

def Gl2Rel (l : List Gt) (k : Int) (w : World) (v iv : Value) (wr : World) : Prop :=
  ∃ i : Nat, i ≤ l.length ∧ iv = .int .i64 i ∧ RowGt wr w.heap.size v (laterG (l.take i) k) ∧ Below w.heap.size w wr

set_option maxRecDepth 9990 in
set_option maxHeartbeats 99900 in
theorem later2G_any (v : Value) (l : List Gt) (k : Int) (w : World) (hv : GtIn w v l) (hm : l.length ≤ 1048576) :
    Calls Try.prog 55 #[v, .int .i64 k] w (GtOut (laterGX l k) (laterGOk l k) w) := by
  have Hc := Lib.hid (gv2_any v l w hv (by omega))
  obtain ⟨i0, hi0, hz0, hz1, hz2⟩ := info_parts infoGt
  cases hz : validG l with
  | false =>
    clear hv
    have hok : laterGOk l k = false := by unfold laterGOk; rw [hz]; rfl
    have hl : laterGX l k = [] := by unfold laterGX; rw [hok]; rfl
    rw [hok, hl]
    have Hz := Lib.hid hz; clear hz hok hl
    go_enter Try.func55, Try.ntmps55
    go_wp2_with fail
    refine (Hc.out).mono ?_; rintro e w1 ⟨rfl, hb⟩
    rw [Hz.out]
    go_wp2
    go_ret2
    exact GtOut.no hb.size (by simp) (hb.alloc hb.size _)
  | true =>
    have h12 := (validG_iff.1 hz).1
    have hok : laterGOk l k = validG (laterG l k) := by unfold laterGOk; rw [hz]; rfl
    have hL : laterGX l k = if validG (laterG l k) = true then laterG l k else [] := by unfold laterGX; rw [hok]
    have Hk := Lib.hid (And.intro hok hL)
    have Hz := Lib.hid hz; clear hz hok hL
    obtain ⟨a, cap, rfl, hcap, ha⟩ := hv
    clear hcap
    have Ha := Lib.hid ha; clear ha
    go_enter Try.func55, Try.ntmps55
    go_wp2_with fail
    refine (Hc.out).mono ?_; rintro e w1 ⟨rfl, hb⟩
    rw [Hz.out]
    have hrow0 := RowGt.made w1 w.heap.size hb.size
    have HR0 := Lib.hid hrow0; clear hrow0
    have HB1 := Lib.hid (hb.alloc hb.size (.cells #[] 33))
    go_wp2
    go_loopw [6, 16] (fun v i wr => Gl2Rel l k w v i wr) (fun _ i _ => l.length - (intOf i).toNat)
    case atStart => exact ⟨0, Nat.zero_le _, rfl, HR0.out, HB1.out⟩
    case round =>
      obtain ⟨i, hi, rfl, hown, hbel⟩ := hrel
      by_cases hlt : i < l.length
      · obtain ⟨b, o, rfl, hb0, hrw⟩ := Ha.out (by rintro rfl; simp at hlt)
        obtain ⟨c0, c1, c2⟩ := (hrw.below hbel hb0) i hlt
        have htake := laterG_take l k hlt
        have Htake := Lib.hid htake; clear htake hrw
        have hlat : latGt k (l.getD i gt0) = ⟨wrap64 ((l.getD i gt0).a + k), (l.getD i gt0).b, (l.getD i gt0).m⟩ := rfl
        have Hlat := Lib.hid hlat; clear hlat
        have hxl : (laterG (l.take i) k).length = i := by rw [laterG_len]; simp; omega
        have Hxl := Lib.hid hxl; clear hxl
        generalize (l.getD i gt0).a = xa at *
        generalize (l.getD i gt0).b = xb at *
        generalize (l.getD i gt0).m = xm at *
        unfold RowGt at hown
        have hs1 := hbel.size
        go_wp2_with (at_builtin; refine wpList_append_own _ rfl _ _ 25 rfl w.heap.size 33 i0 _ 3 24 Try.underlying25 hi0 hz0 hz1 hz2 rfl (by omega) _ _ (encGt (laterG (l.take i) k)) rfl ((hown.alloc _).alloc _) ⟨wr.heap.size + 1, 0, none⟩ 1 1 [.int .i64 (wrap64 (xa + k)), .int .i64 xb, .int .i64 xm] rfl rfl (news2 wr _ #[.int .i64 (wrap64 (xa + k)), .int .i64 xb, .int .i64 xm] 33) (by simp [Value.oneCell']) (by rw [Hxl.out]; unfold maxLen; omega) (by rw [Hxl.out]; omega) (by simp; omega) ?_; intro v' w2 hown2 hgrow _)
        have B6 : Below w.heap.size w w2 := (((hbel.alloc hs1 _).alloc (by simp; omega) _).grown hgrow (by simp; omega) (fun j hj => (hown.lt j hj).1))
        have hown7 : RowGt w2 w.heap.size v' (laterG (l.take (i + 1)) k) := by
          rw [Htake.out, Hlat.out]
          exact RowGt.snoc hown2
        have Hown7 := Lib.hid hown7
        have HB6 := Lib.hid B6
        clear hown7 B6 hown2 hgrow hown hbel
        go_wp2
        exact ⟨⟨i + 1, hlt, by go_num, Hown7.out, HB6.out⟩, by simp [intOf]; omega⟩
      · obtain rfl : i = l.length := by omega
        rw [List.take_length] at hown
        obtain ⟨ad, cp, rfl, hcp, hrd, hblk⟩ := hown.row
        have hlen : (laterG l k).length ≤ 1048576 := by rw [laterG_len]; exact hm
        have HB := Lib.hid hbel
        have Hrd := Lib.hid hrd
        have Hblk := Lib.hid hblk
        have Hcp := Lib.hid hcp
        clear hown hbel hrd hblk hcp
        go_wp2_with fail
        refine (ifG_any ad cp (laterG l k) _ (Hrd.out.ins Hcp.out) hlen).mono ?_; rintro e w2 h2
        have h3 := h2.out Hcp.out Hrd.out Hblk.out HB.out
        rw [← Hk.out.1, Hk.out.1, ← Hk.out.2, ← Hk.out.1] at h3
        obtain ⟨ad2, cp2, rfl, h3⟩ := h3
        have H3 := Lib.hid h3; clear h2 h3
        go_wp2
        go_ret2
        exact ⟨ad2, cp2, rfl, H3.out⟩

def Gl1Rel (l : List Gt) (k : Int) (w : World) (v iv : Value) (wr : World) : Prop :=
  ∃ i : Nat, i ≤ l.length ∧ iv = .int .i64 i ∧ RowGt wr w.heap.size v (laterG (l.take i) k) ∧ (i = 0 ∨ (validG l = true ∧ -999 ≤ k ∧ k ≤ 999)) ∧ Below w.heap.size w wr

theorem inB_noG {x lo hi : Int} (h : ¬ (lo ≤ x ∧ x ≤ hi)) : inB x lo hi = false := Bool.eq_false_iff.2 (fun e => h ((inB_iff _ _ _).1 e))

theorem gv1_is (v : Value) (l : List Gt) (w : World) (hv : GtIn w v l) (hl : l.length ≤ 1048576) {x : Bool} (hz : validG l = x) :
    Calls Try.prog 23 #[v] w (Gives (.bool x) w) := by
  have := gv1_any v l w hv (by omega); rwa [hz] at this

set_option maxRecDepth 9990 in
set_option maxHeartbeats 1600000 in
theorem later1G_any (v : Value) (l : List Gt) (k : Int) (w : World) (hv : GtIn w v l) (hm : l.length ≤ 1048576) (wk : W64 k) :
    Calls Try.prog 54 #[v, .int .i64 k] w (GtOut (laterGX l k) (laterGOk l k) w) := by
  have Hv0 := Lib.hid hv
  obtain ⟨a, cap, rfl, hcap, ha⟩ := hv
  clear hcap
  have Ha := Lib.hid ha; clear ha
  obtain ⟨i0, hi0, hz0, hz1, hz2⟩ := info_parts infoGt
  have Hb0 := Lib.hid ((Below.refl w.heap.size w).alloc (Nat.le_refl _) (.cells #[] 33))
  have Hown0 := Lib.hid (RowGt.made w w.heap.size (Nat.le_refl _))
  go_enter Try.func54, Try.ntmps54
  go_wp2
  go_loopw [6, 7] (fun v iv wr => Gl1Rel l k w v iv wr) (fun _ i _ => l.length - (intOf i).toNat)
  case atStart => exact ⟨0, Nat.zero_le _, rfl, Hown0.out, .inl rfl, Hb0.out⟩
  case round =>
    obtain ⟨i, hi, rfl, hown, hval, hbel⟩ := hrel
    by_cases hgo : i < l.length ∧ validG l = true ∧ -999 ≤ k ∧ k ≤ 999
    · obtain ⟨hlt, hz, hk0, hk1⟩ := hgo
      have hlti : (i : Int) < (l.length : Int) := by omega
      have hin : inB k (-999) 999 = true := (inB_iff _ _ _).2 ⟨hk0, hk1⟩
      obtain ⟨b, o, rfl, hlt0, hrw⟩ := Ha.out (by rintro rfl; simp at hlt)
      obtain ⟨x0, x1, _⟩ := validG_at hz hlt
      have h12 := (validG_iff.1 hz).1
      have htake := laterG_take l k hlt
      have hlat : latGt k (l.getD i gt0) = ⟨(l.getD i gt0).a + k, (l.getD i gt0).b, (l.getD i gt0).m⟩ := by
        unfold latGt
        rw [IntWalk.wrap64_in _ ⟨by omega, by omega⟩]
      have Htake := Lib.hid htake; clear htake
      have Hlat := Lib.hid hlat; clear hlat
      have hxl : (laterG (l.take i) k).length = i := by rw [laterG_len]; simp; omega
      have Hxl := Lib.hid hxl; clear hxl
      have Hz := Lib.hid hz; clear hz
      have Hrw := Lib.hid hrw; clear hrw
      have Hlt := Lib.hid hlt; clear hlt
      have Hown := Lib.hid hown; clear hown
      clear hval
      have hi0' : (0 : Int) ≤ (i : Int) := Int.natCast_nonneg _
      go_wp2_with fail
      refine (gv1_is _ l _ (Hv0.out.below hbel) hm Hz.out).mono ?_; rintro e w1 ⟨rfl, hb1⟩
      have hb1' := hb1
      have hbel1 := hbel.trans (hb1'.mono hbel.size)
      have hown1 := Hown.out.below hb1'
      clear hb1' hb1
      go_wp2_with fail
      refine (l6In_any _ _ _ _).mono ?_; rintro e w' ⟨rfl, rfl⟩
      rw [hin]
      obtain ⟨c0, c1, c2⟩ := (Hrw.out.below hbel1 hlt0) i Hlt.out
      generalize (l.getD i gt0).a = xa at *
      generalize (l.getD i gt0).b = xb at *
      generalize (l.getD i gt0).m = xm at *
      have hwa : IntKind.i64.wrap (xa + k) = xa + k := IntWalk.i64_in _ (by omega)
      unfold RowGt at hown1
      have hs1 := hbel1.size
      have hbw : b < w1.heap.size := Nat.lt_of_lt_of_le hlt0 hs1
      clear hbel
      go_wp2
      go_region_held3 (fun w' => w'.cell? ⟨b, o + i * 3, none⟩ = some (.int .i64 xa) ∧ w'.cell? ⟨b, o + i * 3 + 1, none⟩ = some (.int .i64 xb) ∧ w'.cell? ⟨b, o + i * 3 + 2, none⟩ = some (.int .i64 xm)) (first | (go_keep; done) | (go_split_ands; refine ⟨?_, ?_, ?_⟩ <;> (rw [hgrow.cell_far _ (by simp; omega) (by intro h; have := (hown1.lt _ (by simpa using h.symm)).1; omega)]; first | assumption | (go_simp; done))))
        ((refine step_append_lies _ (by rfl) _ _ _ (by rfl) w.heap.size 33 i0 _ 3 24 Try.underlying25 hi0 hz0 hz1 hz2 rfl (by omega) _ _ (encGt (laterG (l.take i) k)) (by rfl) ((hown1.drew).alloc _) ⟨w1.heap.size, 0, none⟩ 1 1 [.int .i64 (xa + k), .int .i64 xb, .int .i64 xm] (by rfl) (by rfl) (World.news_of_block (cs := #[.int .i64 (xa + k), .int .i64 xb, .int .i64 xm]) (t := 33) (fr := (0, 0)) (heap_alloc_new w1.drew _)) (by simp [Value.oneCell']) (by omega) (by rw [Hxl.out]; unfold maxLen; omega) (by rw [Hxl.out]; omega) (by simp; omega) (w1.heap.size + 1) (by simp) ?_; intro gg cap2 w2 hown2 hgrow hat hlt2))
      have hown7 : RowGt w2 w.heap.size (.slice (some ⟨gg, 0, none⟩) ((laterG (l.take i) k).length + 1) cap2) (laterG (l.take (i + 1)) k) := by
        rw [Htake.out, Hlat.out]
        exact RowGt.snoc hown2
      have B6 : Below w.heap.size w w2 := (((hbel1.drew).alloc hs1 _).grown hgrow (by simp; omega) (fun j hj => (hown1.lt j hj).1))
      have Hown7 := Lib.hid hown7
      have HB6 := Lib.hid B6
      clear hown7 B6 hown2 hgrow hown1 hbel1 hat
      go_wp2
      exact ⟨⟨i + 1, Hlt.out, by go_num, Hown7.out, .inr ⟨Hz.out, hk0, hk1⟩, HB6.out⟩, by simp [intOf]; have := Hlt.out; omega⟩
    · have hF : (i = l.length ∨ (i = 0 ∧ i < l.length ∧ laterGOk l k = false)) ∧ (i = l.length → laterGOk l k = validG (laterG l k)) := by
        by_cases hil : i = l.length
        · refine ⟨.inl hil, fun _ => ?_⟩
          rcases hval with h0 | ⟨h1, _, _⟩
          · have : l = [] := List.eq_nil_of_length_eq_zero (by omega)
            subst this; rfl
          · unfold laterGOk; rw [h1]; rfl
        · refine ⟨.inr ?_, fun h => absurd h hil⟩
          have hlt : i < l.length := by omega
          rcases hval with h0 | ⟨h1, h2, h3⟩
          · refine ⟨h0, hlt, ?_⟩
            cases hz : validG l with
            | false => unfold laterGOk; rw [hz]; rfl
            | true => unfold laterGOk; rw [laterG_far hz (by omega) wk (fun h => hgo ⟨hlt, hz, h.1, h.2⟩)]; simp
          · exact absurd ⟨hlt, h1, h2, h3⟩ hgo
      obtain ⟨hF, hG⟩ := hF
      clear hval
      rcases hF with hil | ⟨h0, hlt, hno⟩
      · have hok := hG hil
        subst hil
        clear hG hgo
        rw [List.take_length] at hown
        obtain ⟨ad, cp, rfl, hcp, hrd, hblk⟩ := hown.row
        have hlw : (laterG l k).length = l.length := laterG_len l k
        have HB := Lib.hid hbel
        have Hrd := Lib.hid hrd
        have Hblk := Lib.hid hblk
        have Hcp := Lib.hid hcp
        have Hlw := Lib.hid hlw
        clear hown hbel hrd hblk hcp hlw
        have hne : (((laterG l k).length : Int) != (l.length : Int)) = false := by rw [Hlw.out]; simp
        have hne2 : ((laterG l k).length != l.length) = false := by rw [Hlw.out]; simp
        cases hx : validG (laterG l k) with
        | true =>
          have hok' : laterGOk l k = true := hok.trans hx
          have hL : laterGX l k = laterG l k := if_pos hok'
          have Hk := Lib.hid (And.intro hok' hL)
          have Hx := Lib.hid hx
          clear hok hok' hL hx
          go_wp2_with fail
          refine (gv1_is _ (laterG l k) _ (Hrd.out.ins Hcp.out) (by rw [Hlw.out]; exact hm) Hx.out).mono ?_; rintro e w9 ⟨rfl, hb9⟩
          have hb9' := hb9
          clear hb9
          go_wp2
          go_ret2
          rw [Hk.out.1, Hk.out.2]
          exact ⟨ad, cp, rfl, Hcp.out, Hrd.out.below hb9', fun j hj => ⟨(Hblk.out j hj).1, Nat.lt_of_lt_of_le (Hblk.out j hj).2 hb9'.size⟩, HB.out.trans (hb9'.mono HB.out.size)⟩
        | false =>
          have hok' : laterGOk l k = false := hok.trans hx
          have hL : laterGX l k = [] := if_neg (by rw [hok']; simp)
          have Hk := Lib.hid (And.intro hok' hL)
          have Hx := Lib.hid hx
          clear hok hok' hL hx
          go_wp2_with fail
          refine (gv1_is _ (laterG l k) _ (Hrd.out.ins Hcp.out) (by rw [Hlw.out]; exact hm) Hx.out).mono ?_; rintro e w9 ⟨rfl, hb9⟩
          have hb9' := hb9
          have HB9 := Lib.hid (HB.out.trans (hb9'.mono HB.out.size))
          clear hb9 hb9'
          go_wp2
          go_ret2
          rw [Hk.out.1, Hk.out.2]
          exact GtOut.no HB9.out.size (by simp) (HB9.out.alloc HB9.out.size _)
      · have hL : laterGX l k = [] := if_neg (by rw [hno]; simp)
        have Hk := Lib.hid (And.intro hno hL)
        have hlti : (i : Int) < (l.length : Int) := by omega
        have hi0' : (0 : Int) ≤ (i : Int) := Int.natCast_nonneg _
        have hxl : (laterG (l.take i) k).length = 0 := by rw [laterG_len, h0]; simp
        obtain ⟨ad, cp, rfl, hcp, hrd, hblk⟩ := hown.row
        rw [hxl]
        clear hown hrd hblk hcp hL hno hG hxl
        have hl1 : (1 : Int) ≤ (l.length : Int) := by omega
        have hne : (0 != (l.length : Int)) = true := by rw [bne_iff_ne]; omega
        have hne2 : ((0 : Int) == (l.length : Int)) = false := by rw [beq_eq_false_iff_ne]; omega
        have HB := Lib.hid hbel
        have Hgo := Lib.hid hgo
        have H0 := Lib.hid h0
        clear hgo h0
        cases hz : validG l with
        | false =>
          have Hz := Lib.hid hz; clear hz
          go_wp2_with fail
          refine (gv1_is _ l _ (Hv0.out.below hbel) hm Hz.out).mono ?_; rintro e w1 ⟨rfl, hb1⟩
          have hb1' := hb1
          have HB1 := Lib.hid (HB.out.trans (hb1'.mono HB.out.size))
          clear hb1 hb1' hbel
          go_wp2
          go_ret2
          rw [Hk.out.1, Hk.out.2]
          exact GtOut.no HB1.out.size (by simp) (HB1.out.alloc HB1.out.size _)
        | true =>
          have hin : inB k (-999) 999 = false := inB_noG (fun h => Hgo.out ⟨by omega, hz, h.1, h.2⟩)
          have Hz := Lib.hid hz; clear hz
          go_wp2_with fail
          refine (gv1_is _ l _ (Hv0.out.below hbel) hm Hz.out).mono ?_; rintro e w1 ⟨rfl, hb1⟩
          have hb1' := hb1
          have HB1 := Lib.hid (HB.out.trans (hb1'.mono HB.out.size))
          clear hb1 hb1' hbel
          go_wp2_with fail
          refine (l6In_any _ _ _ _).mono ?_; rintro e w' ⟨rfl, rfl⟩
          rw [hin]
          go_wp2
          go_ret2
          rw [Hk.out.1, Hk.out.2]
          exact GtOut.no HB1.out.size (by simp) (HB1.out.alloc HB1.out.size _)

theorem laterGX_short {l : List Gt} (h : l.length ≤ 1048576) (k : Int) : (laterGX l k).length ≤ 1048576 := by
  unfold laterGX
  split
  · rw [laterG_len]; exact h
  · simp

end Go.Proofs.Ythhllpnbmelidaa
