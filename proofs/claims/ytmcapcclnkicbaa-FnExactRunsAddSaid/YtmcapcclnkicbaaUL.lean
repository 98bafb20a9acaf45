/- RunsLater, program and model; ifRuns. -/
import Derived.Test.YtmcapcclnkicbaaUV
import Derived.Test.YtmcapcclnkicbaaUW
import Derived.Laws.AppendOwn
import Derived.Deep.RegionHeld3
import Derived.Deep.RegionLaw
import Derived.Deep.AppendLies
namespace Go.Proofs.Ytmcapcclnkicbaa
open Go.RowKit

def latU (k : Int) (r : Rn) : Rn := ⟨wrap64 (r.a + k), wrap64 (r.b + k)⟩
def laterW (l : List Rn) (k : Int) : List Rn := l.map (latU k)
def laterOk (l : List Rn) (k : Int) : Bool := validU l && validU (laterW l k)
def laterL (l : List Rn) (k : Int) : List Rn := if laterOk l k = true then laterW l k else []

theorem laterW_len (l : List Rn) (k : Int) : (laterW l k).length = l.length := by simp [laterW]
theorem laterW_take (l : List Rn) (k : Int) {i : Nat} (h : i < l.length) : laterW (l.take (i + 1)) k = laterW (l.take i) k ++ [latU k (l.getD i rn0)] := by
  rw [Rn.take_snoc l i h]; simp [laterW]

/-- Beyond a day's times nothing is one. -/
theorem later_far {l : List Rn} {k : Int} (hz : validU l = true) (h0 : 0 < l.length) (hw : W64 k) (hk : ¬ (-10000 ≤ k ∧ k ≤ 10000)) : validU (laterW l k) = false := by
  have h1 := validU_at hz h0
  refine validU_no (i := 0) (by rw [laterW_len]; omega) ?_
  rw [Bool.eq_false_iff]
  intro h
  have h3 := (fitsU_iff _).1 ((okU_iff _ _).1 h).1
  have e : (laterW l k).getD 0 rn0 = latU k (l.getD 0 rn0) := by
    unfold laterW
    rw [Rn.getD_eq _ (by simp; omega), Rn.getD_eq l h0]
    simp
  rw [e] at h3
  unfold W64 at hw
  unfold latU at h3
  simp only [wrap64] at h3
  omega

/-- What ifRuns gives. -/
def IfU (ad : Option Addr) (cap : Nat) (xs : List Rn) (w : World) (e : Ending) (w' : World) : Prop :=
  Below w.heap.size w w' ∧ ((validU xs = true ∧ e = .returned (.tuple #[.slice ad xs.length cap, .bool true])) ∨
    (validU xs = false ∧ ∃ g, w.heap.size ≤ g ∧ g < w'.heap.size ∧ e = .returned (.tuple #[.slice (some ⟨g, 0, none⟩) 0 0, .bool false])))

set_option maxHeartbeats 400000 in
theorem ifU_any (ad : Option Addr) (cap : Nat) (xs : List Rn) (w : World) (hv : RnIn w (.slice ad xs.length cap) xs) (hm : xs.length ≤ 1048576) :
    Calls Try.prog 61 #[.slice ad xs.length cap] w (IfU ad cap xs w) := by
  have Hc := Lib.hid (runs2_any _ xs w hv hm)
  clear hv
  cases hz : validU xs with
  | true =>
    have Hz := Lib.hid hz; clear hz
    go_enter Try.func61, Try.ntmps61
    go_wp2_with fail
    refine (Hc.out).mono ?_; rintro e w1 ⟨rfl, hb⟩
    rw [Hz.out]
    go_wp2
    go_ret2
    exact ⟨hb, .inl ⟨Hz.out, rfl⟩⟩
  | false =>
    have Hz := Lib.hid hz; clear hz
    go_enter Try.func61, Try.ntmps61
    go_wp2_with fail
    refine (Hc.out).mono ?_; rintro e w1 ⟨rfl, hb⟩
    rw [Hz.out]
    go_wp2
    go_ret2
    exact ⟨hb.alloc hb.size _, .inr ⟨Hz.out, _, hb.size, by simp, rfl⟩⟩

theorem RnOut.no {w w' : World} {g : Nat} (hg : w.heap.size ≤ g) (hl : g < w'.heap.size) (hb : Below w.heap.size w w') : RnOut [] false w (.returned (.tuple #[.slice (some ⟨g, 0, none⟩) 0 0, .bool false])) w' :=
  ⟨some ⟨g, 0, none⟩, 0, rfl, Nat.le_refl _, fun h => absurd rfl h, fun j hj => by obtain ⟨o, ho⟩ := hj; cases ho; exact ⟨hg, hl⟩, hb⟩

/-- From ifRuns' end to a function's. -/
theorem IfU.out {ad : Option Addr} {cap : Nat} {xs : List Rn} {w w1 w2 : World} {e : Ending} (h : IfU ad cap xs w1 e w2) (hc : xs.length ≤ cap) (ho : OwnRn w1 ad xs) (hblk : ∀ j, inBlk ad j → w.heap.size ≤ j ∧ j < w1.heap.size) (hb : Below w.heap.size w w1) :
    RnOut (if validU xs = true then xs else []) (validU xs) w e w2 := by
  obtain ⟨hb2, ⟨hv, rfl⟩ | ⟨hv, g, hg1, hg2, rfl⟩⟩ := h
  · rw [hv, if_pos rfl]
    exact ⟨ad, cap, rfl, hc, ho.below hb2, fun j hj => ⟨(hblk j hj).1, Nat.lt_of_lt_of_le (hblk j hj).2 hb2.size⟩, hb.trans (hb2.mono hb.size)⟩
  · rw [hv]
    exact RnOut.no (Nat.le_trans hb.size hg1) hg2 (hb.trans (hb2.mono hb.size))

def L2Rel (l : List Rn) (k : Int) (w : World) (v iv : Value) (wr : World) : Prop :=
  ∃ i : Nat, i ≤ l.length ∧ iv = .int .i64 i ∧ RowRn wr w.heap.size v (laterW (l.take i) k) ∧ Below w.heap.size w wr

set_option maxRecDepth 100000 in
set_option maxHeartbeats 1000000 in
theorem later2_any (v : Value) (l : List Rn) (k : Int) (w : World) (hv : RnIn w v l) (hm : l.length ≤ 1048576) :
    Calls Try.prog 44 #[v, .int .i64 k] w (RnOut (laterL l k) (laterOk l k) w) := by
  have Hc := Lib.hid (runs2_any v l w hv hm)
  obtain ⟨i0, hi0, hz0, hz1, hz2⟩ := info_parts infoRn
  cases hz : validU l with
  | false =>
    clear hv
    have hok : laterOk l k = false := by unfold laterOk; rw [hz]; rfl
    have hl : laterL l k = [] := by unfold laterL; rw [hok]; rfl
    rw [hok, hl]
    have Hz := Lib.hid hz; clear hz hok hl
    go_enter Try.func44, Try.ntmps44
    go_wp2_with fail
    refine (Hc.out).mono ?_; rintro e w1 ⟨rfl, hb⟩
    rw [Hz.out]
    go_wp2
    go_ret2
    exact RnOut.no hb.size (by simp) (hb.alloc hb.size _)
  | true =>
    have h12 := (validU_iff.1 hz).1
    have hok : laterOk l k = validU (laterW l k) := by unfold laterOk; rw [hz]; rfl
    have hL : laterL l k = if validU (laterW l k) = true then laterW l k else [] := by unfold laterL; rw [hok]
    have Hk := Lib.hid (And.intro hok hL)
    have Hz := Lib.hid hz; clear hz hok hL
    obtain ⟨a, cap, rfl, hcap, ha⟩ := hv
    clear hcap
    have Ha := Lib.hid ha; clear ha
    go_enter Try.func44, Try.ntmps44
    go_wp2_with fail
    refine (Hc.out).mono ?_; rintro e w1 ⟨rfl, hb⟩
    rw [Hz.out]
    have hrow0 := RowRn.made w1 w.heap.size hb.size
    have HR0 := Lib.hid hrow0; clear hrow0
    have HB1 := Lib.hid (hb.alloc hb.size (.cells #[] 48))
    go_wp2
    go_loopw [6, 16] (fun v i wr => L2Rel l k w v i wr) (fun _ i _ => l.length - (intOf i).toNat)
    case atStart => exact ⟨0, Nat.zero_le _, rfl, HR0.out, HB1.out⟩
    case round =>
      obtain ⟨i, hi, rfl, hown, hbel⟩ := hrel
      by_cases hlt : i < l.length
      · obtain ⟨b, o, rfl, hb0, hrw⟩ := Ha.out (by rintro rfl; simp at hlt)
        obtain ⟨c0, c1⟩ := (hrw.below hbel hb0) i hlt
        have htake := laterW_take l k hlt
        have Htake := Lib.hid htake; clear htake hrw
        have hlat : latU k (l.getD i rn0) = ⟨wrap64 ((l.getD i rn0).a + k), wrap64 ((l.getD i rn0).b + k)⟩ := rfl
        have Hlat := Lib.hid hlat; clear hlat
        have hxl : (laterW (l.take i) k).length = i := by rw [laterW_len]; simp; omega
        have Hxl := Lib.hid hxl; clear hxl
        generalize (l.getD i rn0).a = xa at *
        generalize (l.getD i rn0).b = xb at *
        unfold RowRn at hown
        have hs1 := hbel.size
        go_wp2_with (at_builtin; refine wpList_append_own _ rfl _ _ 25 rfl w.heap.size 48 i0 _ 2 16 Try.underlying25 hi0 hz0 hz1 hz2 rfl (by omega) _ _ (encRn (laterW (l.take i) k)) rfl ((hown.alloc _).alloc _) ⟨wr.heap.size + 1, 0, none⟩ 1 1 [.int .i64 (wrap64 (xa + k)), .int .i64 (wrap64 (xb + k))] rfl rfl (news2 wr _ #[.int .i64 (wrap64 (xa + k)), .int .i64 (wrap64 (xb + k))] 48) (by simp [Value.oneCell']) (by rw [Hxl.out]; unfold maxLen; omega) (by rw [Hxl.out]; omega) (by simp; omega) ?_; intro v' w2 hown2 hgrow _)
        have B6 : Below w.heap.size w w2 := (((hbel.alloc hs1 _).alloc (by simp; omega) _).grown hgrow (by simp; omega) (fun j hj => (hown.lt j hj).1))
        have hown7 : RowRn w2 w.heap.size v' (laterW (l.take (i + 1)) k) := by
          rw [Htake.out, Hlat.out]
          exact RowRn.snoc hown2
        have Hown7 := Lib.hid hown7
        have HB6 := Lib.hid B6
        clear hown7 B6 hown2 hgrow hown hbel
        go_wp2
        exact ⟨⟨i + 1, hlt, by go_num, Hown7.out, HB6.out⟩, by simp [intOf]; omega⟩
      · obtain rfl : i = l.length := by omega
        rw [List.take_length] at hown
        obtain ⟨ad, cp, rfl, hcp, hrd, hblk⟩ := hown.row
        have hlen : (laterW l k).length ≤ 1048576 := by rw [laterW_len]; exact hm
        have HB := Lib.hid hbel
        have Hrd := Lib.hid hrd
        have Hblk := Lib.hid hblk
        have Hcp := Lib.hid hcp
        clear hown hbel hrd hblk hcp
        go_wp2_with fail
        refine (ifU_any ad cp (laterW l k) _ (Hrd.out.ins Hcp.out) hlen).mono ?_; rintro e w2 h2
        have h3 := h2.out Hcp.out Hrd.out Hblk.out HB.out
        rw [← Hk.out.1, Hk.out.1, ← Hk.out.2, ← Hk.out.1] at h3
        obtain ⟨ad2, cp2, rfl, h3⟩ := h3
        have H3 := Lib.hid h3; clear h2 h3
        go_wp2
        go_ret2
        exact ⟨ad2, cp2, rfl, H3.out⟩

def L1Rel (l : List Rn) (k : Int) (w : World) (v iv : Value) (wr : World) : Prop :=
  ∃ i : Nat, i ≤ l.length ∧ iv = .int .i64 i ∧ RowRn wr w.heap.size v (laterW (l.take i) k) ∧ (i = 0 ∨ (validU l = true ∧ -10000 ≤ k ∧ k ≤ 10000)) ∧ Below w.heap.size w wr

theorem inB_no {x lo hi : Int} (h : ¬ (lo ≤ x ∧ x ≤ hi)) : inB x lo hi = false := Bool.eq_false_iff.2 (fun e => h ((inB_iff _ _ _).1 e))

theorem runs1_is (v : Value) (l : List Rn) (w : World) (hv : RnIn w v l) (hl : l.length ≤ 1048576) {x : Bool} (hz : validU l = x) :
    Calls Try.prog 16 #[v] w (Quiet (.bool x) w) := by
  have := runs1_any v l w hv hl; rwa [hz] at this

set_option maxRecDepth 100000 in
set_option maxHeartbeats 1600000 in
theorem later1_any (v : Value) (l : List Rn) (k : Int) (w : World) (hv : RnIn w v l) (hm : l.length ≤ 1048576) (wk : W64 k) :
    Calls Try.prog 43 #[v, .int .i64 k] w (RnOut (laterL l k) (laterOk l k) w) := by
  have Hv0 := Lib.hid hv
  obtain ⟨a, cap, rfl, hcap, ha⟩ := hv
  clear hcap
  have Ha := Lib.hid ha; clear ha
  obtain ⟨i0, hi0, hz0, hz1, hz2⟩ := info_parts infoRn
  have Hb0 := Lib.hid ((Below.refl w.heap.size w).alloc (Nat.le_refl _) (.cells #[] 48))
  have Hown0 := Lib.hid (RowRn.made w w.heap.size (Nat.le_refl _))
  go_enter Try.func43, Try.ntmps43
  go_wp2
  go_loopw [6, 7] (fun v iv wr => L1Rel l k w v iv wr) (fun _ i _ => l.length - (intOf i).toNat)
  case atStart => exact ⟨0, Nat.zero_le _, rfl, Hown0.out, .inl rfl, Hb0.out⟩
  case round =>
    obtain ⟨i, hi, rfl, hown, hval, hbel⟩ := hrel
    by_cases hgo : i < l.length ∧ validU l = true ∧ -10000 ≤ k ∧ k ≤ 10000
    · obtain ⟨hlt, hz, hk0, hk1⟩ := hgo
      have hlti : (i : Int) < (l.length : Int) := by omega
      have hin : inB k (-10000) 10000 = true := (inB_iff _ _ _).2 ⟨hk0, hk1⟩
      obtain ⟨b, o, rfl, hlt0, hrw⟩ := Ha.out (by rintro rfl; simp at hlt)
      obtain ⟨x0, x1, x2, _⟩ := validU_at hz hlt
      have h12 := (validU_iff.1 hz).1
      have htake := laterW_take l k hlt
      have hlat : latU k (l.getD i rn0) = ⟨(l.getD i rn0).a + k, (l.getD i rn0).b + k⟩ := by
        unfold latU
        rw [IntWalk.wrap64_in _ ⟨by omega, by omega⟩, IntWalk.wrap64_in _ ⟨by omega, by omega⟩]
      have Htake := Lib.hid htake; clear htake
      have Hlat := Lib.hid hlat; clear hlat
      have hxl : (laterW (l.take i) k).length = i := by rw [laterW_len]; simp; omega
      have Hxl := Lib.hid hxl; clear hxl
      have Hz := Lib.hid hz; clear hz
      have Hrw := Lib.hid hrw; clear hrw
      have Hlt := Lib.hid hlt; clear hlt
      have Hown := Lib.hid hown; clear hown
      clear hval
      have hi0' : (0 : Int) ≤ (i : Int) := Int.natCast_nonneg _
      go_wp2_with fail
      refine (runs1_is _ l _ (Hv0.out.below hbel) hm Hz.out).mono ?_; rintro e w1 ⟨rfl, hb1⟩
      have hb1' := Drewn.below hb1
      have hbel1 := hbel.trans (hb1'.mono hbel.size)
      have hown1 := Hown.out.below hb1'
      clear hb1' hb1
      go_wp2_with fail
      refine (l6In_any _ _ _ _).mono ?_; rintro e w' ⟨rfl, rfl⟩
      rw [hin]
      obtain ⟨c0, c1⟩ := (Hrw.out.below hbel1 hlt0) i Hlt.out
      generalize (l.getD i rn0).a = xa at *
      generalize (l.getD i rn0).b = xb at *
      have hwa : IntKind.i64.wrap (xa + k) = xa + k := IntWalk.i64_in _ (by omega)
      have hwb : IntKind.i64.wrap (xb + k) = xb + k := IntWalk.i64_in _ (by omega)
      unfold RowRn at hown1
      have hs1 := hbel1.size
      have hbw : b < w1.heap.size := Nat.lt_of_lt_of_le hlt0 hs1
      clear hbel
      go_wp2
      go_region_held3 (fun w' => w'.cell? ⟨b, o + i * 2, none⟩ = some (.int .i64 xa) ∧ w'.cell? ⟨b, o + i * 2 + 1, none⟩ = some (.int .i64 xb)) (first | (go_keep; done) | (go_split_ands; refine ⟨?_, ?_⟩ <;> (rw [hgrow.cell_far _ (by simp; omega) (by intro h; have := (hown1.lt _ (by simpa using h.symm)).1; omega)]; first | assumption | (go_simp; done))))
        ((refine step_append_lies _ (by rfl) _ _ _ (by rfl) w.heap.size 48 i0 _ 2 16 Try.underlying25 hi0 hz0 hz1 hz2 rfl (by omega) _ _ (encRn (laterW (l.take i) k)) (by rfl) ((hown1.drew).alloc _) ⟨w1.heap.size, 0, none⟩ 1 1 [.int .i64 (xa + k), .int .i64 (xb + k)] (by rfl) (by rfl) (World.news_of_block (cs := #[.int .i64 (xa + k), .int .i64 (xb + k)]) (t := 48) (fr := (0, 0)) (heap_alloc_new w1.drew _)) (by simp [Value.oneCell']) (by omega) (by rw [Hxl.out]; unfold maxLen; omega) (by rw [Hxl.out]; omega) (by simp; omega) (w1.heap.size + 1) (by simp) ?_; intro gg cap2 w2 hown2 hgrow hat hlt2))
      have hown7 : RowRn w2 w.heap.size (.slice (some ⟨gg, 0, none⟩) ((laterW (l.take i) k).length + 1) cap2) (laterW (l.take (i + 1)) k) := by
        rw [Htake.out, Hlat.out]
        exact RowRn.snoc hown2
      have B6 : Below w.heap.size w w2 := (((hbel1.drew).alloc hs1 _).grown hgrow (by simp; omega) (fun j hj => (hown1.lt j hj).1))
      have Hown7 := Lib.hid hown7
      have HB6 := Lib.hid B6
      clear hown7 B6 hown2 hgrow hown1 hbel1 hat
      go_wp2
      exact ⟨⟨i + 1, Hlt.out, by go_num, Hown7.out, .inr ⟨Hz.out, hk0, hk1⟩, HB6.out⟩, by simp [intOf]; have := Hlt.out; omega⟩
    · have hF : (i = l.length ∨ (i = 0 ∧ i < l.length ∧ laterOk l k = false)) ∧ (i = l.length → laterOk l k = validU (laterW l k)) := by
        by_cases hil : i = l.length
        · refine ⟨.inl hil, fun _ => ?_⟩
          rcases hval with h0 | ⟨h1, _, _⟩
          · have : l = [] := List.eq_nil_of_length_eq_zero (by omega)
            subst this; rfl
          · unfold laterOk; rw [h1]; rfl
        · refine ⟨.inr ?_, fun h => absurd h hil⟩
          have hlt : i < l.length := by omega
          rcases hval with h0 | ⟨h1, h2, h3⟩
          · refine ⟨h0, hlt, ?_⟩
            cases hz : validU l with
            | false => unfold laterOk; rw [hz]; rfl
            | true => unfold laterOk; rw [later_far hz (by omega) wk (fun h => hgo ⟨hlt, hz, h.1, h.2⟩)]; simp
          · exact absurd ⟨hlt, h1, h2, h3⟩ hgo
      obtain ⟨hF, hG⟩ := hF
      clear hval
      rcases hF with hil | ⟨h0, hlt, hno⟩
      · have hok := hG hil
        subst hil
        clear hG hgo
        rw [List.take_length] at hown
        obtain ⟨ad, cp, rfl, hcp, hrd, hblk⟩ := hown.row
        have hlw : (laterW l k).length = l.length := laterW_len l k
        have HB := Lib.hid hbel
        have Hrd := Lib.hid hrd
        have Hblk := Lib.hid hblk
        have Hcp := Lib.hid hcp
        have Hlw := Lib.hid hlw
        clear hown hbel hrd hblk hcp hlw
        have hne : (((laterW l k).length : Int) != (l.length : Int)) = false := by rw [Hlw.out]; simp
        have hne2 : ((laterW l k).length != l.length) = false := by rw [Hlw.out]; simp
        cases hx : validU (laterW l k) with
        | true =>
          have hok' : laterOk l k = true := hok.trans hx
          have hL : laterL l k = laterW l k := if_pos hok'
          have Hk := Lib.hid (And.intro hok' hL)
          have Hx := Lib.hid hx
          clear hok hok' hL hx
          go_wp2_with fail
          refine (runs1_is _ (laterW l k) _ (Hrd.out.ins Hcp.out) (by rw [Hlw.out]; exact hm) Hx.out).mono ?_; rintro e w9 ⟨rfl, hb9⟩
          have hb9' := Drewn.below hb9
          clear hb9
          go_wp2
          go_ret2
          rw [Hk.out.1, Hk.out.2]
          exact ⟨ad, cp, rfl, Hcp.out, Hrd.out.below hb9', fun j hj => ⟨(Hblk.out j hj).1, Nat.lt_of_lt_of_le (Hblk.out j hj).2 hb9'.size⟩, HB.out.trans (hb9'.mono HB.out.size)⟩
        | false =>
          have hok' : laterOk l k = false := hok.trans hx
          have hL : laterL l k = [] := if_neg (by rw [hok']; simp)
          have Hk := Lib.hid (And.intro hok' hL)
          have Hx := Lib.hid hx
          clear hok hok' hL hx
          go_wp2_with fail
          refine (runs1_is _ (laterW l k) _ (Hrd.out.ins Hcp.out) (by rw [Hlw.out]; exact hm) Hx.out).mono ?_; rintro e w9 ⟨rfl, hb9⟩
          have hb9' := Drewn.below hb9
          have HB9 := Lib.hid (HB.out.trans (hb9'.mono HB.out.size))
          clear hb9 hb9'
          go_wp2
          go_ret2
          rw [Hk.out.1, Hk.out.2]
          exact RnOut.no HB9.out.size (by simp) (HB9.out.alloc HB9.out.size _)
      · have hL : laterL l k = [] := if_neg (by rw [hno]; simp)
        have Hk := Lib.hid (And.intro hno hL)
        have hlti : (i : Int) < (l.length : Int) := by omega
        have hi0' : (0 : Int) ≤ (i : Int) := Int.natCast_nonneg _
        have hxl : (laterW (l.take i) k).length = 0 := by rw [laterW_len, h0]; simp
        obtain ⟨ad, cp, rfl, hcp, hrd, hblk⟩ := hown.row
        rw [hxl]
        clear hown hrd hblk hcp hL hno hG hxl
        have hl1 : (1 : Int) ≤ (l.length : Int) := by omega
        have hne : (0 != (l.length : Int)) = true := by rw [bne_iff_ne]; omega
        have hne2 : ((0 : Int) == (l.length : Int)) = false := by rw [beq_eq_false_iff_ne]; omega
        have HB := Lib.hid hbel
        have Hgo := Lib.hid hgo
        have H0 := Lib.hid h0
        clear hgo h0
        cases hz : validU l with
        | false =>
          have Hz := Lib.hid hz; clear hz
          go_wp2_with fail
          refine (runs1_is _ l _ (Hv0.out.below hbel) hm Hz.out).mono ?_; rintro e w1 ⟨rfl, hb1⟩
          have hb1' := Drewn.below hb1
          have HB1 := Lib.hid (HB.out.trans (hb1'.mono HB.out.size))
          clear hb1 hb1' hbel
          go_wp2
          go_ret2
          rw [Hk.out.1, Hk.out.2]
          exact RnOut.no HB1.out.size (by simp) (HB1.out.alloc HB1.out.size _)
        | true =>
          have hin : inB k (-10000) 10000 = false := inB_no (fun h => Hgo.out ⟨by omega, hz, h.1, h.2⟩)
          have Hz := Lib.hid hz; clear hz
          go_wp2_with fail
          refine (runs1_is _ l _ (Hv0.out.below hbel) hm Hz.out).mono ?_; rintro e w1 ⟨rfl, hb1⟩
          have hb1' := Drewn.below hb1
          have HB1 := Lib.hid (HB.out.trans (hb1'.mono HB.out.size))
          clear hb1 hb1' hbel
          go_wp2_with fail
          refine (l6In_any _ _ _ _).mono ?_; rintro e w' ⟨rfl, rfl⟩
          rw [hin]
          go_wp2
          go_ret2
          rw [Hk.out.1, Hk.out.2]
          exact RnOut.no HB1.out.size (by simp) (HB1.out.alloc HB1.out.size _)

end Go.Proofs.Ytmcapcclnkicbaa
