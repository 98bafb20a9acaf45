/- StopsLater: plainly; the program's. -/
import Derived.Test.YtfdaaeapfeajjaaSC
import Derived.Test.YtfdaaeapfeajjaaSD
import Derived.Test.YtfdaaeapfeajjaaBZ
import Derived.Deep.RegionLaw
import Derived.Deep.AppendLies
namespace Go.Proofs.Ytfdaaeapfeajjaa
open Go.RowKit

def latR (k : Int) (r : Rd) : Rd := ⟨r.a, IntKind.i64.wrap (r.b + k), IntKind.i64.wrap (r.m + k)⟩
def laterW (l : List Rd) (k : Int) : List Rd := l.map (latR k)
def laterOk (n : Int) (l : List Rd) (k : Int) : Bool := validS n l && validS n (laterW l k)
def laterL (n : Int) (l : List Rd) (k : Int) : List Rd := if laterOk n l k = true then laterW l k else []

theorem laterW_len (l : List Rd) (k : Int) : (laterW l k).length = l.length := by simp [laterW]

theorem laterW_take (l : List Rd) (k : Int) {i : Nat} (h : i < l.length) : laterW (l.take (i + 1)) k = laterW (l.take i) k ++ [latR k (l.getD i rd0)] := by
  rw [take_snocD l i h]; simp [laterW]

/-- Beyond a day's times nothing is one. -/
theorem later_far {n : Int} {l : List Rd} {k : Int} (hz : validS n l = true) (hw : W64 k) (hk : ¬ (-10000 ≤ k ∧ k ≤ 10000)) : validS n (laterW l k) = false := by
  have h2 := (validS_iff.1 hz).1.2.2.1
  have h0 := validS_at hz (show 0 < l.length by omega)
  refine validS_no (i := 0) (by rw [laterW_len]; omega) ?_
  rw [Bool.eq_false_iff]
  intro h
  have h3 := (fitsS_iff _ _).1 ((okS_iff _ _ _).1 h).1
  have e : (laterW l k).getD 0 rd0 = latR k (l.getD 0 rd0) := by
    unfold laterW
    rw [getD_eq _ (by simp; omega), getD_eq l (by omega)]
    simp
  rw [e] at h3
  unfold W64 at hw
  unfold latR at h3
  simp only [IntKind.wrap_i64] at h3
  omega

/-- What ifTimetable gives. -/
def IfOut (n : Int) (ad : Option Addr) (cap : Nat) (xs : List Rd) (w : World) (e : Ending) (w' : World) : Prop :=
  Below w.heap.size w w' ∧ ((validS n xs = true ∧ e = .returned (.tuple #[.slice ad xs.length cap, .bool true])) ∨
    (validS n xs = false ∧ ∃ g, w.heap.size ≤ g ∧ g < w'.heap.size ∧ e = .returned (.tuple #[.slice (some ⟨g, 0, none⟩) 0 0, .bool false])))

set_option maxHeartbeats 400000 in
theorem ifT_any (n : Int) (ad : Option Addr) (cap : Nat) (xs : List Rd) (w : World) (hv : RoadsIn w (.slice ad xs.length cap) xs) (hm : xs.length ≤ 1048576) :
    Calls Try.prog 43 #[.int .i64 n, .slice ad xs.length cap] w (IfOut n ad cap xs w) := by
  have Hc := Lib.hid (valid2_any n _ xs w hv hm)
  clear hv
  cases hz : validS n xs with
  | true =>
    have Hz := Lib.hid hz; clear hz
    go_enter Try.func43, Try.ntmps43
    go_wp2_with fail
    refine (Hc.out).mono ?_; rintro e w1 ⟨rfl, hb⟩
    rw [Hz.out]
    go_wp2
    go_ret2
    exact ⟨hb, .inl ⟨Hz.out, rfl⟩⟩
  | false =>
    have Hz := Lib.hid hz; clear hz
    go_enter Try.func43, Try.ntmps43
    go_wp2_with fail
    refine (Hc.out).mono ?_; rintro e w1 ⟨rfl, hb⟩
    rw [Hz.out]
    go_wp2
    go_ret2
    exact ⟨hb.alloc hb.size _, .inr ⟨Hz.out, _, hb.size, by simp, rfl⟩⟩

def L2Rel (l : List Rd) (k : Int) (hs : List Nat) (w : World) (gk : Nat) (v hv : Value) (wr : World) : Prop :=
  ∃ i : Nat, i + gk = l.length ∧ hv = ptB hs[i]? ∧ OwnS wr w.heap.size v (laterW (l.take i) k) ∧ Below w.heap.size w wr

set_option maxRecDepth 100000 in
set_option maxHeartbeats 1000000 in
theorem later2_any (n : Int) (v : Value) (l : List Rd) (k : Int) (w : World) (hv : RoadsIn w v l) (hm : l.length ≤ 1048576) (wk : W64 k) :
    Calls Try.prog 10 #[.int .i64 n, v, .int .i64 k] w (StopsOut (laterL n l k) (laterOk n l k) w) := by
  have Hc := Lib.hid (ttOf_any n v l w hv hm)
  clear hv
  obtain ⟨i0, hi0, hz0, hz1, hz2⟩ := info_parts stopInfo
  cases hz : validS n l with
  | false =>
    have hok : laterOk n l k = false := by unfold laterOk; rw [hz]; rfl
    have hl : laterL n l k = [] := by unfold laterL; rw [hok]; rfl
    rw [hok, hl]
    have Hz := Lib.hid hz; clear hz hok hl
    go_enter Try.func10, Try.ntmps10
    go_wp2_with fail
    refine (Hc.out).mono ?_; rintro e w1 ⟨_, h1⟩
    obtain ⟨rfl, hb⟩ := h1 Hz.out
    clear h1
    go_wp2
    go_ret2
    exact ⟨_, _, rfl, fun h => absurd rfl h, fun j hj => by obtain ⟨o, ho⟩ := hj; cases ho; exact ⟨hb.size, by simp⟩, hb.alloc hb.size _⟩
  | true =>
    have h8 := (validS_iff.1 hz).1.2.2.2
    have Hz := Lib.hid hz; clear hz
    go_enter Try.func10, Try.ntmps10
    go_wp2_with fail
    refine (Hc.out).mono ?_; rintro e w1 ⟨h1, _⟩
    obtain ⟨tb, hs, rfl, htt, _, hb⟩ := h1 Hz.out
    clear h1
    have c0' : w1.cell? ⟨tb, 0, none⟩ = some (ptB hs[0]?) := htt.top.cell rfl
    have hb0 : Below w1.heap.size w1 (w1.alloc (.cells #[] 35)) := (Below.refl _ _).alloc (Nat.le_refl _) _
    have c0 : (w1.alloc (.cells #[] 35)).cell? ⟨tb, 0, none⟩ = some (ptB hs[0]?) := (htt.below hb0).top.cell rfl
    have Hown0 := Lib.hid (OwnS.made w1 w1.heap.size (Nat.le_refl _))
    have Htt := Lib.hid htt; clear htt
    go_wp2
    clear c0 c0'
    go_loopg [10, 11] l.length (fun gk v hv wr => L2Rel l k hs w1 gk v hv wr)
    case atStart => exact ⟨0, by omega, rfl, Hown0.out, hb0⟩
    case round =>
      obtain ⟨i, hi, rfl, hown, hbel⟩ := hrel
      have Htr := Lib.hid (Htt.out.below hbel)
      by_cases hlt : i < l.length
      · have e1 : ptB hs[i]? = .pointer (some ⟨hs.getD i 0, 0, none⟩) := ptB_some (by rw [Htt.out.len]; exact hlt)
        rw [e1]
        have d0 := Htr.out.town hlt
        have d1 := Htr.out.arrive hlt
        have d2 := Htr.out.leave hlt
        have hgl := (Htr.out.halts i hlt).lt
        have htake := laterW_take l k hlt
        have Htake := Lib.hid htake; clear htake
        have hxl : (laterW (l.take i) k).length = i := by rw [laterW_len]; simp; omega
        have Hnext := Lib.hid (fun (w' : World) (h : TT w' tb hs l) => show w'.cell? ⟨hs.getD i 0, 5, none⟩ = some (ptB hs[i + 1]?) from (h.halts i hlt).cell rfl)
        obtain ⟨gk', rfl⟩ : ∃ g, gk = g + 1 := ⟨gk - 1, by omega⟩
        have hi8 : i ≤ 8 := by omega
        have Hi := Lib.hid hi
        clear e1 hi hlt
        have hlat : latR k (l.getD i rd0) = ⟨(l.getD i rd0).a, IntKind.i64.wrap ((l.getD i rd0).b + k), IntKind.i64.wrap ((l.getD i rd0).m + k)⟩ := rfl
        have Hlat := Lib.hid hlat; clear hlat
        generalize (l.getD i rd0).a = xa at *
        generalize (l.getD i rd0).b = xb at *
        generalize (l.getD i rd0).m = xm at *
        generalize hs.getD i 0 = gi at *
        unfold OwnS at hown
        go_wp2_with fail
        go_region_law (first | (refine step_append_lies _ (by rfl) _ _ _ (by rfl) w1.heap.size 35 i0 _ 3 24 Try.underlying23 hi0 hz0 hz1 hz2 rfl (by omega) _ _ (encR (laterW (l.take i) k)) (by rfl) ((hown.alloc _).drew) ⟨wr.heap.size, 0, none⟩ 1 1 [.int .i64 xa, .int .i64 (IntKind.i64.wrap (xb + k)), .int .i64 (IntKind.i64.wrap (xm + k))] (by rfl) (by rfl) (World.news_of_block (cs := #[.int .i64 xa, .int .i64 (IntKind.i64.wrap (xb + k)), .int .i64 (IntKind.i64.wrap (xm + k))]) (t := 35) (fr := (0, 0)) (heap_alloc_new wr _)) (by simp [Value.oneCell']) (by omega) (by unfold maxLen; omega) (by omega) (by have := hbel.size; simp; omega) (wr.heap.size + 1) (by simp) ?_; intro gg cap2 w2 hown1 hgrow hat hlt2))
        all_goals
          have hsz := hbel.size
          have B6 : Below w1.heap.size w1 w2 := by
            refine Below.trans ?_ (Below.refl w1.heap.size w2)
            first
              | exact (((hbel.alloc hsz _).drew).grown hgrow (by simp; omega) (fun j hj => (hown.lt j hj).1))
              | exact (((hbel.drew).alloc hsz _).grown hgrow (by simp; omega) (fun j hj => (hown.lt j hj).1))
          have hown7 : OwnS w2 w1.heap.size (.slice (some ⟨gg, 0, none⟩) ((laterW (l.take i) k).length + 1) cap2) (laterW (l.take (i + 1)) k) := by
            rw [Htake.out, Hlat.out]
            exact OwnS.snoc hown1
          have d5 := Hnext.out w2 (Htt.out.below B6)
          rw [hxl] at hown7
          have Hown7 := Lib.hid hown7
          have HB6 := Lib.hid B6
          clear hown7 B6 hown1 hgrow hat hown hbel d0 d1 d2
          go_wp2
          go_roundg gk'
          case measure => omega
          case rel => exact ⟨i + 1, by have := Hi.out; omega, rfl, Hown7.out, HB6.out⟩
      · obtain rfl : i = l.length := by omega
        have e1 : ptB hs[l.length]? = .pointer none := ptB_none (by rw [Htt.out.len]; exact Nat.le_refl _)
        rw [e1]
        rw [List.take_length] at hown
        obtain ⟨ad, cap, rfl, hrd, hblk⟩ := hown.row
        have hlen : (laterW l k).length ≤ 1048576 := by rw [laterW_len]; exact hm
        have HB := Lib.hid hbel
        have Hrd := Lib.hid hrd
        have Hblk := Lib.hid hblk
        clear e1 hown hbel hrd hblk
        go_wp2_with fail
        refine (ifT_any n ad cap (laterW l k) _ Hrd.out.ins hlen).mono ?_
        rintro e w2 ⟨hb2, ⟨hv, rfl⟩ | ⟨hv, g, hg1, hg2, rfl⟩⟩
        · have hok : laterOk n l k = true := by unfold laterOk; rw [Hz.out, hv]; rfl
          have hL : laterL n l k = laterW l k := if_pos hok
          have Hk := Lib.hid (And.intro hok hL)
          clear hok hL hv
          go_wp2
          go_ret2
          rw [Hk.out.1, Hk.out.2]
          exact ⟨ad, cap, rfl, Hrd.out.below hb2, fun j hj => ⟨Nat.le_trans hb.size (Hblk.out j hj).1, Nat.lt_of_lt_of_le (Hblk.out j hj).2 hb2.size⟩, (hb.trans (HB.out.mono hb.size)).trans (hb2.mono (Nat.le_trans hb.size HB.out.size))⟩
        · have hok : laterOk n l k = false := by unfold laterOk; rw [Hz.out, hv]; rfl
          have hL : laterL n l k = [] := by unfold laterL; rw [hok]; rfl
          have Hk := Lib.hid (And.intro hok hL)
          clear hok hL hv
          go_wp2
          go_ret2
          rw [Hk.out.1, Hk.out.2]
          exact ⟨some ⟨g, 0, none⟩, 0, rfl, fun h => absurd rfl h, fun j hj => by obtain ⟨o, ho⟩ := hj; cases ho; exact ⟨Nat.le_trans (Nat.le_trans hb.size HB.out.size) hg1, hg2⟩, (hb.trans (HB.out.mono hb.size)).trans (hb2.mono (Nat.le_trans hb.size HB.out.size))⟩

end Go.Proofs.Ytfdaaeapfeajjaa
