/- StopsText: the program's. -/
import Derived.Test.YtnlhnibhgpelfaaDoorTX
import Derived.Test.YtnlhnibhgpelfaaDoorJN
import Derived.Laws.OwnMore
import Derived.Laws.AppendOwn
import Derived.OwnWalk
namespace Go.Proofs.YtnlhnibhgpelfaaDoor
open Go.RowKit

theorem strInfo : (Tryd.prog.info? 9).map (fun i => (i.zero, i.size, i.bytes)) = some (some (.string ⟨#[]⟩), 1, 16) := by kernel_rfl

/-- What StopsText gives. -/
def textsV (n : Int) (l : List Rd) : ByteArray := if validS n l = true then textB l l.length else ⟨#[]⟩

def wordsV (l : List Rd) (k : Nat) : List Value := (l.take k).map fun r => Value.string (stopT r)
theorem wordsV_len (l : List Rd) {k : Nat} (h : k ≤ l.length) : (wordsV l k).length = k := by simp [wordsV]; omega
theorem wordsV_succ (l : List Rd) {k : Nat} (h : k < l.length) : wordsV l (k + 1) = wordsV l k ++ [.string (stopT (l.getD k rd0))] := by
  unfold wordsV
  rw [List.take_succ_eq_append_getElem h, List.map_append, getD_eq l h]; rfl

def TxRel (l : List Rd) (hs : List Nat) (w : World) (gk : Nat) (v hv : Value) (wr : World) : Prop :=
  ∃ i : Nat, i + gk = l.length ∧ hv = ptB hs[i]? ∧ wr.ownsRow w.heap.size 9 1 v i (wordsV l i) ∧ Below w.heap.size w wr

theorem words_news (w : World) (s : ByteArray) : ∀ j u, ([Value.string s])[j]? = some u → (w.alloc (.cells #[.string s] 9)).cell? ((⟨w.heap.size, 0, none⟩ : Addr).add j) = some u := by
  intro j u hj
  match j, hj with
  | 0, hj => cases hj; simp [Addr.add]
  | j + 1, hj => simp at hj

theorem own_belowW {w w' : World} {B k e z : Nat} {v : Value} {xs : List Value} (h : w.ownsRow B e z v k xs) (hb : Below w.heap.size w w') : w'.ownsRow B e z v k xs := by
  obtain ⟨h1, h2⟩ := h
  refine ⟨h1, ?_⟩
  rcases h2 with h0 | ⟨g, cap, cur, rfl, hg, hh, r⟩
  · exact .inl h0
  · exact .inr ⟨g, cap, cur, rfl, hg, (hb.block g (Array.getElem?_eq_some_iff.1 hh).1).trans hh, r⟩

set_option maxRecDepth 100000 in
set_option maxHeartbeats 1000000 in
theorem texts2_any (n : Int) (v : Value) (l : List Rd) (w : World) (hv : RoadsIn w v l) (hm : l.length ≤ 1048576) :
    Calls Tryd.prog 10 #[.int .i64 n, v] w (Gives (.string (textsV n l)) w) := by
  obtain ⟨i0, hi0, hz0, hz1, hz2⟩ := info_parts strInfo
  have Hc := Lib.hid (ttOf_any n v l w hv hm)
  clear hv
  cases hz : validS n l with
  | false =>
    have hr : textsV n l = ⟨#[]⟩ := by unfold textsV; rw [hz]; rfl
    rw [hr]
    have Hz := Lib.hid hz; clear hz hr
    go_enter Tryd.func10, Tryd.ntmps10
    go_wp2_with fail
    refine (Hc.out).mono ?_; rintro e w1 ⟨_, h1⟩
    obtain ⟨rfl, hb⟩ := h1 Hz.out
    clear h1
    go_wp2
    go_ret
    exact ⟨rfl, hb⟩
  | true =>
    have hr : textsV n l = textB l l.length := by unfold textsV; rw [hz]; rfl
    rw [hr]
    obtain ⟨hn1, hn8, l2, l8⟩ := (validS_iff.1 hz).1
    have Hz := Lib.hid hz; clear hz hr
    go_enter Tryd.func10, Tryd.ntmps10
    go_wp2_with fail
    refine (Hc.out).mono ?_; rintro e w1 ⟨h1, _⟩
    obtain ⟨tb, hs, rfl, htt, _, hb⟩ := h1 Hz.out
    clear h1
    have hb0 : Below w1.heap.size w1 (w1.alloc (.cells #[] 9)) := (Below.refl _ _).alloc (Nat.le_refl _) _
    have c0 : (w1.alloc (.cells #[] 9)).cell? ⟨tb, 0, none⟩ = some (ptB hs[0]?) := (htt.below hb0).top.cell rfl
    have c0' : w1.cell? ⟨tb, 0, none⟩ = some (ptB hs[0]?) := htt.top.cell rfl
    have Hown0 := Lib.hid (show (w1.alloc (.cells #[] 9)).ownsRow w1.heap.size 9 1 (.slice (some ⟨w1.heap.size, 0, none⟩) 0 0) 0 [] from ⟨by simp, .inr ⟨w1.heap.size, 0, #[], rfl, Nat.le_refl _, heap_alloc_new w1 _, Nat.le_refl _, by unfold maxLen; omega, rfl, rfl⟩⟩)
    have HB0 := Lib.hid hb0; clear hb0
    have Hb := Lib.hid hb; clear hb
    have Htt := Lib.hid htt; clear htt
    go_wp2
    clear c0 c0'
    go_loopg [7, 8] l.length (fun gk v hv wr => TxRel l hs w1 gk v hv wr)
    case atStart => exact ⟨0, by omega, rfl, Hown0.out, HB0.out⟩
    case round =>
      obtain ⟨i, hi, rfl, hown, hbel⟩ := hrel
      have Htr := Lib.hid (Htt.out.below hbel)
      by_cases hlt : i < l.length
      · have e1 : ptB hs[i]? = .pointer (some ⟨hs.getD i 0, 0, none⟩) := ptB_some (by rw [Htt.out.len]; exact hlt)
        rw [e1]
        have d0 := Htr.out.town hlt
        have d1 := Htr.out.arrive hlt
        have d2 := Htr.out.leave hlt
        have Hnext := Lib.hid (fun (w' : World) (h : TT w' tb hs l) => show w'.cell? ⟨hs.getD i 0, 5, none⟩ = some (ptB hs[i + 1]?) from (h.halts i hlt).cell rfl)
        obtain ⟨va0, va1, va2, va3, va4, _⟩ := validS_at Hz.out hlt
        have hws := wordsV_succ l hlt
        have hwl := wordsV_len l (Nat.le_of_lt hlt)
        have hrr : l.getD i rd0 = ⟨(l.getD i rd0).a, (l.getD i rd0).b, (l.getD i rd0).m⟩ := rfl
        rw [hrr] at hws
        have Hws := Lib.hid hws
        clear hrr hws
        obtain ⟨gk', rfl⟩ : ∃ g, gk = g + 1 := ⟨gk - 1, by omega⟩
        have Hi := Lib.hid hi
        have hsz := hbel.size
        have hi8 : i ≤ 8 := by omega
        clear e1 hi hlt
        generalize (l.getD i rd0).a = xa at *
        generalize (l.getD i rd0).b = xb at *
        generalize (l.getD i rd0).m = xm at *
        generalize hs.getD i 0 = gi at *
        go_wp2_with fail
        refine (haltText_any gi xa xb xm _ d0 d1 d2 (by omega) (by omega) (by omega)).mono ?_; rintro e w5 ⟨rfl, hb5⟩
        generalize stopT ⟨xa, xb, xm⟩ = tx at *
        have hown5 := own_belowW hown hb5
        have hbel5 := hbel.trans (hb5.mono hsz)
        have hs5 := hbel5.size
        clear hown hbel d0 d1 d2 hb5
        go_wp2_with (at_builtin; refine wpList_append_own _ rfl _ _ 43 rfl w1.heap.size 9 i0 _ 1 16 Tryd.underlying43 hi0 hz0 hz1 hz2 rfl (by omega) _ _ (wordsV l i) rfl (hown5.alloc _) ⟨w5.heap.size, 0, none⟩ 1 1 [.string tx] rfl rfl (words_news w5 tx) (by simp [Value.oneCell']) (by unfold maxLen; omega) (by omega) (by simp; omega) ?_; intro v' w6 hown6 hgrow _; have hb6 := ((hbel5.alloc hs5 (.cells #[.string tx] 9)).grown hgrow (by simp; omega) (fun j hj => (hown5.lt j hj).1)); have d5 := Hnext.out w6 (Htt.out.below hb6))
        go_roundg gk'
        case measure => omega
        case rel => exact ⟨i + 1, by have := Hi.out; omega, rfl, by rw [Hws.out]; exact hown6, hb6⟩
      · obtain rfl : i = l.length := by omega
        have e1 : ptB hs[l.length]? = .pointer none := ptB_none (by rw [Htt.out.len]; exact Nat.le_refl _)
        rw [e1]
        have hj : ∃ g cap, u7 = .slice (some ⟨g, 0, none⟩) l.length cap ∧ l.length ≤ cap ∧ g < wr.heap.size := by
          obtain ⟨_, h2⟩ := hown
          rcases h2 with ⟨rfl, h0⟩ | ⟨g, cap, cur, rfl, hg, hh, hc, _⟩
          · omega
          · exact ⟨g, cap, rfl, hc, (Array.getElem?_eq_some_iff.1 hh).1⟩
        obtain ⟨g, cap, rfl, hcap, hgl⟩ := hj
        have HJ := Lib.hid (show Calls Tryd.prog 22 #[.slice (some ⟨g, 0, none⟩) l.length cap, .string ⟨#[32]⟩] wr (fun e w' => e = .returned (.string (textB l l.length)) ∧ Below wr.heap.size wr w') from by
          have hml : (l.map stopT).length = l.length := by simp
          have hmm : (l.map stopT).map (·.data.toList) = (l.take l.length).map stopL := by simp [stopL, Function.comp_def]
          have h := Tryd.strings_Join g 0 cap (l.map stopT) ⟨#[32]⟩ wr (fun j x hx => by
            have hjl : j < l.length := by have := (List.getElem?_eq_some_iff.1 hx).1; simpa using this
            rw [Nat.zero_add, hown.cellAt j (by omega)]
            unfold wordsV
            simp only [List.take_length, List.getElem?_map] at hx ⊢
            obtain ⟨r, hr, rfl⟩ := Option.map_eq_some_iff.1 hx
            rw [hr]; rfl) hgl (by omega) (by omega) (by
            rw [hmm]
            have := textL_len l l.length (Nat.le_refl _)
            show (textL l l.length).length ≤ _
            omega)
          rw [hml, hmm] at h
          exact h)
        have Hbel := Lib.hid hbel
        clear e1 hown hbel hgl
        go_wp2_with fail
        refine (HJ.out).mono ?_; rintro e w7 ⟨rfl, hb7⟩
        have HB7 := Lib.hid (Hb.out.trans ((Hbel.out.trans (hb7.mono Hbel.out.size)).mono Hb.out.size))
        clear hb7
        go_wp2
        go_ret
        exact ⟨rfl, HB7.out⟩

end Go.Proofs.YtnlhnibhgpelfaaDoor
