/- ifBill and BillAdd of the program. -/
import Derived.Test.YtmdcpigobfhckaaFEB
import Derived.Test.YtmdcpigobfhckaaFKC
import Derived.Test.YtmdcpigobfhckaaFW
namespace Go.Proofs.Ytmdcpigobfhckaa
open Go.RowKit

/-- The row itself, or none. -/
def IfB (ok : Bool) (v v' : Value) (w w' : World) : Prop := (ok = true → v' = v) ∧ (ok = false → RowFr w' w.heap.size v' [])

set_option maxHeartbeats 400000 in
theorem ifB_any (n : Int) (v : Value) (xs : List Fr) (w : World) (hr : FrIn w v xs) (hl : xs.length ≤ 1048577) :
    Calls Try.prog 76 #[.int .i64 n, v] w fun e w' => ∃ v', e = .returned (.tuple #[v', .bool (validF n xs)]) ∧ IfB (validF n xs) v v' w w' ∧ Below w.heap.size w w' := by
  have HV := Lib.hid (bill2_any n v xs w hr hl)
  clear hr
  cases hz : validF n xs with
  | true =>
    rw [hz] at HV; clear hz
    go_enter Try.func76, Try.ntmps76
    go_wp2_with fail
    refine HV.out.mono ?_; rintro e w1 ⟨rfl, hb1⟩
    have HB := Lib.hid hb1; clear hb1
    go_wp2
    go_ret2
    exact ⟨_, rfl, ⟨fun _ => rfl, fun h => by cases h⟩, HB.out⟩
  | false =>
    rw [hz] at HV; clear hz
    go_enter Try.func76, Try.ntmps76
    go_wp2_with fail
    refine HV.out.mono ?_; rintro e w1 ⟨rfl, hb1⟩
    have HB := Lib.hid hb1; clear hb1
    go_wp2
    go_ret2
    exact ⟨_, rfl, ⟨fun h => (by cases h), fun _ => RowFr.made w1 _ HB.out.size⟩, HB.out.alloc HB.out.size _⟩

def paF (a0 a1 : Addr) : Nat → Addr | 0 => a0 | _ => a1
def pcF (a0 a1 : Nat) : Nat → Nat | 0 => a0 | _ => a1
def plF (a0 a1 : List Fr) : Nat → List Fr | 0 => a0 | _ => a1
theorem plF_cat (l r : List Fr) : catTo (plF l r) 2 = l ++ r := by simp [catTo, plF]

theorem parts_mk {w W : World} {ad : Addr} {cap : Nat} {l : List Fr} (r : Fr) (hv : FrIn w (.slice (some ad) l.length cap) l) (hb : Below w.heap.size w W) :
    Parts ((W.alloc (.cells #[.int .i64 r.a, .int .i64 r.b, .int .i64 r.m] 41)).alloc (.cells #[.slice (some ad) l.length cap, .slice (some ⟨W.heap.size, 0, none⟩) 1 1] 25)) (W.heap.size + 1)
      (paF ad ⟨W.heap.size, 0, none⟩) (pcF cap 1) (plF l [r]) := by
  have hb2 := (hb.alloc hb.size (.cells #[.int .i64 r.a, .int .i64 r.b, .int .i64 r.m] 41)).alloc (Nat.le_trans hb.size (by simp)) (.cells #[.slice (some ad) l.length cap, .slice (some ⟨W.heap.size, 0, none⟩) 1 1] 25)
  obtain ⟨hlt, hnw⟩ := (hv.below hb2).news rfl
  have hnew := heap_alloc_new (W.alloc (.cells #[.int .i64 r.a, .int .i64 r.b, .int .i64 r.m] 41)) (.cells #[.slice (some ad) l.length cap, .slice (some ⟨W.heap.size, 0, none⟩) 1 1] 25)
  have hsz : (W.alloc (.cells #[.int .i64 r.a, .int .i64 r.b, .int .i64 r.m] 41)).heap.size = W.heap.size + 1 := by simp
  rw [hsz] at hnew
  refine ⟨by simp, fun i hi => ?_, fun i hi hn => ?_, fun i hi => ?_⟩
  · rw [cell_of_row _ _ i _ _ _ hnew]
    rcases (by omega : i = 0 ∨ i = 1) with rfl | rfl
    · simp [paF, pcF, plF]
    · simp [paF, pcF, plF]
  · rcases (by omega : i = 0 ∨ i = 1) with rfl | rfl
    · exact hlt (fun e => hn (by rw [e]; rfl))
    · show W.heap.size < _; simp; omega
  · rcases (by omega : i = 0 ∨ i = 1) with rfl | rfl
    · exact hnw
    · intro j u hj
      have h1 := news1 W #[.int .i64 r.a, .int .i64 r.b, .int .i64 r.m] 41 j u hj
      exact (((Below.refl _ (W.alloc (.cells #[.int .i64 r.a, .int .i64 r.b, .int .i64 r.m] 41))).alloc (Nat.le_refl _) _).cell (by show (Addr.add ⟨W.heap.size, 0, none⟩ j).block < _; rw [add_block]; simp)).trans h1

set_option maxRecDepth 100000 in
set_option maxHeartbeats 1000000 in
theorem book2_any (n : Int) (ad : Addr) (cap : Nat) (l : List Fr) (r : Fr) (w : World) (hv : FrIn w (.slice (some ad) l.length cap) l) (hm : l.length ≤ 1048576) :
    Calls Try.prog 36 #[.int .i64 n, .slice (some ad) l.length cap, .agg #[.int .i64 r.a, .int .i64 r.b, .int .i64 r.m]] w (FrRow (bookL n l r) (validF n (l ++ [r])) w) := by
  have HB0 := Lib.hid (show Below w.heap.size w (w.alloc (.cells #[.int .i64 r.a, .int .i64 r.b, .int .i64 r.m] 41)) from (Below.refl _ _).alloc (Nat.le_refl _) _)
  have hpt := parts_mk r hv HB0.out
  rw [show (w.alloc (.cells #[.int .i64 r.a, .int .i64 r.b, .int .i64 r.m] 41)).heap.size = w.heap.size + 1 by simp] at hpt
  have Hpt := Lib.hid hpt; clear hpt
  clear hv
  have Hcat := Lib.hid (plF_cat l [r])
  have Hlen := Lib.hid (show (l ++ [r]).length = l.length + 1 by simp)
  obtain ⟨ra, rb, rm⟩ := r
  dsimp only at *
  go_enter Try.func36, Try.ntmps36
  go_wp2_with fail
  refine (concat_any _ _ _ _ _ Hpt.out (by rw [Hcat.out, Hlen.out]; omega)).mono ?_; rintro e w2 ⟨v, rfl, hrow, hb2⟩
  rw [Hcat.out] at hrow
  have HR := Lib.hid hrow
  have HB2 := Lib.hid (((HB0.out.alloc HB0.out.size _).alloc (by simp; omega) _).trans (hb2.mono (by simp; omega)))
  clear hrow hb2
  go_wp2_with fail
  refine (ifB_any n v _ _ HR.out.in_ (by rw [Hlen.out]; omega)).mono ?_; rintro e w3 ⟨v3, rfl, hrow3, hb3⟩
  have HR3 := Lib.hid hrow3
  have HB3 := Lib.hid (HB2.out.trans (hb3.mono HB2.out.size))
  have HRb := Lib.hid (HR.out.below hb3)
  have hsz := HB2.out.size
  clear hrow3 hb3
  go_wp2
  go_ret2
  refine ⟨_, rfl, ?_, HB3.out⟩
  have h3 := HR3.out
  cases hz : validF n (l ++ [⟨ra, rb, rm⟩]) with
  | true => rw [bookL_yes hz, h3.1 hz]; exact HRb.out.mono (by simp; omega)
  | false => rw [bookL_no hz]; exact (h3.2 hz).mono (by omega)

theorem book2_out (n : Int) (ad : Addr) (cap : Nat) (l : List Fr) (r : Fr) (w : World) (hv : FrIn w (.slice (some ad) l.length cap) l) (hm : l.length ≤ 1048576) :
    Calls Try.prog 36 #[.int .i64 n, .slice (some ad) l.length cap, .agg #[.int .i64 r.a, .int .i64 r.b, .int .i64 r.m]] w (FrOut (bookL n l r) (validF n (l ++ [r])) w) :=
  (book2_any n ad cap l r w hv hm).mono fun _ _ h => h.out

end Go.Proofs.Ytmdcpigobfhckaa
