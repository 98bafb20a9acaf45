/- StopsText: stops as texts; one stop's text (program). -/
import Derived.Test.YtnlhnibhgpelfaaDoorFT
import Derived.Test.YtnlhnibhgpelfaaDoorSC
import Derived.Test.YtnlhnibhgpelfaaDoorSD
import Derived.Deep.RegionHeld3
import Derived.Lib.Join
namespace Go.Proofs.YtnlhnibhgpelfaaDoor
open Go.RowKit

/-- The text of a stop. -/
def stopT (r : Rd) : ByteArray := (((⟨#[dgB r.a.toNat]⟩ : ByteArray) ++ ⟨#[58]⟩) ++ clockT r.b) ++ ⟨#[45]⟩ ++ clockT r.m
def stopL (r : Rd) : List UInt8 := (stopT r).data.toList
def textL (l : List Rd) (k : Nat) : List UInt8 := [(32 : UInt8)].intercalate ((l.take k).map stopL)
def textB (l : List Rd) (k : Nat) : ByteArray := ⟨(textL l k).toArray⟩

theorem clockT_size (t : Int) : (clockT t).size ≤ 5 := by
  unfold clockT; split
  · exact Nat.le_of_eq (clockB_size _)
  · exact Nat.zero_le _
theorem stopL_len (r : Rd) : (stopL r).length ≤ 13 := by
  have h1 := clockT_size r.b
  have h2 := clockT_size r.m
  have e : (stopL r).length = (stopT r).size := by unfold stopL ByteArray.size; simp
  rw [e]
  unfold stopT
  simp only [ByteArray.size_append]
  show 1 + 1 + _ + 1 + _ ≤ 13
  omega

theorem inter_snoc (sep x : List UInt8) : ∀ ys : List (List UInt8), ys ≠ [] → sep.intercalate (ys ++ [x]) = sep.intercalate ys ++ sep ++ x
  | [], h => absurd rfl h
  | [y], _ => by simp [List.intercalate]
  | y :: z :: r, _ => by
    have ih := inter_snoc sep x (z :: r) (by simp)
    have e : ∀ (a b : List UInt8) (c : List (List UInt8)), sep.intercalate (a :: b :: c) = a ++ sep ++ sep.intercalate (b :: c) := fun a b c => by simp [List.intercalate, List.intersperse]
    rw [List.cons_append, List.cons_append, e, e]
    rw [List.cons_append] at ih
    rw [ih]
    simp [List.append_assoc]
theorem inter_one (sep x : List UInt8) : sep.intercalate [x] = x := by simp [List.intercalate]

theorem take_snoc (l : List Rd) {k : Nat} (hk : k < l.length) : (l.take (k + 1)).map stopL = (l.take k).map stopL ++ [stopL (l.getD k rd0)] := by
  rw [List.take_succ_eq_append_getElem hk, List.map_append, getD_eq l hk]; rfl

theorem textL_one (l : List Rd) (h : 0 < l.length) : textL l 1 = stopL (l.getD 0 rd0) := by
  unfold textL
  rw [take_snoc l h]
  simp only [List.take_zero, List.map_nil, List.nil_append]
  exact inter_one _ _
theorem textL_more (l : List Rd) {k : Nat} (hk : k + 1 < l.length) : textL l (k + 2) = textL l (k + 1) ++ [32] ++ stopL (l.getD (k + 1) rd0) := by
  unfold textL
  rw [take_snoc l hk]
  exact inter_snoc _ _ _ (by intro h; have := congrArg List.length h; simp only [List.length_map, List.length_take, List.length_nil] at this; omega)
theorem textL_len (l : List Rd) : ∀ k, k ≤ l.length → (textL l k).length ≤ 14 * k
  | 0, _ => by simp [textL, List.intercalate]
  | 1, h => by rw [textL_one l (by omega)]; have := stopL_len (l.getD 0 rd0); omega
  | k + 2, h => by
    have ih := textL_len l (k + 1) (by omega)
    have := stopL_len (l.getD (k + 1) rd0)
    rw [textL_more l (by omega)]
    simp only [List.length_append, List.length_cons, List.length_nil]; omega

/-- What the model adds for a stop. -/
theorem ba_toList (x y : ByteArray) : (x ++ y).data.toList = x.data.toList ++ y.data.toList := by simp [ByteArray.data_append]
def addT (s : ByteArray) (r : Rd) : ByteArray := s ++ ⟨#[dgB r.a.toNat]⟩ ++ ⟨#[58]⟩ ++ clockT r.b ++ ⟨#[45]⟩ ++ clockT r.m
theorem addT_list (s : ByteArray) (r : Rd) : (addT s r).data.toList = s.data.toList ++ stopL r := by
  unfold addT stopL stopT
  simp only [ba_toList, List.append_assoc]
theorem textB_one (l : List Rd) (h : 0 < l.length) : addT ⟨#[]⟩ (l.getD 0 rd0) = textB l 1 := by
  apply ba_ext
  rw [addT_list]
  show [] ++ _ = textL l 1
  rw [textL_one l h]; rfl
theorem textB_more (l : List Rd) {k : Nat} (hk : k + 1 < l.length) : addT (textB l (k + 1) ++ ⟨#[32]⟩) (l.getD (k + 1) rd0) = textB l (k + 2) := by
  apply ba_ext
  rw [addT_list, ba_toList]
  show textL l (k + 1) ++ [32] ++ _ = textL l (k + 2)
  rw [textL_more l hk]

set_option maxRecDepth 100000 in
set_option maxHeartbeats 1000000 in
theorem haltText_any (g : Nat) (a b m : Int) (w : World) (c0 : w.cell? ⟨g, 0, none⟩ = some (.int .i64 a)) (c1 : w.cell? ⟨g, 1, none⟩ = some (.int .i64 b)) (c2 : w.cell? ⟨g, 2, none⟩ = some (.int .i64 m))
    (ha : 0 ≤ a ∧ a < 10) (hb : 0 ≤ b ∧ b ≤ 10000) (hm : 0 ≤ m ∧ m ≤ 10000) :
    Calls Tryd.prog 21 #[.pointer (some ⟨g, 0, none⟩)] w fun e w' => e = .returned (.string (stopT ⟨a, b, m⟩)) ∧ Below w.heap.size w w' := by
  have HE := Lib.hid (show stopT ⟨a, b, m⟩ = (((⟨#[dgB a.toNat]⟩ : ByteArray) ++ ⟨#[58]⟩) ++ clockB (b % 1440).toNat) ++ ⟨#[45]⟩ ++ clockB (m % 1440).toNat from by
    unfold stopT; rw [clockT_yes hb.1 hb.2, clockT_yes hm.1 hm.2])
  have HI := Lib.hid (fun w' => itoa_one a w' ha.1 ha.2)
  have HB := Lib.hid (fun w' => clockOf_any b w' (by omega) (by omega))
  have HM := Lib.hid (fun w' => clockOf_any m w' (by omega) (by omega))
  have HTB := Lib.hid (fun w' => textOf_any (b % 1440) w' (by omega) (by omega))
  have HTM := Lib.hid (fun w' => textOf_any (m % 1440) w' (by omega) (by omega))
  generalize b % 1440 = cb at *
  generalize m % 1440 = cm at *
  have htb : (clockB cb.toNat).size = 5 := clockB_size _
  have htm : (clockB cm.toNat).size = 5 := clockB_size _
  generalize clockB cb.toNat = tb at *
  generalize clockB cm.toNat = tm at *
  go_enter Tryd.func21, Tryd.ntmps21
  go_wp2
  go_region_held3 (fun w' => w'.cell? ⟨g, 0, none⟩ = some (.int .i64 a) ∧ w'.cell? ⟨g, 1, none⟩ = some (.int .i64 b) ∧ w'.cell? ⟨g, 2, none⟩ = some (.int .i64 m)) (first | (go_keep; done) | (go_split_ands; refine ⟨?_, ?_, ?_⟩ <;> first | assumption | (go_simp; done)))
    (first | (go_at_call 28; refine (HI.out _).mono ?_; rintro e w5 ⟨rfl, rfl⟩) | (go_at_call 15; with_reducible refine (HB.out _).mono ?_; rintro e w6 ⟨rfl, rfl⟩) | (go_at_call 15; with_reducible refine (HM.out _).mono ?_; rintro e w7 ⟨rfl, rfl⟩) | (go_at_call 16; with_reducible refine (HTB.out _).mono ?_; rintro e w8 ⟨rfl, rfl⟩) | (go_at_call 16; with_reducible refine (HTM.out _).mono ?_; rintro e w9 ⟨rfl, rfl⟩))
  all_goals
    go_wp2
    go_ret
    exact ⟨ret_str HE.out.symm, (Below.refl _ _).drew⟩

end Go.Proofs.YtnlhnibhgpelfaaDoor
