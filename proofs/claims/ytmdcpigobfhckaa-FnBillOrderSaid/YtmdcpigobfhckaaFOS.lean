/- Parcels are put in order by the library's insertion sort; BillOrder of the program. -/
import Derived.Test.YtmdcpigobfhckaaFOC
import Derived.Test.YtmdcpigobfhckaaSOG
import Derived.Test.YtmdcpigobfhckaaFTN
import Derived.Test.YtmdcpigobfhckaaFOM
namespace Go.Proofs
open Go.Shelf
def Try.insnF_ren : Go.Shelf.Ren := ⟨fun | 20 => 109 | n => n, fun | 22 => 25 | 24 => 41 | 3 => 3 | 0 => 0 | 4 => 4 | 25 => 98 | n => n, fun | n => n⟩
theorem Try.insnF : Go.Proofs.SlLaysF0.n20 Try.prog Try.insnF_ren := {
  mixed := by kernel_rfl
  f20 := ⟨ "slices.insertionSortCmpFunc[loop.example/mailcoaches/impl.Parcel]", by decide, Try.func109.trans (congrArg some (by kernel_rfl))⟩
  t0 := Try.underlying0
  a0 := Try.isAgg0
  z0 := Try.sizeOf0
  v0 := Try.zeroValue0
  t3 := Try.underlying3
  a3 := Try.isAgg3
  z3 := Try.sizeOf3
  v3 := Try.zeroValue3
  t4 := Try.underlying4
  a4 := Try.isAgg4
  z4 := Try.sizeOf4
  v4 := Try.zeroValue4
  t22 := Try.underlying25
  a22 := Try.isAgg25
  z22 := Try.sizeOf25
  v22 := Try.zeroValue25
  t25 := Try.underlying98
  a25 := Try.isAgg98
  z25 := Try.sizeOf98
  v25 := Try.zeroValue98 }
end Go.Proofs
namespace Go.Proofs.Ytmdcpigobfhckaa
open Go.RowKit Go.Sort

set_option maxRecDepth 100000 in
set_option maxHeartbeats 600000 in
/-- The stable sort of at most twenty is the insertion sort. -/
theorem stableP_any (sl fv : Value) (ad : Option Addr) (n cap : Nat) (w : World) (R : World → Prop) (hsl : sl = .slice ad n cap) (hn : n < 20)
    (hI : Calls Try.prog 109 #[sl, .int .i64 0, .int .i64 n, fv] w fun e w' => e = .returned (.tuple #[]) ∧ R w') :
    Calls Try.prog 102 #[sl, .int .i64 n, fv] w fun e w' => e = .returned (.tuple #[]) ∧ R w' := by
  have HI := Lib.hid hI; clear hI
  have h20 : ¬ ((20 : Int) ≤ (n : Int)) := by omega
  have h21 : ¬ ((20 : Int) < (n : Int)) := by omega
  subst hsl
  go_enter Try.func102, Try.ntmps102
  go_wp2
  refine wp_loop_rounds 1 ?_
  rw [rounds_succ]
  go_wp2_with fail
  refine HI.out.mono ?_
  rintro e w' ⟨rfl, hR⟩
  have HR := Lib.hid hR; clear hR
  go_wp2
  refine wp_loop_rounds 1 ?_
  rw [rounds_succ]
  go_wp2
  go_end0
  exact ⟨rfl, HR.out⟩

set_option maxHeartbeats 400000 in
theorem sortStableP_any (fv : Value) (ad : Option Addr) (n cap : Nat) (w : World) (R : World → Prop) (hn : n < 20)
    (hI : Calls Try.prog 109 #[.slice ad n cap, .int .i64 0, .int .i64 n, fv] w fun e w' => e = .returned (.tuple #[]) ∧ R w') :
    Calls Try.prog 81 #[.slice ad n cap, fv] w fun e w' => e = .returned (.tuple #[]) ∧ R w' := by
  have HI := Lib.hid (stableP_any _ fv ad n cap w R rfl hn hI); clear hI
  go_enter Try.func81, Try.ntmps81
  go_wp2_with fail
  refine HI.out.mono ?_
  rintro e w' ⟨rfl, hR⟩
  have HR := Lib.hid hR; clear hR
  go_wp2
  go_end0
  exact ⟨rfl, HR.out⟩

set_option maxHeartbeats 400000 in
theorem insertP_none (sl fv : Value) (ad : Option Addr) (cap : Nat) (w : World) (hsl : sl = .slice ad 0 cap) :
    Calls Try.prog 109 #[sl, .int .i64 0, .int .i64 (0 : Nat), fv] w fun e w' => e = .returned (.tuple #[]) ∧ w' = w := by
  subst hsl
  go_enter Try.func109, Try.ntmps109
  go_wp2
  refine wp_loop_rounds 1 ?_
  rw [rounds_succ]
  go_wp2
  go_end0
  exact ⟨rfl, rfl⟩

def encP (l : List Fr) (m : Nat) (x : Fin (m + 1)) : List Value := [.int .i64 (l.getD x.val fr0).a, .int .i64 (l.getD x.val fr0).b, .int .i64 (l.getD x.val fr0).m]
def cfP (l : List Fr) (m : Nat) (x y : Fin (m + 1)) : Int := cmpP (l.getD x.val fr0) (l.getD y.val fr0)
theorem cmpP_lt {r s : Fr} : cmpP r s < 0 ↔ r.a < s.a ∨ (r.a = s.a ∧ s.b < r.b) := by
  unfold cmpP orI cmpI
  split <;> split at * <;> (try split at *) <;> (try split) <;> omega
theorem ltP_iff {l : List Fr} {m : Nat} {x y : Fin (m + 1)} : ltOf (cfP l m) x y = true ↔ (l.getD x.val fr0).a < (l.getD y.val fr0).a ∨ ((l.getD x.val fr0).a = (l.getD y.val fr0).a ∧ (l.getD y.val fr0).b < (l.getD x.val fr0).b) := by
  unfold ltOf cfP; rw [decide_eq_true_eq]; exact cmpP_lt
theorem ltP_swo (l : List Fr) (m : Nat) : SWO (ltOf (cfP l m)) where
  irrefl x := by rw [Bool.eq_false_iff]; intro h; have := ltP_iff.1 h; omega
  trans x y z h1 h2 := by rw [ltP_iff] at *; omega
  ntrans x y z h1 h2 := by
    rw [Bool.eq_false_iff] at *
    intro h
    have h3 : ¬ _ := fun q => h1 (ltP_iff.2 q)
    have h4 : ¬ _ := fun q => h2 (ltP_iff.2 q)
    have := ltP_iff.1 h
    omega

theorem sortP_order {l : List Fr} {m N : Nat} (hm : l.length = m + 1) (ho : okFs N l l.length = true) (d : Array (Fin (m + 1))) (hd : d = insertionSort (ltOf (cfP l m)) (Array.ofFn (n := m + 1) id) 0 (m + 1)) :
    d.toList.map (fun x => x.val) = ordF l N := by
  obtain ⟨_, h2, h3⟩ := sort_list (ltP_swo l m) d hd
  refine order_one (r := ltP l) (fun _ _ h k => ltP_asymm h k) ?_ ordF_sorted (fun i => ?_)
  · have hnd : (d.toList.map fun x => x.val).Nodup := h2.nodup_iff.2 List.nodup_range
    unfold List.Nodup at hnd
    rw [List.pairwise_map] at hnd ⊢
    refine (h3.and hnd).imp fun {x y} h => ?_
    obtain ⟨h1, hne⟩ := h
    have q1 : ¬ ltOf (cfP l m) y x = true := fun q => by simp [lexF, q] at h1
    have q2 : ¬ (ltOf (cfP l m) x y = false ∧ y.val < x.val) := fun q => by
      have q1' : ltOf (cfP l m) y x = false := by simpa using q1
      simp [lexF, q1', q.1, q.2] at h1
    rw [ltP_iff] at q1
    have q3 : ltOf (cfP l m) x y = true ∨ ltOf (cfP l m) x y = false := by cases ltOf (cfP l m) x y <;> simp
    unfold ltP
    rcases q3 with q3 | q3
    · have := ltP_iff.1 q3; omega
    · have q4 : ¬ y.val < x.val := fun h => q2 ⟨q3, h⟩
      have q5 : ¬ (ltOf (cfP l m) x y = true) := fun q => by rw [q3] at q; cases q
      rw [ltP_iff] at q5
      omega
  · rw [h2.mem_iff, List.mem_range, ordF_mem ho, hm]

theorem encP_get (l : List Fr) (m : Nat) (x : Fin (m + 1)) {c : Nat} (hc : c < 3) : (encP l m x)[c]! = if c = 0 then .int .i64 (l.getD x.val fr0).a else if c = 1 then .int .i64 (l.getD x.val fr0).b else .int .i64 (l.getD x.val fr0).m := by
  rcases (by omega : c = 0 ∨ c = 1 ∨ c = 2) with rfl | rfl | rfl <;> rfl
theorem sortWorldK_block {α : Type} [Inhabited α] (enc : α → List Value) (k : Nat) (w : World) {b m j : Nat} {d : Array α} {os : Array Obj} (h : j ≠ b) (hj : j < w.heap.size) : (sortWorldK enc k w b 0 m d os).heap[j]? = w.heap[j]? := by
  unfold sortWorldK
  rw [Go.Sort.heap_grow_old _ _ (by rw [size_putRowK]; exact hj)]
  simp [putRowK, putRow, mapBlock, Array.getElem?_modify, Ne.symm h, Sort.ahead]
theorem sortWorldK_frozen {α : Type} [Inhabited α] (enc : α → List Value) (k : Nat) (w : World) {b m : Nat} {d : Array α} {os : Array Obj} (hb : b < w.heap.size) (o : Nat) : (sortWorldK enc k w b 0 m d os).frozen? ⟨b, o, none⟩ = w.frozen? ⟨b, o, none⟩ := by
  unfold sortWorldK
  rw [Go.Sort.frozen?_grow _ _ _ (by rw [size_putRowK]; exact hb)]
  simp only [putRowK, frozen?_putRow]
  rfl

/-- The parcels, put in order. -/
theorem insertP_any (b cap m N : Nat) (l : List Fr) (w : World) (hm : l.length = m + 1) (hl : l.length ≤ 12) (ho : okFs N l l.length = true) (hbl : b < w.heap.size) (hat : FrAt w b 0 l) (hfz : ∀ o, w.frozen? ⟨b, o, none⟩ = false) :
    Calls Try.prog 109 #[.slice (some ⟨b, 0, none⟩) l.length cap, .int .i64 0, .int .i64 l.length, .func (.func 82) #[] #[]] w fun e w' =>
      e = .returned (.tuple #[]) ∧ (FrAt w' b 0 (rowsF l (ordF l N)) ∧ (∀ o, w'.frozen? ⟨b, o, none⟩ = false) ∧ Touch (fun j => j = b) w w') := by
  have hsize : (Array.ofFn (n := m + 1) id).size = m + 1 := by simp
  have hcmp : CmpLays Try.prog 82 #[] (encP l m) 3 (cfP l m) b 0 (Array.ofFn (n := m + 1) id).size w := by
    intro n os dk _ x y
    exact cmpP_any _ _ _ _ _ _ _
  have hH : HoldsK (encP l m) 3 w b 0 (Array.ofFn (n := m + 1) id) := fun t ht => by
    rw [size_flatK, hsize] at ht
    refine ⟨?_, hfz _⟩
    have e : (Array.ofFn (n := m + 1) id)[t / 3]! = ⟨t / 3, by omega⟩ := by rw [getElem!_pos _ _ (by rw [hsize]; omega)]; simp
    rw [get_flatK _ _ _ _ (by rw [hsize]; exact ht), e, encP_get l m _ (Nat.mod_lt _ (by omega))]
    obtain ⟨h0, h1, h2⟩ := hat (t / 3) (by omega)
    rcases (by omega : t % 3 = 0 ∨ t % 3 = 1 ∨ t % 3 = 2) with q | q | q
    · rw [if_pos q, show 0 + t = 0 + t / 3 * 3 by omega]; exact h0
    · rw [if_neg (by omega), if_pos q, show 0 + t = 0 + t / 3 * 3 + 1 by omega]; exact h1
    · rw [if_neg (by omega), if_neg (by omega), show 0 + t = 0 + t / 3 * 3 + 2 by omega]; exact h2
  have hc := AnyQ.insertionSortCmpFunc Try.insnF 3 Try.isAgg41 Try.sizeOf41 (encP l m) (fun _ => rfl) (fun x v hv => by
      simp only [encP, List.mem_cons, List.not_mem_nil, or_false] at hv
      rcases hv with rfl | rfl | rfl <;> rfl) (cfP l m) 82 #[] b 0 cap 0 (m + 1) (Array.ofFn (n := m + 1) id) w
    (enters_of Try.func82 (by kernel_rfl) rfl) hcmp hH hbl (Nat.zero_le _) (by simp) (by simp; omega)
  rw [hm]
  rw [hsize] at hc
  refine Calls.mono hc fun e w' h => ?_
  obtain ⟨he, n, os, rfl⟩ := h
  have hord := sortP_order hm ho (insertionSort (ltOf (cfP l m)) (Array.ofFn (n := m + 1) id) 0 (m + 1)) rfl
  have hds : (insertionSort (ltOf (cfP l m)) (Array.ofFn (n := m + 1) id) 0 (m + 1)).size = m + 1 := (sort_list (ltP_swo l m) _ rfl).1
  have hP := holdsK_sortWorldK_c (encP l m) 3 w b 0 (Array.ofFn (n := m + 1) id) (insertionSort (ltOf (cfP l m)) (Array.ofFn (n := m + 1) id) 0 (m + 1)) n os hH hbl (by rw [hds, hsize])
  refine ⟨he, fun i hi => ?_, fun o => by rw [sortWorldK_frozen _ _ _ hbl]; exact hfz o, ⟨rfl, rfl, rfl, size_sortWorldK_c _ _ _ _ _ _ _ _, fun j hj hne => sortWorldK_block _ _ _ hne hj⟩⟩
  rw [rowsF_len, ← hord] at hi
  simp only [List.length_map, Array.length_toList, hds] at hi
  have ei : (rowsF l (ordF l N)).getD i fr0 = l.getD ((insertionSort (ltOf (cfP l m)) (Array.ofFn (n := m + 1) id) 0 (m + 1))[i]!).val fr0 := by
    rw [← hord, getElem!_pos _ i (by rw [hds]; exact hi)]
    simp [rowsF, List.getD, hds, hi]
  have g0 := (HoldsK.cell hP (i := i) (c := 0) (by rw [hds]; exact hi) (by omega)).1
  have g1 := (HoldsK.cell hP (i := i) (c := 1) (by rw [hds]; exact hi) (by omega)).1
  have g2 := (HoldsK.cell hP (i := i) (c := 2) (by rw [hds]; exact hi) (by omega)).1
  rw [ei]
  exact ⟨g0, g1, g2⟩

end Go.Proofs.Ytmdcpigobfhckaa
