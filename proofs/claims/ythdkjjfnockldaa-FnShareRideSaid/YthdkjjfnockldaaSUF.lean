/- The laws' sumOf; facts of settlements. -/
import Derived.Test.YthdkjjfnockldaaQSU
import Derived.Test.YthdkjjfnockldaaI
namespace Go.Proofs.Ythdkjjfnockldaa
open Go.RowKit

theorem take_sumI {t : List Int} {k : Nat} (h : k < t.length) : (t.take (k + 1)).sum = (t.take k).sum + t.getD k 0 := by
  rw [List.take_succ_eq_append_getElem h, List.sum_append]
  simp [List.getD, h]
theorem take_sum_bd {t : List Int} {M : Int} (h : ∀ i, -M ≤ t.getD i 0 ∧ t.getD i 0 ≤ M) : ∀ k, k ≤ t.length → -(M * k) ≤ (t.take k).sum ∧ (t.take k).sum ≤ M * k
  | 0, _ => by simp
  | k + 1, hk => by
    have ih := take_sum_bd h k (by omega)
    have := h k
    rw [take_sumI (by omega), Int.natCast_add, Int.mul_add]
    omega

def SoRel (t : List Int) (w : World) (s i : Value) (wr : World) : Prop := ∃ k : Nat, k ≤ t.length ∧ i = .int .i64 k ∧ s = .int .i64 (t.take k).sum ∧ w = wr

set_option maxRecDepth 100000 in
set_option maxHeartbeats 1000000 in
theorem sumOf_any (v : Value) (t : List Int) (w : World) (hv : IntsIn w v t) (hl : t.length ≤ 100) (hM : ∀ i, -2000000000 ≤ t.getD i 0 ∧ t.getD i 0 ≤ 2000000000) :
    Calls Try.prog 20 #[v] w fun e w' => e = .returned (.int .i64 t.sum) ∧ w' = w := by
  obtain ⟨a, cap, rfl, hcap, ha⟩ := hv
  clear hcap
  have Ha := Lib.hid ha; clear ha
  have Hbd := Lib.hid (take_sum_bd hM)
  have HM := Lib.hid hM
  clear hM
  go_enter Try.func20, Try.ntmps20
  go_wp2
  go_loopw [3, 4] (fun s i wr => SoRel t w s i wr) (fun _ i _ => t.length - (intOf i).toNat)
  case atStart => exact ⟨0, Nat.zero_le _, rfl, by simp, rfl⟩
  case round =>
    obtain ⟨k, hk, rfl, rfl, hw⟩ := hrel
    obtain rfl : w = wr := hw
    by_cases hlt : k < t.length
    · obtain ⟨b, o, rfl, hb0, hrw⟩ := Ha.out (by intro h; simp [h] at hlt)
      have c0 := hrw k hlt
      have Hsum := Lib.hid (take_sumI hlt)
      have h1 := HM.out k
      have h2 := Hbd.out k (by omega)
      generalize t.getD k 0 = x at *
      generalize (t.take k).sum = s at *
      have hsw : wrap64 (s + x) = s + x := by unfold wrap64; omega
      clear hrw h1 h2
      go_wp2
      exact ⟨⟨k + 1, hlt, by go_num, by rw [hsw, Hsum.out], rfl⟩, by simp [intOf]; omega⟩
    · obtain rfl : k = t.length := by omega
      have ht : t.take t.length = t := List.take_length
      rw [ht]
      clear ht
      go_wp2
      go_ret
      exact ⟨rfl, rfl⟩

theorem giveP_sum : ∀ (o : List Nat) (out : List Int), (∀ k ∈ o, k < out.length) → (giveP o out).sum = out.sum + o.length
  | [], out, _ => by simp [giveP]
  | k :: o, out, h => by
    have ih := giveP_sum o (out.set k (out.getD k 0 + 1)) (fun j hj => by rw [List.length_set]; exact h j (by simp [hj]))
    have hs := sum_set out k (out.getD k 0 + 1) (h k (by simp))
    simp only [giveP, List.foldl_cons, List.length_cons] at ih ⊢
    omega
theorem shareL_sum {ms : List Int} (amt : Int) (h : 0 < ms.sum) : (shareL ms amt).sum = amt := by
  have hl := leftL_bd amt h
  have hlen : ((orderR (rstL (dueL ms amt) ms.sum)).take (leftL ms amt).toNat).length = (leftL ms amt).toNat := by
    rw [List.length_take, orderR_length, rstL_len, dueL_len]; omega
  unfold shareL
  rw [giveP_sum _ _ (fun k hk => by
    have := orderR_mem.1 (List.mem_of_mem_take hk)
    rw [rstL_len] at this
    rw [quoL_len]; exact this), hlen]
  have : leftL ms amt = amt - (quoL (dueL ms amt) ms.sum).sum := rfl
  omega
theorem zip_at {s t : List Int} (h : s.length = t.length) (i : Nat) : (List.zipWith (fun a b => a - b) s t).getD i 0 = s.getD i 0 - t.getD i 0 := by
  simp only [List.getD_eq_getElem?_getD, List.getElem?_zipWith]
  by_cases hi : i < s.length
  · rw [List.getElem?_eq_getElem hi, List.getElem?_eq_getElem (show i < t.length by omega)]; rfl
  · rw [List.getElem?_eq_none (by omega), List.getElem?_eq_none (by omega)]; rfl
theorem zip_sum : ∀ {s t : List Int}, s.length = t.length → (List.zipWith (fun a b => a - b) s t).sum = s.sum - t.sum
  | [], [], _ => rfl
  | a :: s, b :: t, h => by
    have ih := zip_sum (s := s) (t := t) (by simpa using h)
    simp only [List.zipWith_cons_cons, List.sum_cons]
    omega
  | [], _ :: _, h => by simp at h
  | _ :: _, [], h => by simp at h
theorem le_sum_of {t : List Int} (h : ∀ x ∈ t, 0 ≤ x) : ∀ i, 0 ≤ t.getD i 0 ∧ t.getD i 0 ≤ t.sum := fun i => by
  have hs := sum_nonneg h
  by_cases hi : i < t.length
  · have h1 := take_sum_le h (i + 1)
    rw [take_sumI hi] at h1
    have h2 := sum_nonneg (t := t.take i) (fun x hx => h x (List.mem_of_mem_take hx))
    have h3 : t.getD i 0 ∈ t := by rw [List.getD_eq_getElem?_getD, List.getElem?_eq_getElem hi]; exact List.getElem_mem hi
    have := h _ h3
    omega
  · have : t.getD i 0 = 0 := by simp [List.getD, List.getElem?_eq_none (show t.length ≤ i by omega)]
    omega

/-- What a settlement that can be made keeps to. -/
structure SetFacts (l : List Pt) (t sh : List Int) : Prop where
  make : makeX l t.sum = sh
  mok : makeOk l t.sum = true
  lsh : sh.length = 6
  lt : t.length = 6
  lx : (setX l t).length = 6
  at_ : ∀ i, (setX l t).getD i 0 + t.getD i 0 = sh.getD i 0
  sum : (setX l t).sum = 0
  sok : setOk l sh = true
  lz : (setX l sh).length = 6
  zero : ∀ i, (setX l sh).getD i 0 = 0
  tb : ∀ i, 0 ≤ t.getD i 0 ∧ t.getD i 0 ≤ 1000000
  xb : ∀ i, -1000000 ≤ (setX l t).getD i 0 ∧ (setX l t).getD i 0 ≤ 1000000

theorem set_facts {l : List Pt} {t : List Int} (h : setOk l t = true) : ∃ sh, SetFacts l t sh := by
  have h' := h
  unfold setOk at h
  simp only [Bool.and_eq_true] at h
  obtain ⟨ht, hv⟩ := h
  obtain ⟨t6, tn, ts⟩ := tkOk_iff.1 ht
  have hp := cntP_pos hv
  have t0 := sum_nonneg tn
  have hlen : (shareL (cnt6 (ownP l)) t.sum).length = 6 := by rw [shareL_len, cnt6_len]
  have hsum := shareL_sum (ms := cnt6 (ownP l)) t.sum hp.1
  have hbd := shareL_bd (ms := cnt6 (ownP l)) (amt := t.sum) (by rw [cnt6_len]; omega) (cnt6_le _ (ownP_len hv)) ⟨t0, ts⟩ hp.1
  have hx : setX l t = List.zipWith (fun a b => a - b) (shareL (cnt6 (ownP l)) t.sum) t := by unfold setX; rw [if_yes h']
  have hmk : makeOk l t.sum = true := by unfold makeOk; rw [hv, okAm_iff.2 ⟨t0, ts⟩]; rfl
  generalize hsh : shareL (cnt6 (ownP l)) t.sum = sh at *
  have hn : ∀ x ∈ sh, 0 ≤ x := fun x hx => by
    obtain ⟨i, hi, rfl⟩ := List.mem_iff_getElem.1 hx
    have := (hbd i).1
    rwa [List.getD_eq_getElem?_getD, List.getElem?_eq_getElem hi] at this
  have hok2 : setOk l sh = true := by unfold setOk; rw [tkOk_iff.2 ⟨hlen, hn, by omega⟩, hv]; rfl
  have hx2 : setX l sh = List.zipWith (fun a b => a - b) sh sh := by unfold setX; rw [if_yes hok2, hsum, hsh]
  have b1 := le_sum_of tn
  have b2 := le_sum_of hn
  refine ⟨sh, ⟨by unfold makeX; rw [if_yes hmk, hsh], hmk, hlen, t6, by rw [hx, List.length_zipWith]; omega, fun i => ?_, by rw [hx, zip_sum (by omega)]; omega, hok2, by rw [hx2, List.length_zipWith]; omega, fun i => ?_, fun i => ?_, fun i => ?_⟩⟩
  · rw [hx, zip_at (by omega)]; omega
  · rw [hx2, zip_at rfl]; omega
  · have := b1 i; omega
  · have := b1 i; have := b2 i
    rw [hx, zip_at (by omega)]; omega

end Go.Proofs.Ythdkjjfnockldaa
