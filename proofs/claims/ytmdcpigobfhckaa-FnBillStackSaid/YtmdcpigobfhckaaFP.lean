/- Packets: the record, rows in memory, rows of the call's own. -/
import Derived.Test.YtmdcpigobfhckaaVC
import Derived.Test.YtmdcpigobfhckaaFF
namespace Go.Proofs.Ytmdcpigobfhckaa
open Go.RowKit

structure Pk where
  a : Int
  b : Int
  i : Int
  m : Int
def pk0 : Pk := ⟨0, 0, 0, 0⟩
/-- The packet of a parcel. -/
def pkF (l : List Fr) (i : Nat) : Pk := ⟨(l.getD i fr0).a, (l.getD i fr0).b, i, (l.getD i fr0).m⟩
def aggK (p : Pk) : Value := .agg #[.int .i64 p.a, .int .i64 p.b, .int .i64 p.i, .int .i64 p.m]
def celK (p : Pk) : Array Value := #[.int .i64 p.a, .int .i64 p.b, .int .i64 p.i, .int .i64 p.m]

/-- The slice (some ⟨g, 0⟩) with room for cap, in block g, holds l. -/
structure RowK (w : World) (F1 g cap : Nat) (l : List Pk) : Prop where
  ex : ∃ cur : Array Value, w.heap[g]? = some (.cells cur 93 (0, 0)) ∧ cur.size = cap * 4 ∧ ∀ i, i < l.length → cur[i * 4]? = some (.int .i64 (l.getD i pk0).a) ∧ cur[i * 4 + 1]? = some (.int .i64 (l.getD i pk0).b) ∧ cur[i * 4 + 2]? = some (.int .i64 (l.getD i pk0).i) ∧ cur[i * 4 + 3]? = some (.int .i64 (l.getD i pk0).m)
  base : F1 ≤ g
  len : l.length ≤ cap
  max : cap ≤ maxLen

theorem RowK.cells {w : World} {F1 g cap : Nat} {l : List Pk} (h : RowK w F1 g cap l) {i : Nat} (hi : i < l.length) :
    w.cell? ⟨g, i * 4, none⟩ = some (.int .i64 (l.getD i pk0).a) ∧ w.cell? ⟨g, i * 4 + 1, none⟩ = some (.int .i64 (l.getD i pk0).b) ∧ w.cell? ⟨g, i * 4 + 2, none⟩ = some (.int .i64 (l.getD i pk0).i) ∧ w.cell? ⟨g, i * 4 + 3, none⟩ = some (.int .i64 (l.getD i pk0).m) := by
  obtain ⟨cur, hc, _, hcell⟩ := h.ex
  obtain ⟨h0, h1, h2, h3⟩ := hcell i hi
  exact ⟨by rw [cell_of_row w g _ cur _ (0, 0) hc]; exact h0, by rw [cell_of_row w g _ cur _ (0, 0) hc]; exact h1, by rw [cell_of_row w g _ cur _ (0, 0) hc]; exact h2, by rw [cell_of_row w g _ cur _ (0, 0) hc]; exact h3⟩

theorem RowK.lt {w : World} {F1 g cap : Nat} {l : List Pk} (h : RowK w F1 g cap l) : g < w.heap.size := by
  obtain ⟨cur, hc, _⟩ := h.ex
  exact (Array.getElem?_eq_some_iff.1 hc).1

theorem RowK.kept {w w' : World} {F1 g cap : Nat} {l : List Pk} (h : RowK w F1 g cap l) (hb : w'.heap[g]? = w.heap[g]?) : RowK w' F1 g cap l := by
  obtain ⟨cur, hc, r⟩ := h.ex
  exact ⟨⟨cur, hb.trans hc, r⟩, h.base, h.len, h.max⟩

def encK (l : List Pk) : List Value := l.flatMap fun p => [.int .i64 p.a, .int .i64 p.b, .int .i64 p.i, .int .i64 p.m]
theorem encK_cons (p : Pk) (r : List Pk) : encK (p :: r) = .int .i64 p.a :: .int .i64 p.b :: .int .i64 p.i :: .int .i64 p.m :: encK r := rfl
theorem encK_length : ∀ (l : List Pk), (encK l).length = l.length * 4
  | [] => rfl
  | p :: r => by
    have ih := encK_length r
    rw [encK_cons]
    simp only [List.length_cons, ih]
    omega
theorem encK_get : ∀ (l : List Pk) (i : Nat), i < l.length → (encK l)[i * 4]? = some (.int .i64 (l.getD i pk0).a) ∧ (encK l)[i * 4 + 1]? = some (.int .i64 (l.getD i pk0).b) ∧ (encK l)[i * 4 + 2]? = some (.int .i64 (l.getD i pk0).i) ∧ (encK l)[i * 4 + 3]? = some (.int .i64 (l.getD i pk0).m)
  | p :: r, 0, _ => by simp [encK]
  | p :: r, i + 1, h => by
    have ih := encK_get r i (by simpa using h)
    rw [encK_cons, show (i + 1) * 4 = i * 4 + 1 + 1 + 1 + 1 by omega]
    simp only [List.getElem?_cons_succ, show ∀ z, i * 4 + 1 + 1 + 1 + 1 + z = i * 4 + z + 1 + 1 + 1 + 1 by intro z; omega]
    exact ⟨by rw [ih.1]; simp [List.getD], by rw [ih.2.1]; simp [List.getD], by rw [ih.2.2.1]; simp [List.getD], by rw [ih.2.2.2]; simp [List.getD]⟩
theorem encK_snoc (l : List Pk) (p : Pk) : encK (l ++ [p]) = encK l ++ [.int .i64 p.a, .int .i64 p.b, .int .i64 p.i, .int .i64 p.m] := by simp [encK]

/-- A row of the call's own. -/
def OwnK (w : World) (F1 : Nat) (v : Value) (l : List Pk) : Prop := w.ownsRow F1 93 4 v l.length (encK l)

theorem RowK.own {w : World} {F1 g cap : Nat} {l : List Pk} (h : RowK w F1 g cap l) : OwnK w F1 (.slice (some ⟨g, 0, none⟩) l.length cap) l := by
  obtain ⟨cur, hc, hs, hcell⟩ := h.ex
  have hlen := h.len
  refine ⟨encK_length l, .inr ⟨g, cap, cur, rfl, h.base, hc, h.len, h.max, hs, ?_⟩⟩
  refine List.ext_getElem? fun k => ?_
  rw [List.getElem?_take]
  split
  · rename_i hk
    have hi : k / 4 < l.length := by omega
    obtain ⟨h0, h1, h2, h3⟩ := hcell (k / 4) hi
    obtain ⟨g0, g1, g2, g3⟩ := encK_get l (k / 4) hi
    rcases (show k % 4 = 0 ∨ k % 4 = 1 ∨ k % 4 = 2 ∨ k % 4 = 3 by omega) with hk2 | hk2 | hk2 | hk2
    · have : k / 4 * 4 = k := by omega
      rw [this] at h0 g0
      rw [g0]; simpa using h0
    · have : k / 4 * 4 + 1 = k := by omega
      rw [this] at h1 g1
      rw [g1]; simpa using h1
    · have : k / 4 * 4 + 2 = k := by omega
      rw [this] at h2 g2
      rw [g2]; simpa using h2
    · have : k / 4 * 4 + 3 = k := by omega
      rw [this] at h3 g3
      rw [g3]; simpa using h3
  · rename_i hk
    rw [List.getElem?_eq_none (by rw [encK_length]; omega)]

theorem RowK.of_own {w : World} {F1 g cap : Nat} {l : List Pk} (h : OwnK w F1 (.slice (some ⟨g, 0, none⟩) l.length cap) l) : RowK w F1 g cap l := by
  obtain ⟨_, h2⟩ := h
  rcases h2 with ⟨h0, _⟩ | ⟨g', cap', cur, hv, hg, hh, hn, hcap, hsz, htake⟩
  · cases h0
  · cases hv
    refine ⟨⟨cur, hh, hsz, fun i hi => ?_⟩, hg, hn, hcap⟩
    obtain ⟨g0, g1, g2, g3⟩ := encK_get l i hi
    rw [← htake, List.getElem?_take, if_pos (by omega)] at g0 g1 g2 g3
    exact ⟨by simpa using g0, by simpa using g1, by simpa using g2, by simpa using g3⟩

theorem RowK.take {w : World} {F1 g cap : Nat} {l : List Pk} (h : RowK w F1 g cap l) (m : Nat) : RowK w F1 g cap (l.take m) := by
  obtain ⟨cur, hc, hs, hcell⟩ := h.ex
  refine ⟨⟨cur, hc, hs, fun i hi => ?_⟩, h.base, by have := h.len; simp; omega, h.max⟩
  simp only [List.length_take] at hi
  have e : (l.take m).getD i pk0 = l.getD i pk0 := by simp [List.getD, show i < m by omega]
  rw [e]
  exact hcell i (by omega)

theorem infoK : (Try.prog.info? 93).map (fun i => (i.zero, i.size, i.bytes)) = some (some (.agg #[.int .i64 0, .int .i64 0, .int .i64 0, .int .i64 0]), 4, 32) := by kernel_rfl

theorem OwnK.slice {w : World} {F1 : Nat} {v : Value} {l : List Pk} (h : OwnK w F1 v l) : ∃ ad cap, v = .slice ad l.length cap := by
  obtain ⟨_, h⟩ := h
  rcases h with ⟨rfl, h0⟩ | ⟨g, cap, cur, rfl, _⟩
  · exact ⟨none, 0, by rw [h0]⟩
  · exact ⟨_, cap, rfl⟩
theorem OwnK.row {w : World} {F1 : Nat} {v : Value} {l : List Pk} (h : OwnK w F1 v l) (h0 : 0 < l.length) : ∃ g cap, v = .slice (some ⟨g, 0, none⟩) l.length cap ∧ RowK w F1 g cap l := by
  have h' := h
  obtain ⟨_, h⟩ := h
  rcases h with ⟨rfl, hn⟩ | ⟨g, cap, cur, rfl, _⟩
  · omega
  · exact ⟨g, cap, rfl, RowK.of_own h'⟩
theorem OwnK.nil {w : World} {F1 : Nat} : OwnK w F1 (.slice none 0 0) [] := ⟨rfl, .inl ⟨rfl, rfl⟩⟩

end Go.Proofs.Ytmdcpigobfhckaa
