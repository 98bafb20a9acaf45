/- plainOf: the plain road with the miles that come. -/
import Derived.Test.YthdkjjfnockldaaQB
import Derived.Deep.AppendLies
import Derived.Maps.AppendAt
namespace Go.Proofs.Ythdkjjfnockldaa
open Go.RowKit Go.Shelf
attribute [local go_sem] Oper.semAt_some

/-- An append in a round: the slice lies where it lay, or at the heap's end. -/
theorem appendIn {F : Fence} {n : Nat} {P : Program} (w : World) {ops : Array Oper} {rest : List Oper} {o : Oper} {a : Act} {Q : Exit → Act → World → Prop} (hgd : o.guard = none) (s x : Operand) (t : TypeId)
    (ho : o.op = .call { callee := .builtin .append, args := #[s, x], argTypes := #[t, t] })
    {base : Nat} {e : TypeId} {i : TypeInfo} {z : Value} {size bytes : Nat} (ht : P.underlying t = some (.slice e)) (hi : P.info? e = some i) (hz : i.zero = some z) (hsize : i.size = size) (hby : i.bytes = bytes) (hzs : z.cells.size = size) (hsz : 0 < size)
    {v : Value} {k : Nat} {xs : List Value} (hs : a.eval s = v) (hown : w.ownsRow base e size v k xs) (ad : Addr) (m c : Nat) (news : List Value) (hx : a.eval x = .slice (some ad) m c) (hl : news.length = m * size)
    (hnews : ∀ j u, news[j]? = some u → w.cell? (ad.add j) = some u) (h1 : ∀ u ∈ news, u.oneCell' = true) (hm : 0 < m) (h63 : k + m ≤ maxLen) (hbytes : (k + m) * bytes ≤ 140737488355328) (hbase : base ≤ w.heap.size)
    (h : ∀ g cap w', w'.ownsRow base e size (.slice (some ⟨g, 0, none⟩) (k + m) cap) (k + m) (xs ++ news) → w.grownBy w' v.ownBlock → (v.ownBlock = some g ∨ g = w.heap.size) → g < w'.heap.size →
      wpListIn F n P ops Q rest (a.put o.dst (.slice (some ⟨g, 0, none⟩) (k + m) cap)) w') : wpListIn F n P ops Q (o :: rest) a w := by
  refine wpListIn_plain hgd fun K hK => ?_
  obtain ⟨g, cap, w', hr, h2, h3, h4, h5⟩ := run_append_lies (P := P) w t o.type base e i z size bytes ht hi hz hsize hby hzs hsz v k xs hown ad m c news hl hnews h1 hm h63 hbytes hbase _ rfl
  refine ⟨by simp [Oper.about, ho, resolve, Target.leads, Sem.run_pure], ?_⟩
  rw [Oper.semAt_plain F _ _ (by rw [ho]; intro c hc'; cases hc')]
  simp [execOp, ho, resolve, invoke, builtin, hs, hx, hr, Result.andThen]
  exact hK _ _ (h g cap w' h2 h3 h4 h5)

theorem RowPt.touch {w w' : World} {B : Nat} {ad : Option Addr} {n cap : Nat} {l : List Pt} {S : Nat → Prop} (h : RowPt w B (.slice ad n cap) l) (ht : Touch S w w') (hS : ∀ g, inBlk ad g → ¬ S g) : RowPt w' B (.slice ad n cap) l := by
  obtain ⟨hlen, h⟩ := h
  refine ⟨hlen, ?_⟩
  rcases h with ⟨h1, h0⟩ | ⟨g, cap', cur, h1, hB, hh, rest⟩
  · exact .inl ⟨h1, h0⟩
  · refine .inr ⟨g, cap', cur, h1, hB, ?_, rest⟩
    injection h1 with h1 h2 h3
    exact (ht.block g (Array.getElem?_eq_some_iff.1 hh).1 (hS g ⟨0, h1⟩)).trans hh

theorem encPt_setB : ∀ (l : List Pt) (i : Nat) (v : Int), i < l.length → (encPt l).set (i * 2 + 1) (.int .i64 v) = encPt (l.set i ⟨(l.getD i pt0).a, v⟩)
  | [], i, v, h => by simp at h
  | r :: l, 0, v, _ => by simp [encPt]
  | r :: l, i + 1, v, h => by
    have ih := encPt_setB l i v (by simpa using h)
    rw [List.set_cons_succ, show (i + 1) * 2 + 1 = (i * 2 + 1) + 1 + 1 by omega]
    simp only [encPt, List.flatMap_cons, List.cons_append, List.nil_append, List.set_cons_succ, List.getD_cons_succ] at ih ⊢
    rw [ih]

/-- The last part gets a mile more. -/
theorem RowPt.setB {w : World} {B g n cap : Nat} {l : List Pt} (h : RowPt w B (.slice (some ⟨g, 0, none⟩) n cap) l) {i : Nat} (hi : i < l.length) (v : Int) :
    RowPt (w.setCell ⟨g, i * 2 + 1, none⟩ (.int .i64 v)) B (.slice (some ⟨g, 0, none⟩) n cap) (l.set i ⟨(l.getD i pt0).a, v⟩) := by
  obtain ⟨hlen, h⟩ := h
  rcases h with ⟨h1, h0⟩ | ⟨g', cap', cur, h1, hB, hh, hcap, hmax, hs, htk⟩
  · cases h1
  · injection h1 with h1 h2 h3
    injection h1 with h1
    injection h1 with h1
    subst h1 h2 h3
    unfold RowPt
    rw [List.length_set]
    refine ⟨by rw [encPt_len, List.length_set], .inr ⟨g, cap, _, rfl, hB, Whole.set (show Whole w g _ cur from hh) (i * 2 + 1) (.int .i64 v), hcap, hmax, by rw [Array.size_setIfInBounds]; exact hs, ?_⟩⟩
    rw [Array.toList_setIfInBounds, List.take_set, htk, encPt_setB l i v hi]

/-- The box behind the first row; the row that it holds. -/
def PlI (own : Nat → Int) (w : World) (T : Nat → Prop) (pre : List Nat) (W : World) : Prop :=
  ∃ (ad : Option Addr) (cap : Nat), Boxed W (w.heap.size + 1) 23 (.slice ad (plainL (pre.map own)).length cap) ∧ RowPt W w.heap.size (.slice ad (plainL (pre.map own)).length cap) (plainL (pre.map own)) ∧ (∀ g, inBlk ad g → ¬ T g) ∧ ¬ T (w.heap.size + 1) ∧
    Below w.heap.size w W ∧ w.heap.size + 2 ≤ W.heap.size

theorem PlI.abide (own : Nat → Int) (w : World) : Abide (w.heap.size + 2) (PlI own w) := fun T T' s W W' ⟨ad, cap, h1, h2, h3, h4, h5, h6⟩ ht hT => by
  have e1 := ht.block (w.heap.size + 1) (by omega) (fun e => by omega)
  refine ⟨ad, cap, e1.trans h1, h2.touch ht (fun g hg e => h3 g hg e.2), fun g hg h => ?_, fun h => (hT _ h).elim h4 (fun h => by omega), h5.trans (ht.below (fun j hj => by omega) (by omega)), Nat.le_trans h6 ht.size⟩
  refine (hT g h).elim (h3 g hg) (fun h => ?_)
  obtain ⟨ad', cap', e, _, hown, hlt⟩ := h2.row
  injection e with e
  subst e
  have := (hlt g hg).2
  omega

theorem Keep.grown {T : Nat → Prop} {A B : World} {row : Option Nat} (h : A.grownBy B row) (hr : ∀ j, row = some j → ¬ T j) : Keep T A B :=
  ⟨h.size, fun j hj ht => h.block j hj (fun e => hr j e.symm ht)⟩

/-- Behind an append, the slice stored in its box. -/
theorem PlI.more {own : Nat → Int} {w W w8 : World} {T : Nat → Prop} {q : List Pt} {ad : Option Addr} {cap g cap' : Nat} {o : Obj} {pre' : List Nat} {r : Pt} (hTl : ∀ j, T j → j < W.heap.size)
    (h1 : Boxed W (w.heap.size + 1) 23 (.slice ad q.length cap)) (h2 : RowPt W w.heap.size (.slice ad q.length cap) q) (h3 : ∀ g, inBlk ad g → ¬ T g) (h4 : ¬ T (w.heap.size + 1)) (h5 : Below w.heap.size w W) (h6 : w.heap.size + 2 ≤ W.heap.size)
    (h7 : w8.ownsRow w.heap.size 41 2 (.slice (some ⟨g, 0, none⟩) (q.length + 1) cap') (q.length + 1) (encPt q ++ [.int .i64 r.a, .int .i64 r.b])) (h8 : (W.alloc o).grownBy w8 (Value.slice ad q.length cap).ownBlock)
    (h9 : (Value.slice ad q.length cap).ownBlock = some g ∨ g = (W.alloc o).heap.size) (hq : plainL (pre'.map own) = q ++ [r]) :
    w8.cell? ⟨w.heap.size + 1, 0, none⟩ = some (.slice ad q.length cap) ∧ w8.frozen? ⟨w.heap.size + 1, 0, none⟩ = false ∧
    Keep T W (w8.setCell ⟨w.heap.size + 1, 0, none⟩ (.slice (some ⟨g, 0, none⟩) (q.length + 1) cap')) ∧ PlI own w T pre' (w8.setCell ⟨w.heap.size + 1, 0, none⟩ (.slice (some ⟨g, 0, none⟩) (q.length + 1) cap')) := by
  have hne := h1.not_row (by decide) h2
  have hb8 : Boxed w8 (w.heap.size + 1) 23 (.slice ad q.length cap) := (h1.alloc o).kept h8 hne
  have hblk : ∀ j, (Value.slice ad q.length cap).ownBlock = some j → inBlk ad j := fun j hj => by
    cases ad with
    | none => simp [Value.ownBlock] at hj
    | some a =>
      obtain ⟨ad', cap', e, _, hown, _⟩ := h2.row
      simp [Value.ownBlock] at hj
      rcases h2.2 with ⟨e, _⟩ | ⟨g', _, _, e, _⟩
      · cases e
      · injection e with e
        injection e with e
        subst e
        exact ⟨0, by rw [← hj]⟩
  have hg1 : g ≠ w.heap.size + 1 := by
    rcases h9 with h | h
    · intro e; exact hne (by rw [h, e])
    · rw [World.size_alloc] at h; omega
  have hgT : ¬ T g := by
    rcases h9 with h | h
    · exact h3 g (hblk g h)
    · intro ht; have := hTl g ht; rw [World.size_alloc] at h; omega
  have hs8 := h8.size
  rw [World.size_alloc] at hs8
  have k1 : Keep T W w8 := (Keep.alloc T W o).trans (Keep.grown h8 (fun j hj => h3 j (hblk j hj)))
  have hlow : Below w.heap.size W w8 := ((Below.refl w.heap.size W).alloc (by omega) o).grown h8 (by rw [World.size_alloc]; omega) (fun j hj => (h2.lt j hj).1)
  refine ⟨hb8.cell, hb8.frozen, k1.setCell h4 _, some ⟨g, 0, none⟩, cap', ?_, ?_, fun j hj => ?_, h4, h5.trans (hlow.setCell (p := ⟨w.heap.size + 1, 0, none⟩) (by simp) _), by rw [World.size_setCell]; omega⟩
  · rw [hq, List.length_append, List.length_singleton]; exact hb8.set _
  · rw [hq, List.length_append, List.length_singleton]
    refine (RowPt.snoc h7).touch (S := fun j => j = w.heap.size + 1) (Touch.setCell (S := fun j => j = w.heap.size + 1) (Touch.refl _ _) (a := ⟨w.heap.size + 1, 0, none⟩) rfl _) (fun j hj e => ?_)
    obtain ⟨o', ho⟩ := hj
    cases ho
    exact hg1 e
  · obtain ⟨o', ho⟩ := hj
    cases ho
    exact hgT

set_option maxRecDepth 100000 in
set_option maxHeartbeats 2000000 in
theorem plain_any (own : Nat → Int) (gf : Nat) (lb : Array Value) (T₀ : Nat → Prop) (xs : List Nat) (w : World) (eg : ∀ args w, (callFunc gf args).run Try.prog w = .ok (.enter gf args) w)
    (hseq : Comes Try.prog gf lb (encO own) T₀ xs w) (hT₀ : ∀ j, T₀ j → j < w.heap.size) (hlen : xs.length ≤ 1188) :
    Calls Try.prog 58 #[.func (.func gf) #[] lb] w fun e w' => ∃ (ad : Option Addr) (cap : Nat), e = .returned (.slice ad (plainL (xs.map own)).length cap) ∧ RowPt w' w.heap.size (.slice ad (plainL (xs.map own)).length cap) (plainL (xs.map own)) ∧ Below w.heap.size w w' := by
  obtain ⟨i0, hi, hz0, hz1, hz2⟩ := info_parts infoPt
  have Hs := Lib.hid hseq
  have HT := Lib.hid hT₀
  clear hseq hT₀
  refine (callsIn_wide (n := 10)).1 ?_
  refine callsIn_of_wp_marks Try.func58 rfl trivial ?_ rfl
  simp only [Try.ntmps58, List.size_toArray, List.length_cons, List.length_nil, Nat.reduceAdd, Nat.reduceSub, Array.replicate_succ, Array.replicate_zero, List.push_toArray, List.append_toArray, List.nil_append, List.cons_append]
  gi_wp2
  obtain ⟨W0, hW0⟩ : ∃ W0, W0 = (w.alloc (.cells #[] 41)).alloc (.cells #[.slice (some ⟨w.heap.size, 0, none⟩) 0 0] 23) := ⟨_, rfl⟩
  rw [← hW0]
  have hB0 : Below w.heap.size w W0 := by rw [hW0]; exact ((Below.refl _ w).alloc (Nat.le_refl _) _).alloc (by simp) _
  have hs0 : W0.heap.size = w.heap.size + 2 := by rw [hW0]; simp
  have hI0 : PlI own w T₀ [] W0 := by
    refine ⟨some ⟨w.heap.size, 0, none⟩, 0, ?_, ?_, fun g hg h => ?_, fun h => by have := HT.out _ h; omega, hB0, by omega⟩
    · have := Boxed.new (w.alloc (.cells #[] 41)) 23 (.slice (some ⟨w.heap.size, 0, none⟩) 0 0)
      rw [World.size_alloc] at this
      rw [hW0]; exact this
    · rw [hW0]; exact (RowPt.made w w.heap.size (Nat.le_refl _)).below ((Below.refl _ _).alloc (Nat.le_refl _) _)
    · obtain ⟨o, ho⟩ := hg
      cases ho
      have := HT.out _ h; omega
  clear hW0
  refine rangeComes (gf := gf) (lb := lb) rfl eg Hs.out (fun j hj => by have := HT.out j hj; omega) hB0 (fun _ => rfl) (PlI own w) (fun _ _ _ _ => False) (by rw [hs0]; exact PlI.abide own w) (fun _ => Abide.never _) hI0
    (fun k => { tmps := #[.func (.func gf) #[] lb, undef, .slice none 0 0, .pointer (some ⟨w.heap.size + 1, 0, none⟩), undef, .int .i64 (own k), undef, .slice (some ⟨w.heap.size, 0, none⟩) 0 0, .func (.func gf) #[] lb, .int .i64 (k : Nat), .int .i64 (own k), undef, undef, undef, undef, undef, undef, undef, undef, undef, undef, undef, undef, undef, undef, undef, undef, undef, undef, undef, undef, undef, undef, undef, undef, undef, undef, undef, undef], defers := [] }) ?assign ?body ?done ?stop
  case assign =>
    intro l x W K hK
    simp only [encO]
    gi_wp2
    exact hK
  case body =>
    rintro l T pre x W hpre hsz hTl ⟨ad, cap, h1, h2, h3, h4, h5, h6⟩
    have hc := h1.cell
    have hfz := h1.frozen
    have hlen2 : pre.length < xs.length := by have := hpre.length_le; simp at this; omega
    obtain ⟨hbd1, hbd2⟩ := plainL_bd (pre.map own)
    have hm : (pre ++ [x]).map own = pre.map own ++ [own x] := by simp
    have H1 := Lib.hid h1
    have H3 := Lib.hid h3
    have H4 := Lib.hid h4
    have H5 := Lib.hid h5
    have Hm := Lib.hid hm
    clear h1 h3 h4 h5 hpre hm
    have hmiss := plainL_miss (os := pre.map own) (o := own x)
    have hhit := plainL_hit (os := pre.map own) (o := own x)
    rw [List.length_map] at hbd1 hbd2
    generalize hq : plainL (pre.map own) = q at *
    generalize hy : own x = y at *
    by_cases hpos : 0 < q.length
    · obtain ⟨k, hk⟩ : ∃ k, q.length = k + 1 := ⟨q.length - 1, by omega⟩
      have h2' := h2.row
      obtain ⟨ad', cap', e, hcap, hown, _⟩ := h2'
      injection e with e1 e2 e3
      subst e1 e3
      obtain ⟨g, rfl, hgl, hat, hroom⟩ := hown (by intro h; simp [h] at hpos)
      obtain ⟨c0, c1⟩ := hat k (by omega)
      have f1 := hroom.2 (k * 2 + 1)
      have hb := hbd2 (q.getD k pt0) (by rw [Pt.getD_eq q (by omega)]; exact List.getElem_mem _)
      rw [show q.length - 1 = k by omega] at hhit hmiss
      rw [Nat.zero_add] at c0 c1
      have Hhit := Lib.hid hhit
      have Hmiss := Lib.hid hmiss
      have H2 := Lib.hid h2
      have Hq := Lib.hid hq
      have Hk := Lib.hid hk
      have HTl := Lib.hid hTl
      have hk9 : k < 1188 := by omega
      rw [hk] at hc
      generalize hra : (q.getD k pt0).a = ra at *
      generalize hrb : (q.getD k pt0).b = rb at *
      clear hhit hmiss h2 hat hroom hbd1 hbd2 hcap hq hk hTl hown
      by_cases hay : ra = y
      · subst hay
        have hd : (ra == ra) = true := by simp
        have Hst := Lib.hid (Hhit.out (by have := Hk.out; omega) rfl)
        clear Hhit Hmiss
        have H6 := Lib.hid h6
        gi_wp2
        have hidx : k < q.length := by have := Hk.out; omega
        have hset := H2.out.setB hidx (rb + 1)
        rw [hra] at hset
        have hgT : ¬ T g := H3.out g ⟨0, rfl⟩
        have hgb : w.heap.size ≤ g := (H2.out.lt g rfl).1
        have hgx : w.heap.size + 1 ≠ g := fun e => H1.out.not_row (by decide) H2.out (by rw [e]; rfl)
        have e9 : plainL ((pre ++ [x]).map own) = q.set k ⟨ra, rb + 1⟩ := by rw [Hm.out]; exact Hst.out
        change Keep T W _ ∧ PlI own w T _ _
        refine ⟨(Keep.refl T W).setCell (p := ⟨g, k * 2 + 1, none⟩) hgT _, some ⟨g, 0, none⟩, cap, ?_, ?_, H3.out, H4.out, H5.out.setCell (p := ⟨g, k * 2 + 1, none⟩) hgb _, by rw [World.size_setCell]; exact H6.out⟩
        · rw [e9, List.length_set]
          exact (Below.heap_setCell W ⟨g, k * 2 + 1, none⟩ _ _ hgx).trans H1.out
        · rw [e9, List.length_set]; exact hset
      · have hd : (ra != y) = true := by simpa using hay
        have Hst := Lib.hid (Hmiss.out (fun h => hay h.2))
        clear Hhit Hmiss
        have hpos' := Lib.hid hpos
        clear hpos
        gi_wp2_with (gi_at_builtin; refine appendIn _ rfl _ _ 23 rfl Try.underlying23 hi hz0 hz1 hz2 rfl (by decide) rfl (World.ownsRow.alloc (show World.ownsRow W _ _ _ _ (k + 1) (encPt q) by rw [← Hk.out]; exact H2.out) _) ⟨W.heap.size, 0, none⟩ 1 1 [.int .i64 y, .int .i64 1] rfl rfl (World.news_of_block (cs := #[.int .i64 y, .int .i64 1]) (t := 41) (fr := (0, 0)) (heap_alloc_new W _)) (by simp [Value.oneCell']) (by decide) (by unfold maxLen; omega) (by omega) (by simp; omega) ?_; intro g8 cap8 w8 h7 h8 h9 _; obtain ⟨k1, k2, k3, k4⟩ := PlI.more (r := ⟨y, 1⟩) (pre' := pre ++ [x]) HTl.out H1.out H2.out H3.out H4.out H5.out h6 (by rw [Hk.out]; exact h7) (by rw [Hk.out]; exact h8) (by rw [Hk.out]; exact h9) (by rw [Hm.out]; exact Hst.out); have K1 := Lib.hid k3; have K2 := Lib.hid k4; rw [Hk.out] at k1 K1 K2; clear k3 k4 h7 h8 h9)
        exact ⟨K1.out, K2.out⟩
    · have hk0 : q.length = 0 := by omega
      have Hst := Lib.hid (hmiss (fun h => hpos h.1))
      have H2 := Lib.hid h2
      have Hq := Lib.hid hq
      have HTl := Lib.hid hTl
      have Hk := Lib.hid hk0
      rw [hk0] at hc
      clear hhit hmiss h2 hbd1 hbd2 hq hTl hpos hk0
      gi_wp2_with (gi_at_builtin; refine appendIn _ rfl _ _ 23 rfl Try.underlying23 hi hz0 hz1 hz2 rfl (by decide) rfl (World.ownsRow.alloc (show World.ownsRow W _ _ _ _ 0 (encPt q) by rw [← Hk.out]; exact H2.out) _) ⟨W.heap.size, 0, none⟩ 1 1 [.int .i64 y, .int .i64 1] rfl rfl (World.news_of_block (cs := #[.int .i64 y, .int .i64 1]) (t := 41) (fr := (0, 0)) (heap_alloc_new W _)) (by simp [Value.oneCell']) (by decide) (by unfold maxLen; omega) (by omega) (by simp; omega) ?_; intro g8 cap8 w8 h7 h8 h9 _; obtain ⟨k1, k2, k3, k4⟩ := PlI.more (r := ⟨y, 1⟩) (pre' := pre ++ [x]) HTl.out H1.out H2.out H3.out H4.out H5.out h6 (by rw [Hk.out]; exact h7) (by rw [Hk.out]; exact h8) (by rw [Hk.out]; exact h9) (by rw [Hm.out]; exact Hst.out); have K1 := Lib.hid k3; have K2 := Lib.hid k4; rw [Hk.out] at k1 K1 K2; clear k3 k4 h7 h8 h9)
      exact ⟨K1.out, K2.out⟩
  case done =>
    rintro D T W hD hTD hI hK
    have ht : Touch (fun j => w.heap.size + 2 ≤ j ∧ T j) W (W.putObj D (.deferred none)) := touch_putObj _ _ ⟨by omega, hTD⟩
    obtain ⟨ad, cap, h1, h2, h3, h4, h5, h6⟩ := hI
    have hc := h1.cell
    have h2' := h2.touch ht (fun g hg e => h3 g hg e.2)
    gi_wp2
    refine ⟨by simp, .inl ⟨_, _, rfl, run_takeDeferred hK, ?_⟩⟩
    exact ⟨_, results_tmp rfl _ _ _, ad, cap, rfl, h2', h5.trans (ht.below (fun j hj => by omega) (by omega))⟩
  case stop =>
    rintro D c T pre W _ _ _ h _
    exact h.elim

end Go.Proofs.Ythdkjjfnockldaa
