import Derived.Test.YtpahgmidofacaaaVN

/-
  The document's parts in memory.
-/
namespace Go.Proofs.Ytpahgmidofacaaa
open Go.RowKit Go.Maps

abbrev iI (n : Nat) : Value := .int .i64 (n : Int)

/-- The document's list of parts behind pb: the terms, and for each the places of its arguments. -/
structure Ly (w0 : World) (pb : Nat) (ps : List (T × Value)) (os : List (Value × List Nat)) (vl vo : Value) (W : World) : Prop where
  head : W.heap[pb]? = some (.cells #[vl, vo] 116 (0, 0))
  rl : W.ownsRow w0.heap.size 28 3 vl ps.length (flatT ps)
  ro : W.ownsRow w0.heap.size 23 1 vo os.length (os.map (·.1))
  len : os.length = ps.length
  ra : ∀ p ∈ ps, ArgsAt w0 p.2 p.1.args
  rw : ∀ o ∈ os, W.ownsRow w0.heap.size 3 1 o.1 o.2.length (o.2.map iI)
  ix : ∀ i (h : i < ps.length) (h' : i < os.length), Idx (ps.map (·.1)) os[i].2 ps[i].1.args ∧ ∀ j ∈ os[i].2, j < i
  low : w0.heap.size ≤ pb

/-- The blocks that turn. -/
abbrev pbs (pb : Nat) (vl vo : Value) : List Nat := pb :: (vl.ownBlock.toList ++ vo.ownBlock.toList)

section
variable {w0 : World} {pb : Nat} {ps : List (T × Value)} {os : List (Value × List Nat)} {vl vo : Value} {W W' : World}

theorem Ly.lows (h : Ly w0 pb ps os vl vo W) : ∀ r ∈ pbs pb vl vo, w0.heap.size ≤ r := by
  intro r hr
  simp only [pbs, List.mem_cons, List.mem_append, Option.mem_toList] at hr
  rcases hr with rfl | hr | hr
  · exact h.low
  · exact (row_block h.rl hr).1
  · exact (row_block h.ro hr).1
theorem Ly.there (h : Ly w0 pb ps os vl vo W) : ∀ r ∈ pbs pb vl vo, r < W.heap.size := by
  intro r hr
  simp only [pbs, List.mem_cons, List.mem_append, Option.mem_toList] at hr
  rcases hr with rfl | hr | hr
  · exact (Array.getElem?_eq_some_iff.1 h.head).1
  · obtain ⟨_, cur, hg⟩ := row_block h.rl hr
    exact (Array.getElem?_eq_some_iff.1 hg).1
  · obtain ⟨_, cur, hg⟩ := row_block h.ro hr
    exact (Array.getElem?_eq_some_iff.1 hg).1
/-- Its own rows of numbers do not lie in the blocks that turn. -/
theorem Ly.off (h : Ly w0 pb ps os vl vo W) {r : Nat} {cur : Array Value} {ty : TypeId} (hr : W.heap[r]? = some (.cells cur ty (0, 0))) (h1 : ty ≠ 116) (h2 : ty ≠ 28) (h3 : ty ≠ 23) : r ∉ pbs pb vl vo := by
  simp only [pbs, List.mem_cons, List.mem_append, Option.mem_toList, not_or]
  refine ⟨fun e => ?_, fun e => ?_, fun e => ?_⟩
  · rw [e, h.head] at hr
    simp only [Option.some.injEq, Obj.cells.injEq] at hr
    exact h1 hr.2.1.symm
  · obtain ⟨_, cur', hg⟩ := row_block h.rl e
    rw [hr] at hg
    simp only [Option.some.injEq, Obj.cells.injEq] at hg
    exact h2 hg.2.1
  · obtain ⟨_, cur', hg⟩ := row_block h.ro e
    rw [hr] at hg
    simp only [Option.some.injEq, Obj.cells.injEq] at hg
    exact h3 hg.2.1
theorem Ly.keep (h : Ly w0 pb ps os vl vo W) (hk : ∀ r, r < W.heap.size → (r ∈ pbs pb vl vo ∨ ∃ cur, W.heap[r]? = some (.cells cur 3 (0, 0))) → W'.heap[r]? = W.heap[r]?) : Ly w0 pb ps os vl vo W' := by
  have hb : ∀ r ∈ pbs pb vl vo, W'.heap[r]? = W.heap[r]? := fun r hr => hk r (h.there r hr) (.inl hr)
  refine ⟨(hb pb (by simp)).trans h.head, rowL_keep h.rl (fun g hg => hb g (by simp [hg])), rowL_keep h.ro (fun g hg => hb g (by simp [hg])), h.len, h.ra, fun o ho => rowL_keep (h.rw o ho) (fun g hg => ?_), h.ix, h.low⟩
  obtain ⟨_, cur, hc⟩ := row_block (h.rw o ho) hg
  exact hk g (Array.getElem?_eq_some_iff.1 hc).1 (.inr ⟨cur, hc⟩)
theorem Ly.below (h : Ly w0 pb ps os vl vo W) (hb : Below W.heap.size W W') : Ly w0 pb ps os vl vo W' :=
  h.keep fun r hr _ => hb.block r hr
theorem Ly.apart (h : Ly w0 pb ps os vl vo W) : (∀ g, vl.ownBlock = some g → g ≠ pb ∧ vo.ownBlock ≠ some g) ∧ (∀ g, vo.ownBlock = some g → g ≠ pb) := by
  have hh := h.head
  refine ⟨fun g hg => ⟨fun e => ?_, fun e => ?_⟩, fun g hg e => ?_⟩
  · obtain ⟨_, cur, hc⟩ := row_block h.rl hg
    rw [e, hh] at hc
    simp only [Option.some.injEq, Obj.cells.injEq] at hc
    exact absurd hc.2.1 (by decide)
  · obtain ⟨_, cur, hc⟩ := row_block h.rl hg
    obtain ⟨_, cur', hc'⟩ := row_block h.ro e
    rw [hc] at hc'
    simp only [Option.some.injEq, Obj.cells.injEq] at hc'
    exact absurd hc'.2.1 (by decide)
  · obtain ⟨_, cur, hc⟩ := row_block h.ro hg
    rw [e, hh] at hc
    simp only [Option.some.injEq, Obj.cells.injEq] at hc
    exact absurd hc.2.1 (by decide)
theorem Ly.cells (h : Ly w0 pb ps os vl vo W) : W.cell? ⟨pb, 0, none⟩ = some vl ∧ W.cell? ⟨pb, 1, none⟩ = some vo ∧ W.frozen? ⟨pb, 0, none⟩ = false ∧ W.frozen? ⟨pb, 1, none⟩ = false := by
  have hb := h.head
  refine ⟨?_, ?_, ?_, ?_⟩ <;> simp [World.cell?, World.frozen?, hb]
/-- The i-th term of the list. -/
theorem Ly.term (h : Ly w0 pb ps os vl vo W) {i : Nat} (hi : i < ps.length) : ∃ b c, vl = .slice (some ⟨b, 0, none⟩) ps.length c ∧ W.cell? ⟨b, 0 + i * 3, none⟩ = some (.int .i64 ps[i].1.v) ∧ W.cell? ⟨b, 0 + i * 3 + 1, none⟩ = some (.string ps[i].1.fn) ∧ W.cell? ⟨b, 0 + i * 3 + 2, none⟩ = some ps[i].2 := by
  obtain ⟨hl, ⟨e, h0⟩ | ⟨g, cap, cur, e, hb, hg, hc, hm, hsz, ht⟩⟩ := h.rl
  · omega
  · obtain ⟨f1, f2, f3⟩ := flatT_get ps i hi
    refine ⟨g, cap, e, ?_, ?_, ?_⟩
    · rw [← ht, List.getElem?_take, if_pos (by omega)] at f1
      rw [Nat.zero_add, cell_of_row _ _ _ _ 28 (0, 0) hg, ← f1]; simp
    · rw [← ht, List.getElem?_take, if_pos (by omega)] at f2
      rw [Nat.zero_add, cell_of_row _ _ _ _ 28 (0, 0) hg, ← f2]; simp
    · rw [← ht, List.getElem?_take, if_pos (by omega)] at f3
      rw [Nat.zero_add, cell_of_row _ _ _ _ 28 (0, 0) hg, ← f3]; simp
/-- The i-th row of places. -/
theorem Ly.own (h : Ly w0 pb ps os vl vo W) {i : Nat} (hi : i < os.length) : ∃ b c, vo = .slice (some ⟨b, 0, none⟩) os.length c ∧ W.cell? ⟨b, 0 + i, none⟩ = some os[i].1 := by
  obtain ⟨hl, ⟨e, h0⟩ | ⟨g, cap, cur, e, hb, hg, hc, hm, hsz, ht⟩⟩ := h.ro
  · omega
  · refine ⟨g, cap, e, ?_⟩
    have f : (os.map (·.1))[i]? = some os[i].1 := by simp [hi]
    rw [← ht, List.getElem?_take, if_pos (by omega)] at f
    rw [Nat.zero_add, cell_of_row _ _ _ _ 23 (0, 0) hg, ← f]; simp
end

/-- The contract of lay at a term. -/
def LayOk (w0 : World) (pb : Nat) (t : T) : Prop :=
  ∀ sl ps os vl vo W, Ly w0 pb ps os vl vo W → ArgsAt w0 sl t.args → Below w0.heap.size w0 W → ps.length + t.size.toNat ≤ 8000 →
    Calls Try.prog 51 #[.pointer (some ⟨pb, 0, none⟩), tval t sl] W fun e W' => ∃ k ps' os' vl' vo', e = .returned (iI k) ∧ Ly w0 pb ps' os' vl' vo' W' ∧ ps <+: ps' ∧ os <+: os' ∧ ps'.length = k + 1 ∧ ps'.length ≤ ps.length + t.size.toNat ∧ (∃ h : k < ps'.length, ps'[k].1 = t) ∧ Only (pbs pb vl vo) W W' ∧
      (∀ g, vl'.ownBlock = some g → vl.ownBlock = some g ∨ W.heap.size ≤ g) ∧ (∀ g, vo'.ownBlock = some g → vo.ownBlock = some g ∨ W.heap.size ≤ g) ∧ (∀ o ∈ os', o ∈ os ∨ ∀ g, o.1.ownBlock = some g → W.heap.size ≤ g)

end Go.Proofs.Ytpahgmidofacaaa

/-
  A part more in the document's list.
-/
namespace Go.Proofs.Ytpahgmidofacaaa
open Go.RowKit Go.Maps

theorem Try.info28z : (Try.prog.info? 28).map (·.size) = some 3 := by kernel_rfl
theorem row_base {W : World} {n m : Nat} {ty : TypeId} {k : Nat} {v : Value} {c : Nat} {vs : List Value} (h : W.ownsRow n ty k v c vs) (hm : m ≤ n) : W.ownsRow m ty k v c vs := by
  obtain ⟨h1, h2⟩ := h
  refine ⟨h1, ?_⟩
  rcases h2 with h2 | ⟨g, cap, cur, e, hb, r⟩
  · exact .inl h2
  · exact .inr ⟨g, cap, cur, e, by omega, r⟩

/-- A term is stored at the end of a row of terms. -/
theorem row_store {W : World} {n0 : Nat} {v : Value} {n : Nat} {xs : List Value} {z0 z1 z2 : Value} (h : W.ownsRow n0 28 3 v (n + 1) (xs ++ [z0, z1, z2])) (hl : xs.length = n * 3) (c0 c1 c2 : Value) (h1 : ∀ u ∈ [c0, c1, c2], u.oneCell' = true) :
    ∃ g c, v = .slice (some ⟨g, 0, none⟩) (n + 1) c ∧ g < W.heap.size ∧ ∃ Y, (Instr.storeAt 28 (.pointer (some ⟨g, n * 3, none⟩)) (.agg #[c0, c1, c2])).run Try.prog W = .ok () Y ∧ Y.ownsRow n0 28 3 v (n + 1) (xs ++ [c0, c1, c2]) ∧ Only [g] W Y := by
  obtain ⟨h0, ⟨e, h2⟩ | ⟨g, cap, cur, e, hb, hg, hc, hm, hsz, ht⟩⟩ := h
  · omega
  · obtain ⟨cur', g1, g2, g3, g4, g5⟩ := heap_setCells g 28 [c0, c1, c2] (n * 3) W cur hg
    refine ⟨g, cap, e, (Array.getElem?_eq_some_iff.1 hg).1, W.setCells g (n * 3) [c0, c1, c2], ?_, ⟨by simp [hl]; omega, .inr ⟨g, cap, cur', e, hb, g1, hc, hm, by rw [g2, hsz], ?_⟩⟩, g5⟩
    · refine run_storeAt_mid (P := Try.prog) W g (n * 3) 28 #[c0, c1, c2] (fun j hj => ?_) Try.info28z (all_oneCell_toArray h1)
      have hj3 : j < 3 := hj
      have hlt : n * 3 + j < cur.size := by omega
      simp [World.cell?, World.frozen?, hg, hlt]
    · apply List.ext_getElem?
      intro j
      have hsz' : cur'.size = cap * 3 := by rw [g2, hsz]
      have ht' := congrArg (fun l => l[j]?) ht
      rw [List.getElem?_take] at ht' ⊢
      by_cases hj : j < (n + 1) * 3
      · rw [if_pos hj] at ht' ⊢
        by_cases hj2 : j < n * 3
        · rw [List.getElem?_append_left (by omega)] at ht' ⊢
          rw [← ht']
          have := g3 j hj2
          simpa using this
        · obtain ⟨m, rfl⟩ : ∃ m, j = n * 3 + m := ⟨j - n * 3, by omega⟩
          have := g4 m (by simp; omega) (by omega)
          rw [List.getElem?_append_right (by omega), hl, Nat.add_sub_cancel_left]
          have hm3 : m < [c0, c1, c2].length := by simp; omega
          rw [Array.getElem?_toList, this, ← List.getElem?_eq_getElem hm3]
      · rw [if_neg hj, List.getElem?_eq_none (by simp [hl]; omega)]

section
variable {w0 : World} {pb : Nat} {ps : List (T × Value)} {os : List (Value × List Nat)} {vl vo vl' vo' ov : Value} {X Y1 Y2 Y3 Y5 Y6 : World} {t : T} {sl : Value} {ids : List Nat}

/-- A part more. -/
theorem Ly.snoc (h : Ly w0 pb ps os vl vo X) (ha : ArgsAt w0 sl t.args) (hix : Idx (ps.map (·.1)) ids t.args) (hid : ∀ j ∈ ids, j < ps.length) (hov : X.ownsRow w0.heap.size 3 1 ov ids.length (ids.map iI))
    (b1 : Below X.heap.size X Y1) (g2 : Y1.grownBy Y2 vl.ownBlock) (hb2 : vl'.ownBlock = vl.ownBlock ∨ vl'.ownBlock = some Y1.heap.size) (o3 : ∀ g, vl'.ownBlock = some g → Only [g] Y2 Y3) (hn3 : vl'.ownBlock ≠ none) (r3 : Y3.ownsRow w0.heap.size 28 3 vl' (ps.length + 1) (flatT ps ++ [.int .i64 t.v, .string t.fn, sl]))
    (b5 : Below (Y3.setCell ⟨pb, 0, none⟩ vl').heap.size (Y3.setCell ⟨pb, 0, none⟩ vl') Y5) (g6 : Y5.grownBy Y6 vo.ownBlock) (hb6 : vo'.ownBlock = vo.ownBlock ∨ vo'.ownBlock = some Y5.heap.size) (r6 : Y6.ownsRow w0.heap.size 23 1 vo' (os.length + 1) (os.map (·.1) ++ [ov])) :
    Ly w0 pb (ps ++ [(t, sl)]) (os ++ [(ov, ids)]) vl' vo' (Y6.setCell ⟨pb, 1, none⟩ vo') ∧ Only (pbs pb vl vo) X (Y6.setCell ⟨pb, 1, none⟩ vo') ∧ (∀ g, vl'.ownBlock = some g → vl.ownBlock = some g ∨ X.heap.size ≤ g) ∧ (∀ g, vo'.ownBlock = some g → vo.ownBlock = some g ∨ X.heap.size ≤ g) := by
  obtain ⟨q1, q2⟩ := h.apart
  obtain ⟨gl, hgl⟩ := Option.ne_none_iff_exists'.1 hn3
  have hpb := h.there pb (by simp)
  have s1 := b1.size
  have s2 := g2.size
  have hO3 := o3 gl hgl
  have s3 := hO3.size
  have s4 : (Y3.setCell ⟨pb, 0, none⟩ vl').heap.size = Y3.heap.size := by simp
  have s5 := b5.size
  have s6 := g6.size
  have hl' : ∀ g, vl'.ownBlock = some g → vl.ownBlock = some g ∨ X.heap.size ≤ g := fun g hg => by
    rcases hb2 with e | e
    · exact .inl (e ▸ hg)
    · rw [e] at hg; have := Option.some.inj hg; exact .inr (by omega)
  have ho' : ∀ g, vo'.ownBlock = some g → vo.ownBlock = some g ∨ X.heap.size ≤ g := fun g hg => by
    rcases hb6 with e | e
    · exact .inl (e ▸ hg)
    · rw [e] at hg; have := Option.some.inj hg; exact .inr (by omega)
  have k3 : ∀ r, r < X.heap.size → vl.ownBlock ≠ some r → Y3.heap[r]? = X.heap[r]? := fun r hr hn => by
    have e1 := b1.block r hr
    have e2 := g2.block r (by omega) (fun e => hn e.symm)
    have e3 := hO3.block r (by omega) (by
      simp
      intro e
      rcases hl' gl hgl with k | k
      · exact hn (e ▸ k)
      · omega)
    exact e3.trans (e2.trans e1)
  have k7 : ∀ r, r < X.heap.size → vl.ownBlock ≠ some r → vo.ownBlock ≠ some r → r ≠ pb → (Y6.setCell ⟨pb, 1, none⟩ vo').heap[r]? = X.heap[r]? := fun r hr h1 h2 h3 => by
    have e4 := (only_setCell Y3 pb 0 vl').block r (by omega) (by simpa using h3)
    have e5 := b5.block r (by omega)
    have e6 := g6.block r (by omega) (fun e => h2 e.symm)
    have e7 := (only_setCell Y6 pb 1 vo').block r (by omega) (by simpa using h3)
    exact e7.trans (e6.trans (e5.trans (e4.trans (k3 r hr h1))))
  have p3 : Y3.heap[pb]? = some (.cells #[vl, vo] 116 (0, 0)) := (k3 pb hpb (fun e => (q1 pb e).1 rfl)).trans h.head
  have p4 : (Y3.setCell ⟨pb, 0, none⟩ vl').heap[pb]? = some (.cells #[vl', vo] 116 (0, 0)) := by
    have := Go.heap_setCell_same Y3 pb 0 _ 116 vl' p3
    simpa using this
  have p6 : Y6.heap[pb]? = some (.cells #[vl', vo] 116 (0, 0)) := (g6.block pb (by omega) (fun e => q2 pb e.symm rfl)).trans ((b5.block pb (by omega)).trans p4)
  have p7 : (Y6.setCell ⟨pb, 1, none⟩ vo').heap[pb]? = some (.cells #[vl', vo'] 116 (0, 0)) := by
    have := Go.heap_setCell_same Y6 pb 1 _ 116 vo' p6
    simpa using this
  have hglp : gl ≠ pb := by
    rcases hl' gl hgl with k | k
    · exact (q1 gl k).1
    · omega
  obtain ⟨_, cur3, c3⟩ := row_block r3 hgl
  have lgl := (Array.getElem?_eq_some_iff.1 c3).1
  have hglo : vo.ownBlock ≠ some gl := by
    rcases hl' gl hgl with k | k
    · exact (q1 gl k).2
    · intro e
      have := h.there gl (by simp [e])
      omega
  have m7 : (Y6.setCell ⟨pb, 1, none⟩ vo').heap[gl]? = Y3.heap[gl]? := by
    have e4 := (only_setCell Y3 pb 0 vl').block gl (by omega) (by simpa using hglp)
    have e5 := b5.block gl (by omega)
    have e6 := g6.block gl (by omega) (fun e => hglo e.symm)
    have e7 := (only_setCell Y6 pb 1 vo').block gl (by omega) (by simpa using hglp)
    exact e7.trans (e6.trans (e5.trans e4))
  have hone : ∀ {g : Nat} {v : Value} {l : List Nat}, X.ownsRow w0.heap.size 3 1 v l.length (l.map iI) → v.ownBlock = some g → (Y6.setCell ⟨pb, 1, none⟩ vo').heap[g]? = X.heap[g]? := fun {g v l} hr hg => by
    obtain ⟨_, cur, hc⟩ := row_block hr hg
    have hoff := h.off hc (by decide) (by decide) (by decide)
    simp only [pbs, List.mem_cons, List.mem_append, Option.mem_toList, not_or] at hoff
    exact k7 g (Array.getElem?_eq_some_iff.1 hc).1 hoff.2.1 hoff.2.2 hoff.1
  refine ⟨⟨p7, ?_, ?_, by simp [h.len], ?_, ?_, ?_, h.low⟩, ?_, hl', ho'⟩
  · rw [flatT_snoc, List.length_append]
    exact rowL_keep r3 (fun g hg => by
      have : g = gl := Option.some.inj (hg.symm.trans hgl)
      rw [this]; exact m7)
  · rw [List.map_append, List.length_append]
    refine rowL_keep r6 (fun g hg => ?_)
    obtain ⟨_, cur, hc⟩ := row_block r6 hg
    refine (only_setCell Y6 pb 1 vo').block g (Array.getElem?_eq_some_iff.1 hc).1 ?_
    have : g ≠ pb := by
      rcases ho' g hg with k | k
      · exact q2 g k
      · omega
    simpa using this
  · intro p hp
    rcases List.mem_append.1 hp with hp | hp
    · exact h.ra p hp
    · have : p = (t, sl) := by simpa using hp
      subst this
      exact ha
  · intro o ho
    rcases List.mem_append.1 ho with ho | ho
    · exact rowL_keep (h.rw o ho) (fun g hg => hone (h.rw o ho) hg)
    · have : o = (ov, ids) := by simpa using ho
      subst this
      exact rowL_keep hov (fun g hg => hone hov hg)
  · intro i hi hi'
    by_cases hl : i < ps.length
    · have hl2 : i < os.length := by rw [h.len]; exact hl
      rw [List.getElem_append_left hl, List.getElem_append_left hl2, List.map_append]
      exact ⟨(h.ix i hl hl2).1.more, (h.ix i hl hl2).2⟩
    · have e : i = ps.length := by simp at hi; omega
      subst e
      have e2 : ps.length = os.length := h.len.symm
      have f1 : (ps ++ [(t, sl)])[ps.length] = (t, sl) := by simp
      have f2 : (os ++ [(ov, ids)])[ps.length]'hi' = (ov, ids) := by simp [e2]
      rw [f1, f2, List.map_append]
      exact ⟨hix.more, hid⟩
  · refine ⟨?_, ?_, ?_, by simp; omega, fun r hr hn => ?_⟩
    · exact g6.os.trans (b5.os.trans (hO3.os.trans (g2.os.trans b1.os)))
    · exact g6.tape.trans (b5.tape.trans (hO3.tape.trans (g2.tape.trans b1.tape)))
    · exact g6.output.trans (b5.output.trans (hO3.output.trans (g2.output.trans b1.output)))
    · simp only [pbs, List.mem_cons, List.mem_append, Option.mem_toList, not_or] at hn
      exact k7 r hr hn.2.1 hn.2.2 hn.1
end

end Go.Proofs.Ytpahgmidofacaaa

/-
  lay: what holds as the arguments are laid.
-/
namespace Go.Proofs.Ytpahgmidofacaaa
open Go.RowKit Go.Maps

theorem Ly.keep2 {w0 : World} {pb : Nat} {ps : List (T × Value)} {os : List (Value × List Nat)} {vl vo : Value} {W W' : World} (h : Ly w0 pb ps os vl vo W) (hb : ∀ r ∈ pbs pb vl vo, W'.heap[r]? = W.heap[r]?) (hr : ∀ o ∈ os, ∀ g, o.1.ownBlock = some g → W'.heap[g]? = W.heap[g]?) : Ly w0 pb ps os vl vo W' :=
  ⟨(hb pb (by simp)).trans h.head, rowL_keep h.rl (fun g hg => hb g (by simp [hg])), rowL_keep h.ro (fun g hg => hb g (by simp [hg])), h.len, h.ra, fun o ho => rowL_keep (h.rw o ho) (hr o ho), h.ix, h.low⟩

structure Lw (w0 : World) (pb : Nat) (ps : List (T × Value)) (os : List (Value × List Nat)) (vl vo : Value) (W : World) (t : T) (sl : Value) (i : Nat) (ids : List Nat) (ov : Value) (ps1 : List (T × Value)) (os1 : List (Value × List Nat)) (vl1 vo1 : Value) (X : World) : Prop where
  ly : Ly w0 pb ps1 os1 vl1 vo1 X
  tb : X.heap[W.heap.size]? = some (.cells #[.int .i64 t.v, .string t.fn, sl] 28 (0, 0))
  ow : X.ownsRow W.heap.size 3 1 ov ids.length (ids.map iI)
  ix : Idx (ps1.map (·.1)) ids (t.args.take i)
  on : Only (pbs pb vl vo) W X
  prp : ps <+: ps1
  pro : os <+: os1
  ln : ps1.length ≤ ps.length + sizs (t.args.take i)
  hvl : ∀ g, vl1.ownBlock = some g → vl.ownBlock = some g ∨ W.heap.size < g
  hvo : ∀ g, vo1.ownBlock = some g → vo.ownBlock = some g ∨ W.heap.size < g
  dj : ∀ o ∈ os1, ∀ g, o.1.ownBlock = some g → ov.ownBlock ≠ some g
  nw : ∀ o ∈ os1, o ∈ os ∨ ∀ g, o.1.ownBlock = some g → W.heap.size ≤ g
  pl : ∀ r ∈ pbs pb vl vo, r < W.heap.size

section
variable {w0 : World} {pb : Nat} {ps ps1 ps2 : List (T × Value)} {os os1 os2 : List (Value × List Nat)} {vl vo vl1 vo1 vl2 vo2 ov ov' : Value} {W X X2 X3 X4 : World} {t : T} {sl : Value} {i k : Nat} {ids : List Nat}

theorem Lw.tboff (h : Lw w0 pb ps os vl vo W t sl i ids ov ps1 os1 vl1 vo1 X) : W.heap.size ∉ pbs pb vl1 vo1 := by
  simp only [pbs, List.mem_cons, List.mem_append, Option.mem_toList, not_or]
  refine ⟨fun e => ?_, fun e => ?_, fun e => ?_⟩
  · have := h.pl pb (by simp)
    omega
  · rcases h.hvl _ e with k | k
    · have := h.pl W.heap.size (by simp [k])
      omega
    · omega
  · rcases h.hvo _ e with k | k
    · have := h.pl W.heap.size (by simp [k])
      omega
    · omega
theorem Lw.bs (h : Lw w0 pb ps os vl vo W t sl i ids ov ps1 os1 vl1 vo1 X) : ∀ r ∈ pbs pb vl1 vo1, r ∈ pbs pb vl vo ∨ W.heap.size ≤ r := by
  intro r hr
  simp only [pbs, List.mem_cons, List.mem_append, Option.mem_toList] at hr ⊢
  rcases hr with hr | hr | hr
  · exact .inl (.inl hr)
  · rcases h.hvl _ hr with k | k
    · exact .inl (.inr (.inl k))
    · exact .inr (by omega)
  · rcases h.hvo _ hr with k | k
    · exact .inl (.inr (.inr k))
    · exact .inr (by omega)
theorem Lw.below (h : Lw w0 pb ps os vl vo W t sl i ids ov ps1 os1 vl1 vo1 X) (hb : Below X.heap.size X X2) : Lw w0 pb ps os vl vo W t sl i ids ov ps1 os1 vl1 vo1 X2 :=
  ⟨h.ly.below hb, (hb.block _ (Array.getElem?_eq_some_iff.1 h.tb).1).trans h.tb, rowL_keep h.ow (fun g hg => by
    obtain ⟨_, cur, hc⟩ := row_block h.ow hg
    exact hb.block g (Array.getElem?_eq_some_iff.1 hc).1), h.ix, h.on.trans (Only.of_below (B := []) hb) (by simp), h.prp, h.pro, h.ln, h.hvl, h.hvo, h.dj, h.nw, h.pl⟩

/-- An argument more. -/
theorem Lw.next (h : Lw w0 pb ps os vl vo W t sl i ids ov ps1 os1 vl1 vo1 X) (hlt : i < t.args.length) (hL2 : Ly w0 pb ps2 os2 vl2 vo2 X2) (hp : ps1 <+: ps2) (hq : os1 <+: os2) (hl : ps2.length ≤ ps1.length + t.args[i].size.toNat) (he : ∃ h : k < ps2.length, ps2[k].1 = t.args[i])
    (ho : Only (pbs pb vl1 vo1) X X2) (hvl : ∀ g, vl2.ownBlock = some g → vl1.ownBlock = some g ∨ X.heap.size ≤ g) (hvo : ∀ g, vo2.ownBlock = some g → vo1.ownBlock = some g ∨ X.heap.size ≤ g) (hnw : ∀ o ∈ os2, o ∈ os1 ∨ ∀ g, o.1.ownBlock = some g → X.heap.size ≤ g)
    (b3 : Below X2.heap.size X2 X3) (g4 : X3.grownBy X4 ov.ownBlock) (hb4 : ov'.ownBlock = ov.ownBlock ∨ ov'.ownBlock = some X3.heap.size) (r4 : X4.ownsRow W.heap.size 3 1 ov' (ids.length + 1) (ids.map iI ++ [iI k])) :
    Lw w0 pb ps os vl vo W t sl (i + 1) (ids ++ [k]) ov' ps2 os2 vl2 vo2 X4 := by
  have hWX : W.heap.size < X.heap.size := (Array.getElem?_eq_some_iff.1 h.tb).1
  have s2 := ho.size
  have s3 := b3.size
  have s4 := g4.size
  have ht : t.args.take (i + 1) = t.args.take i ++ [t.args[i]] := List.take_succ_eq_append_getElem hlt
  have tb2 := (ho.block _ hWX h.tboff).trans h.tb
  have ovlt : ∀ g, ov.ownBlock = some g → g < X.heap.size ∧ ∃ cur, X2.heap[g]? = some (.cells cur 3 (0, 0)) := fun g hg => by
    obtain ⟨_, cur, hc⟩ := row_block h.ow hg
    have hlt := (Array.getElem?_eq_some_iff.1 hc).1
    exact ⟨hlt, cur, (ho.block g hlt (h.ly.off hc (by decide) (by decide) (by decide))).trans hc⟩
  have dj2 : ∀ o ∈ os2, ∀ g, o.1.ownBlock = some g → ov.ownBlock ≠ some g := fun o ho2 g hg e => by
    rcases hnw o ho2 with k | k
    · exact h.dj o k g hg e
    · have := k g hg
      have := (ovlt g e).1
      omega
  have ltb : ∀ o ∈ os2, ∀ g, o.1.ownBlock = some g → g < X2.heap.size := fun o ho2 g hg => by
    obtain ⟨_, cur, hc⟩ := row_block (hL2.rw o ho2) hg
    exact (Array.getElem?_eq_some_iff.1 hc).1
  obtain ⟨hk, hke⟩ := he
  obtain ⟨M, hM⟩ := hp
  refine ⟨?_, ?_, ?_, ?_, ?_, h.prp.trans ⟨M, hM⟩, h.pro.trans hq, ?_, ?_, ?_, ?_, ?_, h.pl⟩
  · refine hL2.keep2 (fun r hr => ?_) (fun o ho2 g hg => ?_)
    · have hlt2 := hL2.there r hr
      refine (g4.block r (by omega) (fun e => ?_)).trans (b3.block r hlt2)
      obtain ⟨_, cur, hc⟩ := ovlt r e.symm
      exact hL2.off hc (by decide) (by decide) (by decide) hr
    · have hlt2 := ltb o ho2 g hg
      exact (g4.block g (by omega) (fun e => dj2 o ho2 g hg e.symm)).trans (b3.block g hlt2)
  · refine ((g4.block _ (by omega) (fun e => ?_)).trans (b3.block _ (by omega))).trans tb2
    obtain ⟨_, cur, hc⟩ := ovlt _ e.symm
    rw [tb2] at hc
    simp only [Option.some.injEq, Obj.cells.injEq] at hc
    exact absurd hc.2.1 (by decide)
  · rw [List.map_append, List.length_append]
    exact r4
  · have h1 : Idx (ps2.map (·.1)) ids (t.args.take i) := by rw [← hM, List.map_append]; exact h.ix.more
    rw [ht]
    unfold Idx at h1 ⊢
    rw [List.map_append, List.map_append, h1]
    simp [hk, hke]
  · refine ((h.on.trans ho h.bs).trans (Only.of_below (B := []) b3) (by simp)).trans (Only.of_grown (B := ov.ownBlock.toList) g4 (fun r e => by simp [e])) (fun r hr => .inr ?_)
    exact (row_block h.ow (by simpa using hr)).1
  · rw [ht]
    have := h.ln
    simp only [sizs, List.map_append, List.sum_append, List.map_cons, List.map_nil, List.sum_cons, List.sum_nil] at *
    omega
  · intro g hg
    rcases hvl g hg with e | e
    · exact h.hvl g e
    · exact .inr (by omega)
  · intro g hg
    rcases hvo g hg with e | e
    · exact h.hvo g e
    · exact .inr (by omega)
  · intro o ho2 g hg e
    have := ltb o ho2 g hg
    rcases hb4 with k | k
    · exact dj2 o ho2 g hg (k ▸ e)
    · rw [k] at e
      have := Option.some.inj e
      omega
  · intro o ho2
    rcases hnw o ho2 with k | k
    · exact h.nw o k
    · exact .inr fun g hg => by have := k g hg; omega
end

end Go.Proofs.Ytpahgmidofacaaa

/-
  A part more in the document's list, whichever store came first.
-/
namespace Go.Proofs.Ytpahgmidofacaaa
open Go.RowKit Go.Maps

/-- Behind the append to the terms. -/
structure Md (w0 : World) (X : World) (pb : Nat) (vl vo vl' : Value) (n : Nat) (xs : List Value) (Z : World) : Prop where
  head : Z.heap[pb]? = some (.cells #[vl', vo] 116 (0, 0))
  row : Z.ownsRow w0.heap.size 28 3 vl' (n + 1) xs
  kp : ∀ r, r < X.heap.size → vl.ownBlock ≠ some r → r ≠ pb → Z.heap[r]? = X.heap[r]?
  sz : X.heap.size ≤ Z.heap.size
  fr : Z.os = X.os ∧ Z.tape = X.tape ∧ Z.output = X.output
  bl : ∀ g, vl'.ownBlock = some g → vl.ownBlock = some g ∨ X.heap.size ≤ g
  nn : vl'.ownBlock ≠ none

section
variable {w0 : World} {pb : Nat} {ps : List (T × Value)} {os : List (Value × List Nat)} {vl vo vl' vo' ov : Value} {X Y1 Y2 Y3 Z Y5 Y6 : World} {t : T} {sl : Value} {ids : List Nat} {xs : List Value}

theorem md_of (_hX : X.heap[pb]? = some (.cells #[vl, vo] 116 (0, 0))) (_hvl : ∀ g, vl.ownBlock = some g → g ≠ pb ∧ g < X.heap.size) (b1 : Below X.heap.size X Y1) (g2 : Y1.grownBy Y2 vl.ownBlock) {g : Nat} (hg : vl'.ownBlock = some g) (hb2 : vl'.ownBlock = vl.ownBlock ∨ vl'.ownBlock = some Y1.heap.size) {n : Nat}
    (o3 : Only [g, pb] Y2 Z) (hd : Z.heap[pb]? = some (.cells #[vl', vo] 116 (0, 0))) (r3 : Z.ownsRow w0.heap.size 28 3 vl' (n + 1) xs) : Md w0 X pb vl vo vl' n xs Z := by
  have s1 := b1.size
  have s2 := g2.size
  have s3 := o3.size
  have hl' : ∀ g, vl'.ownBlock = some g → vl.ownBlock = some g ∨ X.heap.size ≤ g := fun g hg => by
    rcases hb2 with e | e
    · exact .inl (e ▸ hg)
    · rw [e] at hg; have := Option.some.inj hg; exact .inr (by omega)
  refine ⟨hd, r3, fun r hr hn hp => ?_, by omega, ⟨o3.os.trans (g2.os.trans b1.os), o3.tape.trans (g2.tape.trans b1.tape), o3.output.trans (g2.output.trans b1.output)⟩, hl', by rw [hg]; simp⟩
  have e1 := b1.block r hr
  have e2 := g2.block r (by omega) (fun e => hn e.symm)
  refine (o3.block r (by omega) ?_).trans (e2.trans e1)
  simp only [List.mem_cons, List.not_mem_nil, or_false, not_or]
  refine ⟨fun e => ?_, hp⟩
  rcases hl' g hg with k | k
  · exact hn (e ▸ k)
  · omega

/-- A part more. -/
theorem Ly.snocM (h : Ly w0 pb ps os vl vo X) (ha : ArgsAt w0 sl t.args) (hix : Idx (ps.map (·.1)) ids t.args) (hid : ∀ j ∈ ids, j < ps.length) (hov : X.ownsRow w0.heap.size 3 1 ov ids.length (ids.map iI)) (md : Md w0 X pb vl vo vl' ps.length (flatT ps ++ [.int .i64 t.v, .string t.fn, sl]) Z)
    (b5 : Below Z.heap.size Z Y5) (g6 : Y5.grownBy Y6 vo.ownBlock) (hb6 : vo'.ownBlock = vo.ownBlock ∨ vo'.ownBlock = some Y5.heap.size) (r6 : Y6.ownsRow w0.heap.size 23 1 vo' (os.length + 1) (os.map (·.1) ++ [ov])) :
    Ly w0 pb (ps ++ [(t, sl)]) (os ++ [(ov, ids)]) vl' vo' (Y6.setCell ⟨pb, 1, none⟩ vo') ∧ Only (pbs pb vl vo) X (Y6.setCell ⟨pb, 1, none⟩ vo') ∧ (∀ g, vl'.ownBlock = some g → vl.ownBlock = some g ∨ X.heap.size ≤ g) ∧ (∀ g, vo'.ownBlock = some g → vo.ownBlock = some g ∨ X.heap.size ≤ g) := by
  obtain ⟨q1, q2⟩ := h.apart
  obtain ⟨gl, hgl⟩ := Option.ne_none_iff_exists'.1 md.nn
  have hpb := h.there pb (by simp)
  have s4 := md.sz
  have s5 := b5.size
  have s6 := g6.size
  have hl' := md.bl
  have ho' : ∀ g, vo'.ownBlock = some g → vo.ownBlock = some g ∨ X.heap.size ≤ g := fun g hg => by
    rcases hb6 with e | e
    · exact .inl (e ▸ hg)
    · rw [e] at hg; have := Option.some.inj hg; exact .inr (by omega)
  have k7 : ∀ r, r < X.heap.size → vl.ownBlock ≠ some r → vo.ownBlock ≠ some r → r ≠ pb → (Y6.setCell ⟨pb, 1, none⟩ vo').heap[r]? = X.heap[r]? := fun r hr h1 h2 h3 => by
    have e5 := b5.block r (by omega)
    have e6 := g6.block r (by omega) (fun e => h2 e.symm)
    have e7 := (only_setCell Y6 pb 1 vo').block r (by omega) (by simpa using h3)
    exact e7.trans (e6.trans (e5.trans (md.kp r hr h1 h3)))
  have p6 : Y6.heap[pb]? = some (.cells #[vl', vo] 116 (0, 0)) := (g6.block pb (by omega) (fun e => q2 pb e.symm rfl)).trans ((b5.block pb (by omega)).trans md.head)
  have p7 : (Y6.setCell ⟨pb, 1, none⟩ vo').heap[pb]? = some (.cells #[vl', vo'] 116 (0, 0)) := by
    have := Go.heap_setCell_same Y6 pb 1 _ 116 vo' p6
    simpa using this
  have hglp : gl ≠ pb := by
    rcases hl' gl hgl with k | k
    · exact (q1 gl k).1
    · omega
  obtain ⟨_, cur3, c3⟩ := row_block md.row hgl
  have lgl := (Array.getElem?_eq_some_iff.1 c3).1
  have hglo : vo.ownBlock ≠ some gl := by
    rcases hl' gl hgl with k | k
    · exact (q1 gl k).2
    · intro e
      have := h.there gl (by simp [e])
      omega
  have m7 : (Y6.setCell ⟨pb, 1, none⟩ vo').heap[gl]? = Z.heap[gl]? := by
    have e5 := b5.block gl (by omega)
    have e6 := g6.block gl (by omega) (fun e => hglo e.symm)
    have e7 := (only_setCell Y6 pb 1 vo').block gl (by omega) (by simpa using hglp)
    exact e7.trans (e6.trans e5)
  have hone : ∀ {g : Nat} {v : Value} {l : List Nat}, X.ownsRow w0.heap.size 3 1 v l.length (l.map iI) → v.ownBlock = some g → (Y6.setCell ⟨pb, 1, none⟩ vo').heap[g]? = X.heap[g]? := fun {g v l} hr hg => by
    obtain ⟨_, cur, hc⟩ := row_block hr hg
    have hoff := h.off hc (by decide) (by decide) (by decide)
    simp only [pbs, List.mem_cons, List.mem_append, Option.mem_toList, not_or] at hoff
    exact k7 g (Array.getElem?_eq_some_iff.1 hc).1 hoff.2.1 hoff.2.2 hoff.1
  refine ⟨⟨p7, ?_, ?_, by simp [h.len], ?_, ?_, ?_, h.low⟩, ?_, hl', ho'⟩
  · rw [flatT_snoc, List.length_append]
    exact rowL_keep md.row (fun g hg => by
      have : g = gl := Option.some.inj (hg.symm.trans hgl)
      rw [this]; exact m7)
  · rw [List.map_append, List.length_append]
    refine rowL_keep r6 (fun g hg => ?_)
    obtain ⟨_, cur, hc⟩ := row_block r6 hg
    refine (only_setCell Y6 pb 1 vo').block g (Array.getElem?_eq_some_iff.1 hc).1 ?_
    have : g ≠ pb := by
      rcases ho' g hg with k | k
      · exact q2 g k
      · omega
    simpa using this
  · intro p hp
    rcases List.mem_append.1 hp with hp | hp
    · exact h.ra p hp
    · have : p = (t, sl) := by simpa using hp
      subst this
      exact ha
  · intro o ho
    rcases List.mem_append.1 ho with ho | ho
    · exact rowL_keep (h.rw o ho) (fun g hg => hone (h.rw o ho) hg)
    · have : o = (ov, ids) := by simpa using ho
      subst this
      exact rowL_keep hov (fun g hg => hone hov hg)
  · intro i hi hi'
    by_cases hl : i < ps.length
    · have hl2 : i < os.length := by rw [h.len]; exact hl
      rw [List.getElem_append_left hl, List.getElem_append_left hl2, List.map_append]
      exact ⟨(h.ix i hl hl2).1.more, (h.ix i hl hl2).2⟩
    · have e : i = ps.length := by simp at hi; omega
      subst e
      have e2 : ps.length = os.length := h.len.symm
      have f1 : (ps ++ [(t, sl)])[ps.length] = (t, sl) := by simp
      have f2 : (os ++ [(ov, ids)])[ps.length]'hi' = (ov, ids) := by simp [e2]
      rw [f1, f2, List.map_append]
      exact ⟨hix.more, hid⟩
  · refine ⟨?_, ?_, ?_, by simp; omega, fun r hr hn => ?_⟩
    · exact g6.os.trans (b5.os.trans md.fr.1)
    · exact g6.tape.trans (b5.tape.trans md.fr.2.1)
    · exact g6.output.trans (b5.output.trans md.fr.2.2)
    · simp only [pbs, List.mem_cons, List.mem_append, Option.mem_toList, not_or] at hn
      exact k7 r hr hn.2.1 hn.2.2 hn.1
end

end Go.Proofs.Ytpahgmidofacaaa

/-
  lay.
-/
namespace Go.Proofs.Ytpahgmidofacaaa
open Go.RowKit Go.Maps

theorem Try.info3f : (Try.prog.info? 3).map (fun i => (i.zero, i.size, i.bytes)) = some (some (.int .i64 0), 1, 8) := by kernel_rfl
theorem Try.info28f : (Try.prog.info? 28).map (fun i => (i.zero, i.size, i.bytes)) = some (some (.agg #[.int .i64 0, .string ⟨#[]⟩, .slice none 0 0]), 3, 48) := by kernel_rfl
theorem Try.info23f : (Try.prog.info? 23).map (fun i => (i.zero, i.size, i.bytes)) = some (some (.slice none 0 0), 1, 24) := by kernel_rfl

theorem len_sizs (l : List T) : l.length ≤ sizs l := by
  induction l with
  | nil => simp [sizs]
  | cons a r ih =>
    have := size_pos a
    simp only [sizs, List.map_cons, List.sum_cons, List.length_cons] at *
    omega

set_option maxRecDepth 100000 in
set_option maxHeartbeats 2000000 in
theorem lay_one (w0 : World) (pb : Nat) (t : T) (ih : ∀ a ∈ t.args, LayOk w0 pb a) : LayOk w0 pb t := by
  intro sl ps os vl vo W hL ha hw hln
  obtain ⟨a, c, rfl, hc, hm⟩ := ha.slice
  obtain ⟨i3, hi3, hz3a, hz3b, hz3c⟩ := info_parts Try.info3f
  obtain ⟨i28, hi28, hz28a, hz28b, hz28c⟩ := info_parts Try.info28f
  obtain ⟨i23, hi23, hz23a, hz23b, hz23c⟩ := info_parts Try.info23f
  obtain ⟨W0, hW0⟩ : ∃ X, W.alloc (tbox t (.slice a t.args.length c)) = X := ⟨_, rfl⟩
  have hb0 : Below W.heap.size W W0 := by rw [← hW0]; exact below_box W _
  obtain ⟨x0, x1, x2⟩ := tbox_cells W t (.slice a t.args.length c)
  rw [hW0] at x0 x1 x2
  have htb : W0.heap[W.heap.size]? = some (.cells #[.int .i64 t.v, .string t.fn, .slice a t.args.length c] 28 (0, 0)) := by
    have := (MapKept.heap_alloc W (tbox t (.slice a t.args.length c))).1
    rw [hW0] at this
    exact this
  have HV : Hid (Lw w0 pb ps os vl vo W t (.slice a t.args.length c) 0 [] (.slice none 0 0) ps os vl vo W0) :=
    ⟨hL.below hb0, htb, ⟨rfl, .inl ⟨rfl, rfl⟩⟩, by simp [Idx], Only.of_below hb0, List.prefix_refl _, List.prefix_refl _, by simp [sizs], fun g hg => .inl hg, fun g hg => .inl hg, fun o ho g hg => by simp [Value.ownBlock], fun o ho => .inl ho, hL.there⟩
  have HA : Hid (ArgsAt w0 (.slice a t.args.length c) t.args ∧ Below w0.heap.size w0 W ∧ ps.length + t.size.toNat ≤ 8000 ∧ (∀ a ∈ t.args, LayOk w0 pb a) ∧ (∀ r ∈ pbs pb vl vo, w0.heap.size ≤ r)) := ⟨ha, hw, hln, ih, hL.lows⟩
  clear hL ha hw hln ih hb0 htb
  go_enter Try.func51, Try.ntmps51
  try rw [hW0]
  go_wp2
  try rw [hW0]
  clear x0 x1
  go_loopw [5, 6] (fun vv vi wr => ∃ (i : Nat) (oa : Option Addr) (on oc : Nat), vv = .slice oa on oc ∧ vi = .int .i64 i ∧ i ≤ t.args.length ∧ Hid (∃ ids ps1 os1 vl1 vo1, on = ids.length ∧ Lw w0 pb ps os vl vo W t (.slice a t.args.length c) i ids (.slice oa on oc) ps1 os1 vl1 vo1 wr)) (fun _ vi _ => t.args.length - (intOf vi).toNat)
  case atStart => exact ⟨0, none, 0, 0, rfl, rfl, Nat.zero_le _, [], ps, os, vl, vo, rfl, HV.out⟩
  case round =>
    obtain ⟨i, oa, on, oc, rfl, rfl, hi, HI⟩ := hrel
    obtain ⟨ids, ps1, os1, vl1, vo1, rfl, hv⟩ := HI.out
    clear HI x2
    obtain ⟨gA, gw, gln, gih, glo⟩ := HA.out
    have hwr : Below w0.heap.size w0 wr := gw.trans (hv.on.below gw.size glo)
    have x2 : wr.cell? ⟨W.heap.size, 2, none⟩ = some (.slice a t.args.length c) := by rw [cell_of_row _ _ _ _ 28 (0, 0) hv.tb]; rfl
    by_cases hlt : i < t.args.length
    · obtain ⟨b1, o1, s1, rfl, hb1, c0, c1, c2, hs⟩ := gA.nth hlt
      obtain ⟨sa, sc, rfl, _, _⟩ := hs.slice
      have d0 := kc hwr hb1 c0
      have d1 := kc hwr hb1 c1
      have d2 := kc hwr hb1 c2
      have hz := sizs_take hlt
      have hza := sizs_arg t
      have hln := hv.ln
      have hcall := gih _ (List.getElem_mem hlt) _ ps1 os1 vl1 vo1 wr hv.ly hs hwr (by omega)
      have hidl : ids.length = i := by rw [hv.ix.len, List.length_take, Nat.min_eq_left hi]
      have hcall' := hcall.mono (R' := fun e W' => ∃ k : Nat, e = .returned (.int .i64 (k : Int)) ∧ W'.ownsRow W.heap.size 3 1 (.slice oa ids.length oc) ids.length (ids.map iI) ∧ W.heap.size ≤ W'.heap.size ∧ Hid (∀ X3 X4 ov', Below W'.heap.size W' X3 → X3.grownBy X4 (Value.slice oa ids.length oc).ownBlock → (ov'.ownBlock = (Value.slice oa ids.length oc).ownBlock ∨ ov'.ownBlock = some X3.heap.size) → X4.ownsRow W.heap.size 3 1 ov' (ids.length + 1) (ids.map iI ++ [iI k]) → ∃ ids ps1 os1 vl1 vo1, ids.length = i + 1 ∧ Lw w0 pb ps os vl vo W t (.slice (some ⟨b1, o1, none⟩) t.args.length c) (i + 1) ids ov' ps1 os1 vl1 vo1 X4)) (by
        rintro e W' ⟨k, ps2, os2, vl2, vo2, he, hL2, hp2, ho2, hk2, hl2, hke, hon, hvl2, hvo2, hnw2⟩
        refine ⟨k, he, rowL_keep hv.ow (fun g hg => ?_), ?_, fun X3 X4 ov' b3 g4 hb4 r4 => ⟨ids ++ [k], ps2, os2, vl2, vo2, by simp [hidl], hv.next hlt hL2 hp2 ho2 hl2 hke hon hvl2 hvo2 hnw2 b3 g4 hb4 r4⟩⟩
        · obtain ⟨_, cur, hcc⟩ := row_block hv.ow hg
          exact hon.block g (Array.getElem?_eq_some_iff.1 hcc).1 (hv.ly.off hcc (by decide) (by decide) (by decide))
        · have := hon.size
          have := hv.on.size
          omega)
      have HN : Hid (ids.length ≤ 8000 ∧ ids.length = i) := ⟨by have := gln; have := len_sizs t.args; omega, hidl⟩
      have hil : ids.length ≤ 8000 := HN.out.1
      clear hcall hz hza hln hs c0 c1 c2 hwr gA gw gln gih glo hv HV hb1 hidl
      obtain ⟨u, hu⟩ : ∃ u, t.args[i] = u := ⟨_, rfl⟩
      rw [hu] at hcall' d0 d1 d2
      clear hu
      go_wp2_with fail
      refine hcall'.mono ?_
      rintro e W' ⟨k, rfl, hrow, hsz, HD⟩
      have hb3 := below_box W' (.cells #[.int .i64 (k : Int)] 3)
      have hrow3 : (W'.alloc (.cells #[.int .i64 (k : Int)] 3)).ownsRow W.heap.size 3 1 (.slice oa ids.length oc) ids.length (ids.map iI) := rowL_keep hrow (fun g hg => by
        obtain ⟨_, cur, hcc⟩ := row_block hrow hg
        exact hb3.block g (Array.getElem?_eq_some_iff.1 hcc).1)
      clear hrow hcall'
      go_wp2_with (first
        | (at_builtin; refine wpList_append_own_at _ rfl _ _ 23 rfl W.heap.size 3 i3 _ 1 8 Try.underlying23 hi3 hz3a hz3b hz3c rfl (by decide) _ _ _ rfl hrow3 ⟨W'.heap.size, 0, none⟩ 1 1 [.int .i64 (k : Int)] rfl rfl (fun j u hj => by { rw [Addr.add_mid, Nat.zero_add, cell_of_row _ _ _ _ 3 (0, 0) (MapKept.heap_alloc W' _).1]; simpa using hj }) (by intro u hu; obtain rfl : u = .int .i64 (k : Int) := (by simpa using hu); rfl) (by unfold maxLen; omega) (by omega) (by simp; omega) ?_; intro v' w4 hown4 hg4 hnil4 hat4; obtain ⟨a4, c4, rfl⟩ := row_slice hown4))
      have HD2 : Hid (∃ ids' ps1 os1 vl1 vo1, ids.length + 1 = ids'.length ∧ Lw w0 pb ps os vl vo W t (.slice (some ⟨b1, o1, none⟩) t.args.length c) (i + 1) ids' (.slice a4 (ids.length + 1) c4) ps1 os1 vl1 vo1 w4) := by
        obtain ⟨ids', p', o', l', v', h1, h2⟩ := HD.out _ w4 (.slice a4 (ids.length + 1) c4) hb3 hg4 hat4 hown4
        exact ⟨ids', p', o', l', v', by rw [h1, HN.out.2], h2⟩
      clear hown4 hg4 hnil4 hat4 hrow3 HD
      go_roundw
      case rel => exact ⟨i + 1, a4, ids.length + 1, c4, rfl, by go_num, by omega, HD2⟩
      case measure => simp [intOf]; omega
    · have hall : t.args.take i = t.args := List.take_of_length_le (by omega)
      have hd : Below wr.heap.size wr wr.drew := (Below.refl _ wr).drew
      have hvd := hv.below hd
      have hix := hvd.ix
      rw [hall] at hix
      have hid : ∀ j ∈ ids, j < ps1.length := fun j hj => by
        obtain ⟨m, hm, rfl⟩ := List.getElem_of_mem hj
        have := (hix.get hm (by rw [← hix.len]; exact hm)).1
        simpa using this
      have hza := sizs_arg t
      have hln := hvd.ln
      rw [hall] at hln
      obtain ⟨la, lc, rfl⟩ := row_slice hv.ly.rl
      obtain ⟨ma, mc, rfl⟩ := row_slice hv.ly.ro
      obtain ⟨n0, n1, nf0, nf1⟩ := hvd.ly.cells
      have hps : ps1.length ≤ 8000 := by omega
      have hos : os1.length ≤ 8000 := by rw [hvd.ly.len]; omega
      have htb := hvd.tb
      have q4 : ∀ X, Only (pbs pb (.slice la ps1.length lc) (.slice ma os1.length mc)) wr.drew X → X.cell? ⟨W.heap.size, 0, none⟩ = some (.int .i64 t.v) ∧ X.cell? ⟨W.heap.size, 1, none⟩ = some (.string t.fn) ∧ X.cell? ⟨W.heap.size, 2, none⟩ = some (.slice a t.args.length c) := fun X hX => ⟨cell_on hX hvd.tboff (by rw [cell_of_row _ _ _ _ 28 (0, 0) htb]; rfl), cell_on hX hvd.tboff (by rw [cell_of_row _ _ _ _ 28 (0, 0) htb]; rfl), cell_on hX hvd.tboff (by rw [cell_of_row _ _ _ _ 28 (0, 0) htb]; rfl)⟩
      have hlow0 : w0.heap.size ≤ wr.drew.heap.size := by have := gw.size; have := hvd.on.size; omega
      have hb1 := below_box wr.drew (.cells #[.int .i64 0, .string ⟨#[]⟩, .slice none 0 0] 28)
      have hrow1 : (wr.drew.alloc (.cells #[.int .i64 0, .string ⟨#[]⟩, .slice none 0 0] 28)).ownsRow w0.heap.size 28 3 (.slice la ps1.length lc) ps1.length (flatT ps1) := rowL_keep hvd.ly.rl (fun g hg => by
        obtain ⟨_, cur, hcc⟩ := row_block hvd.ly.rl hg
        exact hb1.block g (Array.getElem?_eq_some_iff.1 hcc).1)
      have HE : Hid (Lw w0 pb ps os vl vo W t (.slice a t.args.length c) i ids (.slice oa ids.length oc) ps1 os1 (.slice la ps1.length lc) (.slice ma os1.length mc) wr.drew ∧ Idx (ps1.map (·.1)) ids t.args ∧ (∀ j ∈ ids, j < ps1.length) ∧ ps1.length ≤ ps.length + sizs t.args ∧ ArgsAt w0 (.slice a t.args.length c) t.args ∧ w0.heap.size ≤ W.heap.size) := ⟨hvd, hix, hid, hln, gA, gw.size⟩
      have hlf : (flatT ps1).length = ps1.length * 3 := hvd.ly.rl.1
      obtain ⟨pl1, pl2⟩ := hvd.ly.apart
      have hpbl := hvd.ly.there pb (by simp)
      have hhd := hvd.ly.head
      -- the struct's box behind the append and the store
      have hbox : ∀ Y2 Y3 g, (wr.drew.alloc (.cells #[.int .i64 0, .string ⟨#[]⟩, .slice none 0 0] 28)).grownBy Y2 (Value.slice la ps1.length lc).ownBlock → g ≠ pb → Only [g] Y2 Y3 → Y3.heap[pb]? = some (.cells #[(.slice la ps1.length lc), (.slice ma os1.length mc)] 116 (0, 0)) := fun Y2 Y3 g g2 hne o3 => by
        have e1 := (hb1.block pb hpbl).trans hhd
        have e2 := (g2.block pb (Array.getElem?_eq_some_iff.1 e1).1 (fun e => (pl1 pb e.symm).1 rfl)).trans e1
        exact (o3.block pb (Array.getElem?_eq_some_iff.1 e2).1 (by simpa using fun e => hne e.symm)).trans e2
      clear hall hvd hix hid hza hln hv hwr gA gw gln gih glo HV htb
      go_wp2
      refine wp_region_held_drew (S := fun X => Only (pbs pb (.slice la ps1.length lc) (.slice ma os1.length mc)) wr.drew X) (by kernel_rfl) (Only.refl _ _) (fun hHeld => ?_)
      obtain ⟨Xd, hXd⟩ : ∃ X, wr.drew = X := ⟨_, rfl⟩
      rw [hXd] at hHeld q4 hb1 hrow1 HE n0 n1 nf0 nf1 hbox hpbl hhd hlow0 ⊢
      clear hXd hd
      refine take_mk 0 (.pointer (some ⟨pb, 0, none⟩)) rfl (by kernel_rfl) (by kernel_rfl) (by kernel_rfl) (fun _ _ _ h => h) (Or.inl ⟨by rfl, fun X hX => by go_simp⟩) (by assumption) ?_
      try simp only [Act.put, List.setIfInBounds_toArray, List.set_cons_zero, List.set_cons_succ]
      refine take_mk 1 (.pointer (some ⟨pb, 0, none⟩)) rfl (by kernel_rfl) (by kernel_rfl) (by kernel_rfl) (fun _ _ _ h => h) (Or.inl ⟨by rfl, fun X hX => by go_simp⟩) (by assumption) ?_
      try simp only [Act.put, List.setIfInBounds_toArray, List.set_cons_zero, List.set_cons_succ]
      refine take_mk 2 (.pointer (some ⟨pb, 0, none⟩)) rfl (by kernel_rfl) (by kernel_rfl) (by kernel_rfl) (fun _ _ _ h => h) (Or.inl ⟨by rfl, fun X hX => by go_simp⟩) (by assumption) ?_
      try simp only [Act.put, List.setIfInBounds_toArray, List.set_cons_zero, List.set_cons_succ]
      refine take_mk 4 (tval t (.slice a t.args.length c)) rfl (by kernel_rfl) (by kernel_rfl) (by kernel_rfl) (fun _ _ _ h => h) (Or.inl ⟨by rfl, fun X hX => by obtain ⟨y0, y1, y2⟩ := q4 X hX; go_simp⟩) (by assumption) ?_
      try simp only [Act.put, List.setIfInBounds_toArray, List.set_cons_zero, List.set_cons_succ]
      refine wpAnyH_ready (rs := [3, 6]) (by kernel_rfl) (by simp) (AllReadyH.cons (o := ⟨_, _, _, _, _, _⟩) rfl (fun K hK => ?_) (AllReadyH.cons (o := ⟨_, _, _, _, _, _⟩) rfl (fun K hK => ?_) AllReadyH.nil))
      · rw [if_pos (by rfl)]
        go_simp
        refine hK.out _ _ (Only.refl _ _) (fun _ => ?_)
        clear hK K
        try simp only [Act.put, List.setIfInBounds_toArray, List.set_cons_zero, List.set_cons_succ]
        refine take_mk 5 (.int .i64 (ps1.length : Int)) rfl (by kernel_rfl) (by kernel_rfl) (by kernel_rfl) (fun _ _ _ h => h) (Or.inl ⟨by rfl, fun X hX => by go_simp⟩) (by assumption) ?_
        try simp only [Act.put, List.setIfInBounds_toArray, List.set_cons_zero, List.set_cons_succ]
        refine wpAnyH_ready (rs := [6]) (by kernel_rfl) (by simp) (AllReadyH.cons (o := ⟨_, _, _, _, _, _⟩) rfl (fun K hK => ?_) AllReadyH.nil)
        rw [if_pos (by rfl)]
        go_simp
        refine hK.out _ _ (Only.of_below hb1) (fun _ => ?_)
        clear hK K
        try simp only [Act.put, List.setIfInBounds_toArray, List.set_cons_zero, List.set_cons_succ]
        refine wpAnyH_ready (rs := [7]) (by kernel_rfl) (by simp) (AllReadyH.cons (o := ⟨_, _, _, _, _, _⟩) rfl (fun K hK => ?_) AllReadyH.nil)
        refine step_append_own (Xd.alloc (.cells #[.int .i64 0, .string ⟨#[]⟩, .slice none 0 0] 28)) rfl (.tmp 27) (.tmp 30) 26 rfl w0.heap.size 28 i28 _ 3 48 Try.underlying26 hi28 hz28a hz28b hz28c rfl (by decide) (.slice la ps1.length lc) ps1.length (flatT ps1) rfl hrow1 ⟨Xd.heap.size, 0, none⟩ 1 1 [.int .i64 0, .string ⟨#[]⟩, .slice none 0 0] rfl rfl (fun j y hj => by rw [Addr.add_mid, Nat.zero_add, cell_of_row _ _ _ _ 28 (0, 0) (MapKept.heap_alloc Xd _).1]; simpa using hj) (by intro y hy; simp only [List.mem_cons, List.not_mem_nil, or_false] at hy; rcases hy with rfl | rfl | rfl <;> rfl) (by unfold maxLen; omega) (by omega) (by simp; omega) ?_
        intro v' Y2 r2 g2 hb2
        obtain ⟨g, c2, rfl, hgl, Y3, hrun, r3, o3⟩ := row_store r2 hlf (.int .i64 t.v) (.string t.fn) (.slice a t.args.length c) (by intro y hy; simp only [List.mem_cons, List.not_mem_nil, or_false] at hy; rcases hy with rfl | rfl | rfl <;> rfl)
        have hgp : g ≠ pb := by
          rcases hb2 with e | e
          · exact (pl1 g (e ▸ rfl)).1
          · have : g = _ := Option.some.inj e
            simp at this
            omega
        have hb3 := hbox Y2 Y3 g g2 hgp o3
        have hO2 : Only (pbs pb (.slice la ps1.length lc) (.slice ma os1.length mc)) Xd Y2 := (Only.of_below (B := pbs pb (.slice la ps1.length lc) (.slice ma os1.length mc)) hb1).trans (Only.of_grown (B := pbs pb (.slice la ps1.length lc) (.slice ma os1.length mc)) g2 (fun r e => by simp [pbs, e])) (fun r hr => .inl hr)
        have hO3 : Only (pbs pb (.slice la ps1.length lc) (.slice ma os1.length mc)) Xd Y3 := hO2.trans o3 (fun r hr => by
          have : r = g := by simpa using hr
          subst this
          rcases hb2 with e | e
          · exact .inl (by simp only [pbs, List.mem_cons, List.mem_append, Option.mem_toList]; exact .inr (.inl e.symm))
          · have : r = _ := Option.some.inj e
            exact .inr (by simp at this; omega))
        refine hK.out _ _ hO2 (fun _ => ?_)
        clear hK K
        try simp only [Act.put, List.setIfInBounds_toArray, List.set_cons_zero, List.set_cons_succ]
        refine take_mk 8 (.pointer (some ⟨g, ps1.length * 3, none⟩)) rfl (by kernel_rfl) (by kernel_rfl) (by kernel_rfl) (fun _ _ _ h => h) (Or.inl ⟨by rfl, fun X hX => by go_simp; intro hh; exact absurd hh (by omega)⟩) (by assumption) ?_
        try simp only [Act.put, List.setIfInBounds_toArray, List.set_cons_zero, List.set_cons_succ]
        refine take_mk 10 (.pointer (some ⟨pb, 0, none⟩)) rfl (by kernel_rfl) (by kernel_rfl) (by kernel_rfl) (fun _ _ _ h => h) (Or.inl ⟨by rfl, fun X hX => by go_simp⟩) (by assumption) ?_
        try simp only [Act.put, List.setIfInBounds_toArray, List.set_cons_zero, List.set_cons_succ]
        refine take_mk 11 (.pointer (some ⟨pb, 0, none⟩)) rfl (by kernel_rfl) (by kernel_rfl) (by kernel_rfl) (fun _ _ _ h => h) (Or.inl ⟨by rfl, fun X hX => by go_simp⟩) (by assumption) ?_
        try simp only [Act.put, List.setIfInBounds_toArray, List.set_cons_zero, List.set_cons_succ]
        refine wpAnyH_ready (rs := [9, 12]) (by kernel_rfl) (by simp) (AllReadyH.cons (o := ⟨_, _, _, _, _, _⟩) rfl (fun K hK => ?_) (AllReadyH.cons (o := ⟨_, _, _, _, _, _⟩) rfl (fun K hK => ?_) AllReadyH.nil))
        · rw [if_pos (by rfl)]
          refine wp_store_run 28 _ _ rfl (.pointer (some ⟨g, ps1.length * 3, none⟩)) (tval t (.slice a t.args.length c)) rfl rfl hrun ?_
          refine hK.out _ _ hO3 (fun _ => ?_)
          clear hK K
          try simp only [Act.put]
          refine wpAnyH_ready (rs := [12]) (by kernel_rfl) (by simp) (AllReadyH.cons (o := ⟨_, _, _, _, _, _⟩) rfl (fun K hK => ?_) AllReadyH.nil)
          have z0 : Y3.cell? ⟨pb, 0, none⟩ = some (.slice la ps1.length lc) := by simp [World.cell?, hb3]
          have zf : Y3.frozen? ⟨pb, 0, none⟩ = false := by simp [World.frozen?, hb3]
          rw [if_pos (by rfl)]
          go_simp
          obtain ⟨Z, hZ⟩ : ∃ Z, Y3.setCell ⟨pb, 0, none⟩ (.slice (some ⟨g, 0, none⟩) (ps1.length + 1) c2) = Z := ⟨_, rfl⟩
          have hM : Md w0 Xd pb (.slice la ps1.length lc) (.slice ma os1.length mc) (.slice (some ⟨g, 0, none⟩) (ps1.length + 1) c2) ps1.length (flatT ps1 ++ [.int .i64 t.v, .string t.fn, .slice a t.args.length c]) Z := by
            have hd : Z.heap[pb]? = some (.cells #[(.slice (some ⟨g, 0, none⟩) (ps1.length + 1) c2), (.slice ma os1.length mc)] 116 (0, 0)) := by
              rw [← hZ]
              have := Go.heap_setCell_same Y3 pb 0 _ 116 (.slice (some ⟨g, 0, none⟩) (ps1.length + 1) c2) hb3
              simpa using this
            have oz := only_setCell Y3 pb 0 (.slice (some ⟨g, 0, none⟩) (ps1.length + 1) c2)
            rw [hZ] at oz
            refine md_of hhd (fun g hg => ⟨(pl1 g hg).1, HE.out.1.ly.there g (by simp [hg])⟩) hb1 g2 (g := g) rfl hb2 ((show Only [g, pb] Y2 Y3 from ⟨o3.os, o3.tape, o3.output, o3.size, fun k hk hn => o3.block k hk (by simp at hn ⊢; exact hn.1)⟩).trans oz (fun r hr => .inl (by simp at hr; simp [hr]))) hd (rowL_keep r3 (fun g' hg' => oz.block g' ?_ ?_))
            · obtain ⟨_, cur, hcc⟩ := row_block r3 hg'
              exact (Array.getElem?_eq_some_iff.1 hcc).1
            · have : g' = g := (Option.some.inj hg').symm
              subst this
              simpa using hgp
          refine hK.out _ _ (hO3.trans (only_setCell Y3 pb 0 _) (fun r hr => .inl (List.mem_cons.2 (.inl (List.mem_singleton.1 hr))))) (fun _ => ?_)
          rw [hZ]
          clear hK K hZ z0 zf
          refine wpAnyH_done (by kernel_rfl) ?_ _
          try simp only [Act.put]
          have HM : Hid (Md w0 Xd pb (.slice la ps1.length lc) (.slice ma os1.length mc) (.slice (some ⟨g, 0, none⟩) (ps1.length + 1) c2) ps1.length (flatT ps1 ++ [.int .i64 t.v, .string t.fn, .slice a t.args.length c]) Z) := hM
          have c0 : Z.cell? ⟨pb, 0, none⟩ = some (.slice (some ⟨g, 0, none⟩) (ps1.length + 1) c2) := by have := hM.head; simp [World.cell?, this]
          have c1 : Z.cell? ⟨pb, 1, none⟩ = some (.slice ma os1.length mc) := by have := hM.head; simp [World.cell?, this]
          have hb7 := below_box Z (.cells #[(.slice oa ids.length oc)] 23)
          have hrow7 : (Z.alloc (.cells #[(.slice oa ids.length oc)] 23)).ownsRow w0.heap.size 23 1 (.slice ma os1.length mc) os1.length (os1.map (·.1)) := rowL_keep HE.out.1.ly.ro (fun g' hg' => by
            obtain ⟨_, cur, hcc⟩ := row_block HE.out.1.ly.ro hg'
            have hlt' := (Array.getElem?_eq_some_iff.1 hcc).1
            exact (hb7.block g' (Nat.lt_of_lt_of_le hlt' hM.sz)).trans (hM.kp g' hlt' (fun e => (pl1 g' e).2 hg') (pl2 g' hg')))
          have hlz : w0.heap.size ≤ Z.heap.size := Nat.le_trans hlow0 hM.sz
          have HP : Hid (∀ Y6 vo', (Z.alloc (.cells #[(.slice oa ids.length oc)] 23)).grownBy Y6 (Value.slice ma os1.length mc).ownBlock → Y6.heap[pb]? = some (.cells #[(.slice (some ⟨g, 0, none⟩) (ps1.length + 1) c2), (.slice ma os1.length mc)] 116 (0, 0)) ∧ (Y6.setCell ⟨pb, 1, none⟩ vo').heap[pb]? = some (.cells #[(.slice (some ⟨g, 0, none⟩) (ps1.length + 1) c2), vo'] 116 (0, 0))) := fun Y6 vo' g6 => by
            have e1 := (hb7.block pb (Array.getElem?_eq_some_iff.1 hM.head).1).trans hM.head
            have e2 := (g6.block pb (Array.getElem?_eq_some_iff.1 e1).1 (fun e => pl2 pb e.symm rfl)).trans e1
            have := Go.heap_setCell_same Y6 pb 1 _ 116 vo' e2
            exact ⟨e2, by simpa using this⟩
          clear hM r2 g2 hb2 r3 o3 hrun hgl hO2 hO3 hb3 q4 hbox hrow1 hb1 hHeld hhd hpbl n0 n1 nf0 nf1
          go_wp2_with (first
            | (at_builtin; refine wpList_append_own_at _ rfl _ _ 114 rfl w0.heap.size 23 i23 _ 1 24 Try.underlying114 hi23 hz23a hz23b hz23c rfl (by decide) _ _ _ rfl hrow7 ⟨Z.heap.size, 0, none⟩ 1 1 [(.slice oa ids.length oc)] rfl rfl (fun j u hj => by { rw [Addr.add_mid, Nat.zero_add, cell_of_row _ _ _ _ 23 (0, 0) (MapKept.heap_alloc Z _).1]; simpa using hj }) (by intro u hu; obtain rfl : u = (.slice oa ids.length oc) := (by simpa using hu); rfl) (by unfold maxLen; omega) (by omega) (by simp; omega) ?_; intro v6 Y6 r6 g6 hnil6 hb6; obtain ⟨a6, c6, rfl⟩ := row_slice r6; obtain ⟨u1, u2⟩ := HP.out Y6 (.slice a6 (os1.length + 1) c6) g6; have y1 : Y6.cell? ⟨pb, 1, none⟩ = some (.slice ma os1.length mc) := (by simp [World.cell?, u1]); have yf : Y6.frozen? ⟨pb, 1, none⟩ = false := (by simp [World.frozen?, u1]); have y0 : Y6.cell? ⟨pb, 0, none⟩ = some (.slice (some ⟨g, 0, none⟩) (ps1.length + 1) c2) := (by simp [World.cell?, u1])))
          go_ret
          have hsz := sizs_arg t
          obtain ⟨e1, e2, e3, e4, e5, e6⟩ := HE.out
          have hWX := e1.on.size
          obtain ⟨w1, w2, w3, w4⟩ := e1.ly.snocM e5 e2 e3 (row_base e1.ow e6) HM.out hb7 g6 hb6 r6
          refine ⟨ps1.length, _, _, _, _, rfl, w1, e1.prp.trans (List.prefix_append _ _), e1.pro.trans (List.prefix_append _ _), by simp, by simp; omega, ⟨by simp, by simp⟩, e1.on.trans w2 e1.bs, fun g' hg' => ?_, fun g' hg' => ?_, fun o ho => ?_⟩
          · rcases w3 g' hg' with k | k
            · rcases e1.hvl g' k with k | k
              · exact .inl k
              · exact .inr (by omega)
            · exact .inr (by omega)
          · rcases w4 g' hg' with k | k
            · rcases e1.hvo g' k with k | k
              · exact .inl k
              · exact .inr (by omega)
            · exact .inr (by omega)
          · rcases List.mem_append.1 ho with ho | ho
            · exact e1.nw o ho
            · obtain rfl : o = ((.slice oa ids.length oc), ids) := by simpa using ho
              exact .inr fun g' hg' => (row_block e1.ow hg').1
        · have hb2h : Y2.heap[pb]? = some (.cells #[(.slice la ps1.length lc), (.slice ma os1.length mc)] 116 (0, 0)) := hbox Y2 Y2 g g2 hgp (Only.refl _ _)
          have z0 : Y2.cell? ⟨pb, 0, none⟩ = some (.slice la ps1.length lc) := by simp [World.cell?, hb2h]
          have zf : Y2.frozen? ⟨pb, 0, none⟩ = false := by simp [World.frozen?, hb2h]
          rw [if_pos (by rfl)]
          go_simp
          obtain ⟨Z1, hZ1⟩ : ∃ Z, Y2.setCell ⟨pb, 0, none⟩ (.slice (some ⟨g, 0, none⟩) (ps1.length + 1) c2) = Z := ⟨_, rfl⟩
          have hd1 : Z1.heap[pb]? = some (.cells #[(.slice (some ⟨g, 0, none⟩) (ps1.length + 1) c2), (.slice ma os1.length mc)] 116 (0, 0)) := by
            rw [← hZ1]
            have := Go.heap_setCell_same Y2 pb 0 _ 116 (.slice (some ⟨g, 0, none⟩) (ps1.length + 1) c2) hb2h
            simpa using this
          have oz := only_setCell Y2 pb 0 (.slice (some ⟨g, 0, none⟩) (ps1.length + 1) c2)
          rw [hZ1] at oz
          have r2z : Z1.ownsRow w0.heap.size 28 3 (.slice (some ⟨g, 0, none⟩) (ps1.length + 1) c2) (ps1.length + 1) (flatT ps1 ++ [.int .i64 0, .string ⟨#[]⟩, .slice none 0 0]) := rowL_keep r2 (fun g' hg' => oz.block g' (by obtain ⟨_, cur, hcc⟩ := row_block r2 hg'; exact (Array.getElem?_eq_some_iff.1 hcc).1) (by have : g' = g := (Option.some.inj hg').symm; subst this; simpa using hgp))
          obtain ⟨g', c', he', _, Z, hrunz, rz, ozz⟩ := row_store r2z hlf (.int .i64 t.v) (.string t.fn) (.slice a t.args.length c) (by intro y hy; simp only [List.mem_cons, List.not_mem_nil, or_false] at hy; rcases hy with rfl | rfl | rfl <;> rfl)
          obtain rfl : g = g' := by have := (Value.slice.inj he').1; simpa using this
          have hM : Md w0 Xd pb (.slice la ps1.length lc) (.slice ma os1.length mc) (.slice (some ⟨g, 0, none⟩) (ps1.length + 1) c2) ps1.length (flatT ps1 ++ [.int .i64 t.v, .string t.fn, .slice a t.args.length c]) Z := md_of hhd (fun g hg => ⟨(pl1 g hg).1, HE.out.1.ly.there g (by simp [hg])⟩) hb1 g2 (g := g) rfl hb2 ((show Only [g, pb] Y2 Z1 from ⟨oz.os, oz.tape, oz.output, oz.size, fun k hk hn => oz.block k hk (by simp at hn ⊢; exact hn.2)⟩).trans ozz (fun r hr => .inl (by simp at hr; simp [hr]))) ((ozz.block pb (Array.getElem?_eq_some_iff.1 hd1).1 (by simpa using fun e => hgp e.symm)).trans hd1) rz
          have hOz : Only (pbs pb (.slice la ps1.length lc) (.slice ma os1.length mc)) Xd Z1 := hO2.trans oz (fun r hr => .inl (List.mem_cons.2 (.inl (List.mem_singleton.1 hr))))
          refine hK.out _ _ (by rw [hZ1]; exact hOz) (fun _ => ?_)
          rw [hZ1]
          clear hK K hZ1 z0 zf
          try simp only [Act.put, List.setIfInBounds_toArray, List.set_cons_zero, List.set_cons_succ]
          refine wpAnyH_ready (rs := [9]) (by kernel_rfl) (by simp) (AllReadyH.cons (o := ⟨_, _, _, _, _, _⟩) rfl (fun K hK => ?_) AllReadyH.nil)
          rw [if_pos (by rfl)]
          refine wp_store_run 28 _ _ rfl (.pointer (some ⟨g, ps1.length * 3, none⟩)) (tval t (.slice a t.args.length c)) rfl rfl hrunz ?_
          refine hK.out _ _ (hOz.trans ozz (fun r hr => by
            have : r = g := by simpa using hr
            subst this
            rcases hb2 with e | e
            · exact .inl (by simp only [pbs, List.mem_cons, List.mem_append, Option.mem_toList]; exact .inr (.inl e.symm))
            · have : r = _ := Option.some.inj e
              exact .inr (by simp at this; omega))) (fun _ => ?_)
          clear hK K
          refine wpAnyH_done (by kernel_rfl) ?_ _
          try simp only [Act.put]
          have HM : Hid (Md w0 Xd pb (.slice la ps1.length lc) (.slice ma os1.length mc) (.slice (some ⟨g, 0, none⟩) (ps1.length + 1) c2) ps1.length (flatT ps1 ++ [.int .i64 t.v, .string t.fn, .slice a t.args.length c]) Z) := hM
          have c0 : Z.cell? ⟨pb, 0, none⟩ = some (.slice (some ⟨g, 0, none⟩) (ps1.length + 1) c2) := by have := hM.head; simp [World.cell?, this]
          have c1 : Z.cell? ⟨pb, 1, none⟩ = some (.slice ma os1.length mc) := by have := hM.head; simp [World.cell?, this]
          have hb7 := below_box Z (.cells #[(.slice oa ids.length oc)] 23)
          have hrow7 : (Z.alloc (.cells #[(.slice oa ids.length oc)] 23)).ownsRow w0.heap.size 23 1 (.slice ma os1.length mc) os1.length (os1.map (·.1)) := rowL_keep HE.out.1.ly.ro (fun g' hg' => by
            obtain ⟨_, cur, hcc⟩ := row_block HE.out.1.ly.ro hg'
            have hlt' := (Array.getElem?_eq_some_iff.1 hcc).1
            exact (hb7.block g' (Nat.lt_of_lt_of_le hlt' hM.sz)).trans (hM.kp g' hlt' (fun e => (pl1 g' e).2 hg') (pl2 g' hg')))
          have hlz : w0.heap.size ≤ Z.heap.size := Nat.le_trans hlow0 hM.sz
          have HP : Hid (∀ Y6 vo', (Z.alloc (.cells #[(.slice oa ids.length oc)] 23)).grownBy Y6 (Value.slice ma os1.length mc).ownBlock → Y6.heap[pb]? = some (.cells #[(.slice (some ⟨g, 0, none⟩) (ps1.length + 1) c2), (.slice ma os1.length mc)] 116 (0, 0)) ∧ (Y6.setCell ⟨pb, 1, none⟩ vo').heap[pb]? = some (.cells #[(.slice (some ⟨g, 0, none⟩) (ps1.length + 1) c2), vo'] 116 (0, 0))) := fun Y6 vo' g6 => by
            have e1 := (hb7.block pb (Array.getElem?_eq_some_iff.1 hM.head).1).trans hM.head
            have e2 := (g6.block pb (Array.getElem?_eq_some_iff.1 e1).1 (fun e => pl2 pb e.symm rfl)).trans e1
            have := Go.heap_setCell_same Y6 pb 1 _ 116 vo' e2
            exact ⟨e2, by simpa using this⟩
          clear hM r2 g2 hb2 r3 o3 hrun hgl hO2 hO3 hb3 q4 hbox hrow1 hb1 hHeld hhd hpbl n0 n1 nf0 nf1
          go_wp2_with (first
            | (at_builtin; refine wpList_append_own_at _ rfl _ _ 114 rfl w0.heap.size 23 i23 _ 1 24 Try.underlying114 hi23 hz23a hz23b hz23c rfl (by decide) _ _ _ rfl hrow7 ⟨Z.heap.size, 0, none⟩ 1 1 [(.slice oa ids.length oc)] rfl rfl (fun j u hj => by { rw [Addr.add_mid, Nat.zero_add, cell_of_row _ _ _ _ 23 (0, 0) (MapKept.heap_alloc Z _).1]; simpa using hj }) (by intro u hu; obtain rfl : u = (.slice oa ids.length oc) := (by simpa using hu); rfl) (by unfold maxLen; omega) (by omega) (by simp; omega) ?_; intro v6 Y6 r6 g6 hnil6 hb6; obtain ⟨a6, c6, rfl⟩ := row_slice r6; obtain ⟨u1, u2⟩ := HP.out Y6 (.slice a6 (os1.length + 1) c6) g6; have y1 : Y6.cell? ⟨pb, 1, none⟩ = some (.slice ma os1.length mc) := (by simp [World.cell?, u1]); have yf : Y6.frozen? ⟨pb, 1, none⟩ = false := (by simp [World.frozen?, u1]); have y0 : Y6.cell? ⟨pb, 0, none⟩ = some (.slice (some ⟨g, 0, none⟩) (ps1.length + 1) c2) := (by simp [World.cell?, u1])))
          go_ret
          have hsz := sizs_arg t
          obtain ⟨e1, e2, e3, e4, e5, e6⟩ := HE.out
          have hWX := e1.on.size
          obtain ⟨w1, w2, w3, w4⟩ := e1.ly.snocM e5 e2 e3 (row_base e1.ow e6) HM.out hb7 g6 hb6 r6
          refine ⟨ps1.length, _, _, _, _, rfl, w1, e1.prp.trans (List.prefix_append _ _), e1.pro.trans (List.prefix_append _ _), by simp, by simp; omega, ⟨by simp, by simp⟩, e1.on.trans w2 e1.bs, fun g' hg' => ?_, fun g' hg' => ?_, fun o ho => ?_⟩
          · rcases w3 g' hg' with k | k
            · rcases e1.hvl g' k with k | k
              · exact .inl k
              · exact .inr (by omega)
            · exact .inr (by omega)
          · rcases w4 g' hg' with k | k
            · rcases e1.hvo g' k with k | k
              · exact .inl k
              · exact .inr (by omega)
            · exact .inr (by omega)
          · rcases List.mem_append.1 ho with ho | ho
            · exact e1.nw o ho
            · obtain rfl : o = ((.slice oa ids.length oc), ids) := by simpa using ho
              exact .inr fun g' hg' => (row_block e1.ow hg').1
      · rw [if_pos (by rfl)]
        go_simp
        refine hK.out _ _ (Only.of_below hb1) (fun _ => ?_)
        clear hK K
        try simp only [Act.put, List.setIfInBounds_toArray, List.set_cons_zero, List.set_cons_succ]
        refine wpAnyH_ready (rs := [3]) (by kernel_rfl) (by simp) (AllReadyH.cons (o := ⟨_, _, _, _, _, _⟩) rfl (fun K hK => ?_) AllReadyH.nil)
        have n0' := kc hb1 hpbl n0
        rw [if_pos (by rfl)]
        go_simp
        refine hK.out _ _ (Only.of_below hb1) (fun _ => ?_)
        clear hK K
        try simp only [Act.put, List.setIfInBounds_toArray, List.set_cons_zero, List.set_cons_succ]
        refine take_mk 5 (.int .i64 (ps1.length : Int)) rfl (by kernel_rfl) (by kernel_rfl) (by kernel_rfl) (fun _ _ _ h => h) (Or.inl ⟨by rfl, fun X hX => by go_simp⟩) (by assumption) ?_
        try simp only [Act.put, List.setIfInBounds_toArray, List.set_cons_zero, List.set_cons_succ]
        refine wpAnyH_ready (rs := [7]) (by kernel_rfl) (by simp) (AllReadyH.cons (o := ⟨_, _, _, _, _, _⟩) rfl (fun K hK => ?_) AllReadyH.nil)
        refine step_append_own (Xd.alloc (.cells #[.int .i64 0, .string ⟨#[]⟩, .slice none 0 0] 28)) rfl (.tmp 27) (.tmp 30) 26 rfl w0.heap.size 28 i28 _ 3 48 Try.underlying26 hi28 hz28a hz28b hz28c rfl (by decide) (.slice la ps1.length lc) ps1.length (flatT ps1) rfl hrow1 ⟨Xd.heap.size, 0, none⟩ 1 1 [.int .i64 0, .string ⟨#[]⟩, .slice none 0 0] rfl rfl (fun j y hj => by rw [Addr.add_mid, Nat.zero_add, cell_of_row _ _ _ _ 28 (0, 0) (MapKept.heap_alloc Xd _).1]; simpa using hj) (by intro y hy; simp only [List.mem_cons, List.not_mem_nil, or_false] at hy; rcases hy with rfl | rfl | rfl <;> rfl) (by unfold maxLen; omega) (by omega) (by simp; omega) ?_
        intro v' Y2 r2 g2 hb2
        obtain ⟨g, c2, rfl, hgl, Y3, hrun, r3, o3⟩ := row_store r2 hlf (.int .i64 t.v) (.string t.fn) (.slice a t.args.length c) (by intro y hy; simp only [List.mem_cons, List.not_mem_nil, or_false] at hy; rcases hy with rfl | rfl | rfl <;> rfl)
        have hgp : g ≠ pb := by
          rcases hb2 with e | e
          · exact (pl1 g (e ▸ rfl)).1
          · have : g = _ := Option.some.inj e
            simp at this
            omega
        have hb3 := hbox Y2 Y3 g g2 hgp o3
        have hO2 : Only (pbs pb (.slice la ps1.length lc) (.slice ma os1.length mc)) Xd Y2 := (Only.of_below (B := pbs pb (.slice la ps1.length lc) (.slice ma os1.length mc)) hb1).trans (Only.of_grown (B := pbs pb (.slice la ps1.length lc) (.slice ma os1.length mc)) g2 (fun r e => by simp [pbs, e])) (fun r hr => .inl hr)
        have hO3 : Only (pbs pb (.slice la ps1.length lc) (.slice ma os1.length mc)) Xd Y3 := hO2.trans o3 (fun r hr => by
          have : r = g := by simpa using hr
          subst this
          rcases hb2 with e | e
          · exact .inl (by simp only [pbs, List.mem_cons, List.mem_append, Option.mem_toList]; exact .inr (.inl e.symm))
          · have : r = _ := Option.some.inj e
            exact .inr (by simp at this; omega))
        refine hK.out _ _ hO2 (fun _ => ?_)
        clear hK K
        try simp only [Act.put, List.setIfInBounds_toArray, List.set_cons_zero, List.set_cons_succ]
        refine take_mk 8 (.pointer (some ⟨g, ps1.length * 3, none⟩)) rfl (by kernel_rfl) (by kernel_rfl) (by kernel_rfl) (fun _ _ _ h => h) (Or.inl ⟨by rfl, fun X hX => by go_simp; intro hh; exact absurd hh (by omega)⟩) (by assumption) ?_
        try simp only [Act.put, List.setIfInBounds_toArray, List.set_cons_zero, List.set_cons_succ]
        refine take_mk 10 (.pointer (some ⟨pb, 0, none⟩)) rfl (by kernel_rfl) (by kernel_rfl) (by kernel_rfl) (fun _ _ _ h => h) (Or.inl ⟨by rfl, fun X hX => by go_simp⟩) (by assumption) ?_
        try simp only [Act.put, List.setIfInBounds_toArray, List.set_cons_zero, List.set_cons_succ]
        refine take_mk 11 (.pointer (some ⟨pb, 0, none⟩)) rfl (by kernel_rfl) (by kernel_rfl) (by kernel_rfl) (fun _ _ _ h => h) (Or.inl ⟨by rfl, fun X hX => by go_simp⟩) (by assumption) ?_
        try simp only [Act.put, List.setIfInBounds_toArray, List.set_cons_zero, List.set_cons_succ]
        refine wpAnyH_ready (rs := [9, 12]) (by kernel_rfl) (by simp) (AllReadyH.cons (o := ⟨_, _, _, _, _, _⟩) rfl (fun K hK => ?_) (AllReadyH.cons (o := ⟨_, _, _, _, _, _⟩) rfl (fun K hK => ?_) AllReadyH.nil))
        · rw [if_pos (by rfl)]
          refine wp_store_run 28 _ _ rfl (.pointer (some ⟨g, ps1.length * 3, none⟩)) (tval t (.slice a t.args.length c)) rfl rfl hrun ?_
          refine hK.out _ _ hO3 (fun _ => ?_)
          clear hK K
          try simp only [Act.put]
          refine wpAnyH_ready (rs := [12]) (by kernel_rfl) (by simp) (AllReadyH.cons (o := ⟨_, _, _, _, _, _⟩) rfl (fun K hK => ?_) AllReadyH.nil)
          have z0 : Y3.cell? ⟨pb, 0, none⟩ = some (.slice la ps1.length lc) := by simp [World.cell?, hb3]
          have zf : Y3.frozen? ⟨pb, 0, none⟩ = false := by simp [World.frozen?, hb3]
          rw [if_pos (by rfl)]
          go_simp
          obtain ⟨Z, hZ⟩ : ∃ Z, Y3.setCell ⟨pb, 0, none⟩ (.slice (some ⟨g, 0, none⟩) (ps1.length + 1) c2) = Z := ⟨_, rfl⟩
          have hM : Md w0 Xd pb (.slice la ps1.length lc) (.slice ma os1.length mc) (.slice (some ⟨g, 0, none⟩) (ps1.length + 1) c2) ps1.length (flatT ps1 ++ [.int .i64 t.v, .string t.fn, .slice a t.args.length c]) Z := by
            have hd : Z.heap[pb]? = some (.cells #[(.slice (some ⟨g, 0, none⟩) (ps1.length + 1) c2), (.slice ma os1.length mc)] 116 (0, 0)) := by
              rw [← hZ]
              have := Go.heap_setCell_same Y3 pb 0 _ 116 (.slice (some ⟨g, 0, none⟩) (ps1.length + 1) c2) hb3
              simpa using this
            have oz := only_setCell Y3 pb 0 (.slice (some ⟨g, 0, none⟩) (ps1.length + 1) c2)
            rw [hZ] at oz
            refine md_of hhd (fun g hg => ⟨(pl1 g hg).1, HE.out.1.ly.there g (by simp [hg])⟩) hb1 g2 (g := g) rfl hb2 ((show Only [g, pb] Y2 Y3 from ⟨o3.os, o3.tape, o3.output, o3.size, fun k hk hn => o3.block k hk (by simp at hn ⊢; exact hn.1)⟩).trans oz (fun r hr => .inl (by simp at hr; simp [hr]))) hd (rowL_keep r3 (fun g' hg' => oz.block g' ?_ ?_))
            · obtain ⟨_, cur, hcc⟩ := row_block r3 hg'
              exact (Array.getElem?_eq_some_iff.1 hcc).1
            · have : g' = g := (Option.some.inj hg').symm
              subst this
              simpa using hgp
          refine hK.out _ _ (hO3.trans (only_setCell Y3 pb 0 _) (fun r hr => .inl (List.mem_cons.2 (.inl (List.mem_singleton.1 hr))))) (fun _ => ?_)
          rw [hZ]
          clear hK K hZ z0 zf
          refine wpAnyH_done (by kernel_rfl) ?_ _
          try simp only [Act.put]
          have HM : Hid (Md w0 Xd pb (.slice la ps1.length lc) (.slice ma os1.length mc) (.slice (some ⟨g, 0, none⟩) (ps1.length + 1) c2) ps1.length (flatT ps1 ++ [.int .i64 t.v, .string t.fn, .slice a t.args.length c]) Z) := hM
          have c0 : Z.cell? ⟨pb, 0, none⟩ = some (.slice (some ⟨g, 0, none⟩) (ps1.length + 1) c2) := by have := hM.head; simp [World.cell?, this]
          have c1 : Z.cell? ⟨pb, 1, none⟩ = some (.slice ma os1.length mc) := by have := hM.head; simp [World.cell?, this]
          have hb7 := below_box Z (.cells #[(.slice oa ids.length oc)] 23)
          have hrow7 : (Z.alloc (.cells #[(.slice oa ids.length oc)] 23)).ownsRow w0.heap.size 23 1 (.slice ma os1.length mc) os1.length (os1.map (·.1)) := rowL_keep HE.out.1.ly.ro (fun g' hg' => by
            obtain ⟨_, cur, hcc⟩ := row_block HE.out.1.ly.ro hg'
            have hlt' := (Array.getElem?_eq_some_iff.1 hcc).1
            exact (hb7.block g' (Nat.lt_of_lt_of_le hlt' hM.sz)).trans (hM.kp g' hlt' (fun e => (pl1 g' e).2 hg') (pl2 g' hg')))
          have hlz : w0.heap.size ≤ Z.heap.size := Nat.le_trans hlow0 hM.sz
          have HP : Hid (∀ Y6 vo', (Z.alloc (.cells #[(.slice oa ids.length oc)] 23)).grownBy Y6 (Value.slice ma os1.length mc).ownBlock → Y6.heap[pb]? = some (.cells #[(.slice (some ⟨g, 0, none⟩) (ps1.length + 1) c2), (.slice ma os1.length mc)] 116 (0, 0)) ∧ (Y6.setCell ⟨pb, 1, none⟩ vo').heap[pb]? = some (.cells #[(.slice (some ⟨g, 0, none⟩) (ps1.length + 1) c2), vo'] 116 (0, 0))) := fun Y6 vo' g6 => by
            have e1 := (hb7.block pb (Array.getElem?_eq_some_iff.1 hM.head).1).trans hM.head
            have e2 := (g6.block pb (Array.getElem?_eq_some_iff.1 e1).1 (fun e => pl2 pb e.symm rfl)).trans e1
            have := Go.heap_setCell_same Y6 pb 1 _ 116 vo' e2
            exact ⟨e2, by simpa using this⟩
          clear hM r2 g2 hb2 r3 o3 hrun hgl hO2 hO3 hb3 q4 hbox hrow1 hb1 hHeld hhd hpbl n0 n1 nf0 nf1
          go_wp2_with (first
            | (at_builtin; refine wpList_append_own_at _ rfl _ _ 114 rfl w0.heap.size 23 i23 _ 1 24 Try.underlying114 hi23 hz23a hz23b hz23c rfl (by decide) _ _ _ rfl hrow7 ⟨Z.heap.size, 0, none⟩ 1 1 [(.slice oa ids.length oc)] rfl rfl (fun j u hj => by { rw [Addr.add_mid, Nat.zero_add, cell_of_row _ _ _ _ 23 (0, 0) (MapKept.heap_alloc Z _).1]; simpa using hj }) (by intro u hu; obtain rfl : u = (.slice oa ids.length oc) := (by simpa using hu); rfl) (by unfold maxLen; omega) (by omega) (by simp; omega) ?_; intro v6 Y6 r6 g6 hnil6 hb6; obtain ⟨a6, c6, rfl⟩ := row_slice r6; obtain ⟨u1, u2⟩ := HP.out Y6 (.slice a6 (os1.length + 1) c6) g6; have y1 : Y6.cell? ⟨pb, 1, none⟩ = some (.slice ma os1.length mc) := (by simp [World.cell?, u1]); have yf : Y6.frozen? ⟨pb, 1, none⟩ = false := (by simp [World.frozen?, u1]); have y0 : Y6.cell? ⟨pb, 0, none⟩ = some (.slice (some ⟨g, 0, none⟩) (ps1.length + 1) c2) := (by simp [World.cell?, u1])))
          go_ret
          have hsz := sizs_arg t
          obtain ⟨e1, e2, e3, e4, e5, e6⟩ := HE.out
          have hWX := e1.on.size
          obtain ⟨w1, w2, w3, w4⟩ := e1.ly.snocM e5 e2 e3 (row_base e1.ow e6) HM.out hb7 g6 hb6 r6
          refine ⟨ps1.length, _, _, _, _, rfl, w1, e1.prp.trans (List.prefix_append _ _), e1.pro.trans (List.prefix_append _ _), by simp, by simp; omega, ⟨by simp, by simp⟩, e1.on.trans w2 e1.bs, fun g' hg' => ?_, fun g' hg' => ?_, fun o ho => ?_⟩
          · rcases w3 g' hg' with k | k
            · rcases e1.hvl g' k with k | k
              · exact .inl k
              · exact .inr (by omega)
            · exact .inr (by omega)
          · rcases w4 g' hg' with k | k
            · rcases e1.hvo g' k with k | k
              · exact .inl k
              · exact .inr (by omega)
            · exact .inr (by omega)
          · rcases List.mem_append.1 ho with ho | ho
            · exact e1.nw o ho
            · obtain rfl : o = ((.slice oa ids.length oc), ids) := by simpa using ho
              exact .inr fun g' hg' => (row_block e1.ow hg').1
        · have hb2h : Y2.heap[pb]? = some (.cells #[(.slice la ps1.length lc), (.slice ma os1.length mc)] 116 (0, 0)) := hbox Y2 Y2 g g2 hgp (Only.refl _ _)
          have z0 : Y2.cell? ⟨pb, 0, none⟩ = some (.slice la ps1.length lc) := by simp [World.cell?, hb2h]
          have zf : Y2.frozen? ⟨pb, 0, none⟩ = false := by simp [World.frozen?, hb2h]
          rw [if_pos (by rfl)]
          go_simp
          obtain ⟨Z1, hZ1⟩ : ∃ Z, Y2.setCell ⟨pb, 0, none⟩ (.slice (some ⟨g, 0, none⟩) (ps1.length + 1) c2) = Z := ⟨_, rfl⟩
          have hd1 : Z1.heap[pb]? = some (.cells #[(.slice (some ⟨g, 0, none⟩) (ps1.length + 1) c2), (.slice ma os1.length mc)] 116 (0, 0)) := by
            rw [← hZ1]
            have := Go.heap_setCell_same Y2 pb 0 _ 116 (.slice (some ⟨g, 0, none⟩) (ps1.length + 1) c2) hb2h
            simpa using this
          have oz := only_setCell Y2 pb 0 (.slice (some ⟨g, 0, none⟩) (ps1.length + 1) c2)
          rw [hZ1] at oz
          have r2z : Z1.ownsRow w0.heap.size 28 3 (.slice (some ⟨g, 0, none⟩) (ps1.length + 1) c2) (ps1.length + 1) (flatT ps1 ++ [.int .i64 0, .string ⟨#[]⟩, .slice none 0 0]) := rowL_keep r2 (fun g' hg' => oz.block g' (by obtain ⟨_, cur, hcc⟩ := row_block r2 hg'; exact (Array.getElem?_eq_some_iff.1 hcc).1) (by have : g' = g := (Option.some.inj hg').symm; subst this; simpa using hgp))
          obtain ⟨g', c', he', _, Z, hrunz, rz, ozz⟩ := row_store r2z hlf (.int .i64 t.v) (.string t.fn) (.slice a t.args.length c) (by intro y hy; simp only [List.mem_cons, List.not_mem_nil, or_false] at hy; rcases hy with rfl | rfl | rfl <;> rfl)
          obtain rfl : g = g' := by have := (Value.slice.inj he').1; simpa using this
          have hM : Md w0 Xd pb (.slice la ps1.length lc) (.slice ma os1.length mc) (.slice (some ⟨g, 0, none⟩) (ps1.length + 1) c2) ps1.length (flatT ps1 ++ [.int .i64 t.v, .string t.fn, .slice a t.args.length c]) Z := md_of hhd (fun g hg => ⟨(pl1 g hg).1, HE.out.1.ly.there g (by simp [hg])⟩) hb1 g2 (g := g) rfl hb2 ((show Only [g, pb] Y2 Z1 from ⟨oz.os, oz.tape, oz.output, oz.size, fun k hk hn => oz.block k hk (by simp at hn ⊢; exact hn.2)⟩).trans ozz (fun r hr => .inl (by simp at hr; simp [hr]))) ((ozz.block pb (Array.getElem?_eq_some_iff.1 hd1).1 (by simpa using fun e => hgp e.symm)).trans hd1) rz
          have hOz : Only (pbs pb (.slice la ps1.length lc) (.slice ma os1.length mc)) Xd Z1 := hO2.trans oz (fun r hr => .inl (List.mem_cons.2 (.inl (List.mem_singleton.1 hr))))
          refine hK.out _ _ (by rw [hZ1]; exact hOz) (fun _ => ?_)
          rw [hZ1]
          clear hK K hZ1 z0 zf
          try simp only [Act.put, List.setIfInBounds_toArray, List.set_cons_zero, List.set_cons_succ]
          refine wpAnyH_ready (rs := [9]) (by kernel_rfl) (by simp) (AllReadyH.cons (o := ⟨_, _, _, _, _, _⟩) rfl (fun K hK => ?_) AllReadyH.nil)
          rw [if_pos (by rfl)]
          refine wp_store_run 28 _ _ rfl (.pointer (some ⟨g, ps1.length * 3, none⟩)) (tval t (.slice a t.args.length c)) rfl rfl hrunz ?_
          refine hK.out _ _ (hOz.trans ozz (fun r hr => by
            have : r = g := by simpa using hr
            subst this
            rcases hb2 with e | e
            · exact .inl (by simp only [pbs, List.mem_cons, List.mem_append, Option.mem_toList]; exact .inr (.inl e.symm))
            · have : r = _ := Option.some.inj e
              exact .inr (by simp at this; omega))) (fun _ => ?_)
          clear hK K
          refine wpAnyH_done (by kernel_rfl) ?_ _
          try simp only [Act.put]
          have HM : Hid (Md w0 Xd pb (.slice la ps1.length lc) (.slice ma os1.length mc) (.slice (some ⟨g, 0, none⟩) (ps1.length + 1) c2) ps1.length (flatT ps1 ++ [.int .i64 t.v, .string t.fn, .slice a t.args.length c]) Z) := hM
          have c0 : Z.cell? ⟨pb, 0, none⟩ = some (.slice (some ⟨g, 0, none⟩) (ps1.length + 1) c2) := by have := hM.head; simp [World.cell?, this]
          have c1 : Z.cell? ⟨pb, 1, none⟩ = some (.slice ma os1.length mc) := by have := hM.head; simp [World.cell?, this]
          have hb7 := below_box Z (.cells #[(.slice oa ids.length oc)] 23)
          have hrow7 : (Z.alloc (.cells #[(.slice oa ids.length oc)] 23)).ownsRow w0.heap.size 23 1 (.slice ma os1.length mc) os1.length (os1.map (·.1)) := rowL_keep HE.out.1.ly.ro (fun g' hg' => by
            obtain ⟨_, cur, hcc⟩ := row_block HE.out.1.ly.ro hg'
            have hlt' := (Array.getElem?_eq_some_iff.1 hcc).1
            exact (hb7.block g' (Nat.lt_of_lt_of_le hlt' hM.sz)).trans (hM.kp g' hlt' (fun e => (pl1 g' e).2 hg') (pl2 g' hg')))
          have hlz : w0.heap.size ≤ Z.heap.size := Nat.le_trans hlow0 hM.sz
          have HP : Hid (∀ Y6 vo', (Z.alloc (.cells #[(.slice oa ids.length oc)] 23)).grownBy Y6 (Value.slice ma os1.length mc).ownBlock → Y6.heap[pb]? = some (.cells #[(.slice (some ⟨g, 0, none⟩) (ps1.length + 1) c2), (.slice ma os1.length mc)] 116 (0, 0)) ∧ (Y6.setCell ⟨pb, 1, none⟩ vo').heap[pb]? = some (.cells #[(.slice (some ⟨g, 0, none⟩) (ps1.length + 1) c2), vo'] 116 (0, 0))) := fun Y6 vo' g6 => by
            have e1 := (hb7.block pb (Array.getElem?_eq_some_iff.1 hM.head).1).trans hM.head
            have e2 := (g6.block pb (Array.getElem?_eq_some_iff.1 e1).1 (fun e => pl2 pb e.symm rfl)).trans e1
            have := Go.heap_setCell_same Y6 pb 1 _ 116 vo' e2
            exact ⟨e2, by simpa using this⟩
          clear hM r2 g2 hb2 r3 o3 hrun hgl hO2 hO3 hb3 q4 hbox hrow1 hb1 hHeld hhd hpbl n0 n1 nf0 nf1
          go_wp2_with (first
            | (at_builtin; refine wpList_append_own_at _ rfl _ _ 114 rfl w0.heap.size 23 i23 _ 1 24 Try.underlying114 hi23 hz23a hz23b hz23c rfl (by decide) _ _ _ rfl hrow7 ⟨Z.heap.size, 0, none⟩ 1 1 [(.slice oa ids.length oc)] rfl rfl (fun j u hj => by { rw [Addr.add_mid, Nat.zero_add, cell_of_row _ _ _ _ 23 (0, 0) (MapKept.heap_alloc Z _).1]; simpa using hj }) (by intro u hu; obtain rfl : u = (.slice oa ids.length oc) := (by simpa using hu); rfl) (by unfold maxLen; omega) (by omega) (by simp; omega) ?_; intro v6 Y6 r6 g6 hnil6 hb6; obtain ⟨a6, c6, rfl⟩ := row_slice r6; obtain ⟨u1, u2⟩ := HP.out Y6 (.slice a6 (os1.length + 1) c6) g6; have y1 : Y6.cell? ⟨pb, 1, none⟩ = some (.slice ma os1.length mc) := (by simp [World.cell?, u1]); have yf : Y6.frozen? ⟨pb, 1, none⟩ = false := (by simp [World.frozen?, u1]); have y0 : Y6.cell? ⟨pb, 0, none⟩ = some (.slice (some ⟨g, 0, none⟩) (ps1.length + 1) c2) := (by simp [World.cell?, u1])))
          go_ret
          have hsz := sizs_arg t
          obtain ⟨e1, e2, e3, e4, e5, e6⟩ := HE.out
          have hWX := e1.on.size
          obtain ⟨w1, w2, w3, w4⟩ := e1.ly.snocM e5 e2 e3 (row_base e1.ow e6) HM.out hb7 g6 hb6 r6
          refine ⟨ps1.length, _, _, _, _, rfl, w1, e1.prp.trans (List.prefix_append _ _), e1.pro.trans (List.prefix_append _ _), by simp, by simp; omega, ⟨by simp, by simp⟩, e1.on.trans w2 e1.bs, fun g' hg' => ?_, fun g' hg' => ?_, fun o ho => ?_⟩
          · rcases w3 g' hg' with k | k
            · rcases e1.hvl g' k with k | k
              · exact .inl k
              · exact .inr (by omega)
            · exact .inr (by omega)
          · rcases w4 g' hg' with k | k
            · rcases e1.hvo g' k with k | k
              · exact .inl k
              · exact .inr (by omega)
            · exact .inr (by omega)
          · rcases List.mem_append.1 ho with ho | ho
            · exact e1.nw o ho
            · obtain rfl : o = ((.slice oa ids.length oc), ids) := by simpa using ho
              exact .inr fun g' hg' => (row_block e1.ow hg').1

theorem lay_any (w0 : World) (pb : Nat) (t : T) : LayOk w0 pb t := by
  induction t using T.ind with
  | _ t ih => exact lay_one w0 pb t ih

end Go.Proofs.Ytpahgmidofacaaa
