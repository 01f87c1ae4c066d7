/-
  routeOf: what its first loop keeps; a route that is being filled from behind.
-/
import Derived.Test.YtijihmncbaoklaaGreatUS
import Derived.Test.YtijihmncbaoklaaGreatUG
import Derived.Test.YtijihmncbaoklaaGreatPG
import Derived.Test.YtijihmncbaoklaaGreatSM
namespace Go.Proofs.YtijihmncbaoklaaGreat
open Go.RowKit Go.Maps Go.Shelf

attribute [local go_sem] Oper.semAt_some

theorem Tryz.info120 : (Tryz.prog.info? 120).map (fun i => (i.zero, i.size, i.bytes)) = some (some (.agg #[.string ⟨#[]⟩, .int .i64 0, .int .i64 0]), 3, 32) := by kernel_rfl

/-- 'append' as one step of a region that draws its order, inside a fence; where the new row lies is told. -/
theorem stepIn_append_at {F : Fence} {nF : Nat} {P : Program} (w : World) {ops : Array Oper} {o : Oper} {a : Act} {K : Act → World → Prop} {Q : Exit → Act → World → Prop} {E : Prop} (hgd : o.guard = none) (s x : Operand) (t : TypeId)
    (ho : o.op = .call { callee := .builtin .append, args := #[s, x], argTypes := #[t, t] })
    (base : Nat) (e : TypeId) (i : TypeInfo) (z : Value) (size bytes : Nat) (ht : P.underlying t = some (.slice e)) (hi : P.info? e = some i) (hz : i.zero = some z)
    (hsize : i.size = size) (hby : i.bytes = bytes) (hzs : z.cells.size = size) (hsz : 0 < size)
    (v : Value) (n : Nat) (xs : List Value) (hs : a.eval s = v) (hown : w.ownsRow base e size v n xs)
    (ad : Addr) (m c : Nat) (news : List Value) (hx : a.eval x = .slice (some ad) m c) (hl : news.length = m * size) (hnews : ∀ j u, news[j]? = some u → w.cell? (ad.add j) = some u) (h1 : ∀ u ∈ news, u.oneCell' = true)
    (h63 : n + m ≤ maxLen) (hbytes : (n + m) * bytes ≤ 140737488355328) (hbase : base ≤ w.heap.size)
    (h : ∀ v' w', w'.ownsRow base e size v' (n + m) (xs ++ news) → w.grownBy w' v.ownBlock → (v'.ownBlock = v.ownBlock ∨ v'.ownBlock = some w.heap.size) → K (a.put o.dst v') w') :
    if Region.wanted o (yielded ops a.tmps) = true then Oper.wpIn F nF P o a w K Q else E := by
  have hw : Region.wanted o (yielded ops a.tmps) = true := by simp [Region.wanted, hgd]
  rw [if_pos hw]
  obtain ⟨v', w', hr, h2, h3, _, h5⟩ := run_append_own_at (P := P) w base t o.type e i z size bytes ht hi hz hsize hby hzs hsz v n xs hown ad m c news hl hnews h1 h63 hbytes hbase
  unfold Oper.wpIn
  refine ⟨by simp [Oper.about, ho, resolve, Target.leads, Sem.run_pure], ?_⟩
  rw [Oper.semAt_plain F _ _ (by rw [ho]; intro c hc'; cases hc')]
  simp [execOp, ho, resolve, invoke, builtin, hs, hx, hr, Result.andThen]
  exact h v' w' h2 h3 h5

/-- The cells of stops whose places behind are not told yet. -/
def flS (l : List T) : List Value := l.flatMap fun p => [.string p.fn, .int .i64 (p.args.length : Nat), .int .i64 0]
theorem flS_snoc (l : List T) (p : T) : flS (l ++ [p]) = flS l ++ [.string p.fn, .int .i64 (p.args.length : Nat), .int .i64 0] := by simp [flS]
theorem flS_nth : ∀ (l : List T) (i : Nat) (h : i < l.length), (flS l)[i * 3]? = some (.string l[i].fn) ∧ (flS l)[i * 3 + 1]? = some (.int .i64 (l[i].args.length : Nat)) ∧ (flS l)[i * 3 + 2]? = some (.int .i64 0)
  | [], i, h => by simp at h
  | p :: r, 0, _ => ⟨rfl, rfl, rfl⟩
  | p :: r, i + 1, h => by
    have := flS_nth r i (by simpa using h)
    have e : flS (p :: r) = .string p.fn :: .int .i64 (p.args.length : Nat) :: .int .i64 0 :: flS r := rfl
    rw [e]
    have e0 : (i + 1) * 3 = i * 3 + 3 := by omega
    rw [e0]
    simpa using this

/-- While the stops are collected. -/
structure RI (w : World) (E : List Nat) (v : Value) (cs : List T) (W : World) : Prop where
  b1 : Boxed W (w.heap.size + 1) 89 v
  row : W.ownsRow (w.heap.size + 3) 120 3 v cs.length (flS cs)
  low : ∀ r ∈ E, w.heap.size + 3 ≤ r ∧ r < W.heap.size
  mine : ∀ g, v.ownBlock = some g → g ∉ E
  bel : Below w.heap.size w W
  size : w.heap.size + 3 ≤ W.heap.size

section
variable {w : World} {E : List Nat} {v : Value} {cs : List T} {W W' : World}

theorem RI.kept (h : RI w E v cs W) {E' : List Nat} {row : Option Nat} (hg : W.grownBy W' row) (hr : ∀ r, row = some r → r ∈ E) (hE : ∀ r ∈ E', r ∈ E ∨ (W.heap.size ≤ r ∧ r < W'.heap.size)) : RI w E' v cs W' := by
  have hs := h.size
  have hgs := hg.size
  have blk : ∀ k, k < w.heap.size + 3 → W'.heap[k]? = W.heap[k]? := fun k hk => hg.block k (by omega) (fun e => by have := (h.low k (hr k e.symm)).1; omega)
  refine ⟨(blk _ (by omega)).trans h.b1, row6_keep h.row (fun g hgv => ?_), fun r hr' => ?_, fun g hgv hge => ?_, h.bel.trans ⟨hg.os, hg.tape, hg.output, hg.size, fun k hk => blk k (by omega)⟩, by omega⟩
  · exact hg.block g (h.row.lt g hgv).2 (fun e => h.mine g hgv (hr g e.symm))
  · rcases hE r hr' with h' | h'
    · exact ⟨(h.low r h').1, Nat.lt_of_lt_of_le (h.low r h').2 hg.size⟩
    · exact ⟨by omega, h'.2⟩
  · have hlt := (h.row.lt g hgv).2
    rcases hE g hge with h' | h'
    · exact h.mine g hgv h'
    · omega

theorem RI.grow (h : RI w E v cs W) (hb : Below W.heap.size W W') : RI w E v cs W' :=
  h.kept (row := none) ⟨hb.os, hb.tape, hb.output, hb.size, fun k hk _ => hb.block k hk⟩ (fun _ e => by cases e) (fun _ hr => .inl hr)

/-- Behind an append and the store of what it gave. -/
theorem RI.push (h : RI w E v cs W) (p : T) (v' : Value) (w1 : World) (hown : w1.ownsRow (w.heap.size + 3) 120 3 v' (cs.length + 1) (flS cs ++ [.string p.fn, .int .i64 (p.args.length : Nat), .int .i64 0])) (hg : W.grownBy w1 v.ownBlock) (hat : v'.ownBlock = v.ownBlock ∨ v'.ownBlock = some W.heap.size) :
    (w1.cell? ⟨w.heap.size + 1, 0, none⟩ = some v ∧ w1.frozen? ⟨w.heap.size + 1, 0, none⟩ = false) ∧ (∀ b, b < w.heap.size → (w1.setCell ⟨w.heap.size + 1, 0, none⟩ v').heap[b]? = W.heap[b]?) ∧ (∀ r ∈ E, (w1.setCell ⟨w.heap.size + 1, 0, none⟩ v').heap[r]? = W.heap[r]?) ∧ W.heap.size ≤ (w1.setCell ⟨w.heap.size + 1, 0, none⟩ v').heap.size ∧ RI w E v' (cs ++ [p]) (w1.setCell ⟨w.heap.size + 1, 0, none⟩ v') := by
  have hs := h.size
  have hgs := hg.size
  have vge : ∀ g, v.ownBlock = some g → w.heap.size + 3 ≤ g ∧ g < W.heap.size := fun g hgv => h.row.lt g hgv
  have blk : ∀ k, k < W.heap.size → v.ownBlock ≠ some k → w1.heap[k]? = W.heap[k]? := fun k hk hne => hg.block k hk (fun e => hne e.symm)
  have low4 : ∀ k, k < w.heap.size + 3 → w1.heap[k]? = W.heap[k]? := fun k hk => blk k (by omega) (fun e => by have := (vge k e).1; omega)
  have p3 : Boxed w1 (w.heap.size + 1) 89 v := (low4 _ (by omega)).trans h.b1
  have ho : ∀ k, k ≠ w.heap.size + 1 → (w1.setCell ⟨w.heap.size + 1, 0, none⟩ v').heap[k]? = w1.heap[k]? := fun k hk => Below.heap_setCell _ _ _ k hk
  have b1 : Below w.heap.size W w1 := ⟨hg.os, hg.tape, hg.output, hg.size, fun k hk => low4 k (by omega)⟩
  have b2 : Below w.heap.size w1 (w1.setCell ⟨w.heap.size + 1, 0, none⟩ v') := (Below.refl _ _).setCell (p := ⟨w.heap.size + 1, 0, none⟩) (by show w.heap.size ≤ w.heap.size + 1; omega) _
  have kE : ∀ r ∈ E, (w1.setCell ⟨w.heap.size + 1, 0, none⟩ v').heap[r]? = W.heap[r]? := fun r hr => by
    obtain ⟨l1, l2⟩ := h.low r hr
    exact (ho r (by omega)).trans (blk r l2 (fun e => h.mine r e hr))
  refine ⟨⟨p3.cell, p3.frozen⟩, fun b hb => (ho b (by omega)).trans (low4 b (by omega)), kE, by simpa using hgs, p3.set v', ?_, fun r hr => ⟨(h.low r hr).1, ?_⟩, fun g hgv hge => ?_, h.bel.trans (b1.trans b2), ?_⟩
  · rw [flS_snoc, List.length_append]
    exact row6_keep hown (fun g hgv => ho g (by have := (hown.lt g hgv).1; omega))
  · have := (h.low r hr).2
    simp
    omega
  · rcases hat with h1 | h1
    · exact h.mine g (h1 ▸ hgv) hge
    · rw [h1] at hgv
      cases hgv
      have := (h.low _ hge).2
      omega
  · simp
    omega
end

def RIx (w : World) (E : List Nat) (pre : List T) (W : World) : Prop := ∃ v, RI w E v pre W
theorem RIx.abide (w : World) : Abide (RIx w) := by
  rintro E E' s W W' row ⟨v, h⟩ hg hr hE
  exact ⟨v, h.kept hg hr hE⟩

/-- A route whose places behind are told from the k-th stop on. -/
structure Fil (W0 W : World) (g : Nat) (L : List T) (k : Nat) : Prop where
  cells : ∀ i (h : i < L.length), W.cell? ⟨g, i * 3, none⟩ = some (.string L[i].fn) ∧ W.cell? ⟨g, i * 3 + 1, none⟩ = some (.int .i64 (L[i].args.length : Nat)) ∧ (∃ z, W.cell? ⟨g, i * 3 + 2, none⟩ = some (.int .i64 z)) ∧ (k ≤ i → W.cell? ⟨g, i * 3 + 2, none⟩ = some (.int .i64 ((i + L[i].pre.length : Nat) : Int)))
  blk : ∃ cur : List Value, W.heap[g]? = some (.cells cur.toArray 120 (0, 0))
  only : Only [g] W0 W

theorem Fil.froz {W0 W : World} {g : Nat} {L : List T} {k : Nat} (h : Fil W0 W g L k) (o : Nat) : W.frozen? ⟨g, o, none⟩ = false := by
  obtain ⟨cur, hc⟩ := h.blk
  exact frozen_cells hc

theorem Fil.step {W0 W : World} {g : Nat} {L : List T} {k : Nat} (h : Fil W0 W g L (k + 1)) (hk : k < L.length) : Fil W0 (W.setCell ⟨g, k * 3 + 2, none⟩ (.int .i64 ((k + L[k].pre.length : Nat) : Int))) g L k := by
  have oth : ∀ o, o ≠ k * 3 + 2 → ∀ v, W.cell? ⟨g, o, none⟩ = some v → (W.setCell ⟨g, k * 3 + 2, none⟩ (.int .i64 ((k + L[k].pre.length : Nat) : Int))).cell? ⟨g, o, none⟩ = some v := fun o ho v hv =>
    (World.cell?_setCell_other W _ _ _ (fun e => ho (by cases e; rfl))).trans hv
  refine ⟨fun i hi => ?_, ?_, ?_⟩
  · obtain ⟨a, b, ⟨z, c⟩, d⟩ := h.cells i hi
    by_cases e : i = k
    · subst e
      have hs := World.cell?_setCell_same W ⟨g, i * 3 + 2, none⟩ (.int .i64 ((i + L[i].pre.length : Nat) : Int)) c
      exact ⟨oth _ (by omega) _ a, oth _ (by omega) _ b, ⟨_, hs⟩, fun _ => hs⟩
    · exact ⟨oth _ (by omega) _ a, oth _ (by omega) _ b, ⟨z, oth _ (by omega) _ c⟩, fun hki => oth _ (by omega) _ (d (by omega))⟩
  · obtain ⟨cur, hc⟩ := h.blk
    exact ⟨_, set_any hc⟩
  · exact h.only.trans (Only.of_grown (B := [g]) (World.grownBy_setCell_any W g _ _) (fun r e => by cases e; simp)) (fun r hr => .inl hr)

theorem Fil.start {w W : World} {E : List Nat} {v : Value} {t : T} (h : RI w E v t.pre W) : ∃ g rc, v = .slice (some ⟨g, 0, none⟩) t.pre.length rc ∧ t.pre.length ≤ rc ∧ w.heap.size + 3 ≤ g ∧ g < W.heap.size ∧ g ∉ E ∧ Fil W W g t.pre t.pre.length := by
  have hp := pre_pos t
  rcases h.row.2 with ⟨_, h0⟩ | ⟨g, cap, cur, e, hb, hg, hc1, _, hcs, hcur⟩
  · omega
  · subst e
    refine ⟨g, cap, rfl, hc1, hb, (Array.getElem?_eq_some_iff.1 hg).1, h.mine g rfl, ⟨fun i hi => ?_, ⟨cur.toList, by simpa using hg⟩, Only.refl _ _⟩⟩
    obtain ⟨f0, f1, f2⟩ := flS_nth t.pre i hi
    have cl : ∀ o, o < t.pre.length * 3 → W.cell? ⟨g, o, none⟩ = (flS t.pre)[o]? := fun o ho => by
      rw [cell_of_row _ _ _ _ 120 (0, 0) hg, ← hcur, List.getElem?_take_of_lt ho, Array.getElem?_toList]
    refine ⟨(cl _ (by omega)).trans f0, (cl _ (by omega)).trans f1, ⟨0, (cl _ (by omega)).trans f2⟩, fun hki => absurd hi (by omega)⟩

end Go.Proofs.YtijihmncbaoklaaGreat
