import Derived.Test.YtblfbmdnkgebdaaGR

/-
  Structs stored into boxes; operations of a region that draws its order, one by one.
-/
namespace Go.Proofs.Ytblfbmdnkgebdaa
open Go.RowKit Go.Maps

theorem only_setCell (W : World) (p o : Nat) (v : Value) : Only [p] W (W.setCell ⟨p, o, none⟩ v) :=
  ⟨rfl, rfl, rfl, by simp, fun k _ hn => Below.heap_setCell _ _ _ k (by simpa using hn)⟩
/-- Cells in the midst of a block are put. -/
theorem heap_put (b : Nat) (ty : TypeId) : ∀ (vs : List Value) (o : Nat) (w : World) (cur : Array Value), w.heap[b]? = some (.cells cur ty (0, 0)) → o + vs.length ≤ cur.size →
    ∃ cur' : Array Value, (w.setCells b o vs).heap[b]? = some (.cells cur' ty (0, 0)) ∧ cur'.toList = cur.toList.take o ++ vs ++ cur.toList.drop (o + vs.length) ∧ Only [b] w (w.setCells b o vs)
  | [], o, w, cur, h, _ => ⟨cur, h, by simp, Only.refl _ _⟩
  | v :: r, o, w, cur, h, hl => by
    have h1 := Go.heap_setCell_same w b o cur ty v h
    have hlo : o < cur.toList.length := by simp at hl ⊢; omega
    obtain ⟨cur', g1, g2, g3⟩ := heap_put b ty r (o + 1) _ _ h1 (by simp at hl ⊢; omega)
    refine ⟨cur', g1, ?_, (only_setCell w b o v).trans g3 (by simp)⟩
    rw [g2]
    have e : (cur.setIfInBounds o v).toList = cur.toList.take o ++ v :: cur.toList.drop (o + 1) := by
      rw [Array.toList_setIfInBounds, List.set_eq_take_append_cons_drop, if_pos hlo]
    have hto : (cur.toList.take o).length = o := by rw [List.length_take]; omega
    rw [e]
    have e1 : (cur.toList.take o ++ v :: cur.toList.drop (o + 1)).take (o + 1) = cur.toList.take o ++ [v] := by
      rw [List.take_append, hto, List.take_of_length_le (by omega)]
      simp
    have e2 : (cur.toList.take o ++ v :: cur.toList.drop (o + 1)).drop (o + 1 + r.length) = cur.toList.drop (o + (v :: r).length) := by
      rw [List.drop_append, hto, List.drop_eq_nil_of_le (by omega), List.nil_append, show o + 1 + r.length - o = r.length + 1 by omega, List.drop_succ_cons, List.drop_drop]
      congr 1
      simp
      omega
    rw [e1, e2]
    simp
/-- A thing of several cells is stored into its box. -/
theorem agg_store (ty : TypeId) (Y : World) (bx : Nat) (cur : Array Value) (vs : List Value) (h : Y.heap[bx]? = some (.cells cur ty (0, 0))) (hl : cur.size = vs.length) (hi : (Try.prog.info? ty).map (·.size) = some vs.length) (h1 : ∀ u ∈ vs, u.oneCell' = true) :
    ∃ Y', (Instr.storeAt ty (.pointer (some ⟨bx, 0, none⟩)) (.agg vs.toArray)).run Try.prog Y = .ok () Y' ∧ Y'.heap[bx]? = some (.cells vs.toArray ty (0, 0)) ∧ Only [bx] Y Y' := by
  obtain ⟨cur', p1, p2, p3⟩ := heap_put bx ty vs 0 Y _ h (by omega)
  have hr := run_storeAt_mid (P := Try.prog) Y bx 0 ty vs.toArray (fun j hj => by
    have hj3 : j < cur.size := by rw [hl]; simpa using hj
    simp [World.cell?, World.frozen?, h, hj3]) (by simpa using hi) (all_oneCell_toArray h1)
  have e : cur' = vs.toArray := by
    apply Array.toList_inj.1
    rw [p2]
    have : cur.toList.drop (0 + vs.length) = [] := List.drop_eq_nil_of_le (by simp [hl])
    rw [this]
    simp
  rw [e] at p1
  exact ⟨_, hr, p1, p3⟩

/-- wpAnyH_take, the operation laid out. -/
theorem take_mk {P : Program} {md : Region.Mode} {ops : Array Oper} {Q : Exit → Act → World → Prop} {S : World → Prop} (i : Nat) (v : Value) {d : Option Tmp} {op : Op} {ty : TypeId} {pos : String} {aft} {gd} {fuel : Nat} {listed : Array Bool} {a : Act} {w : World} (hi : ops[i]? = some ⟨d, op, ty, pos, aft, gd⟩)
    (hs : Region.noSelect ops = true) (hf : Region.free md ops listed i = true) (hr : (Region.ready md ops listed).contains i = true)
    (hQ : ∀ c a w, Q (.panic c) (a.put d v) w → Q (.panic c) a w) (hy : YieldsIf P ops S ⟨d, op, ty, pos, aft, gd⟩ v a) (hS : S w)
    (h : wpAnyH P md ops Q S fuel (listed.setIfInBounds i true) (a.put d v) w) : wpAnyH P md ops Q S (fuel + 1) listed a w :=
  wpAnyH_take hi hs hf hr hQ hy hS h

/-- A store, by its run. -/
theorem wp_store_run {op : Oper} {a : Act} {w w' : World} {K : Act → World → Prop} {Q : Exit → Act → World → Prop} (ty : TypeId) (x y : Operand) (ho : op.op = .store ty x y) (xv yv : Value) (hx : a.eval x = xv) (hy : a.eval y = yv)
    (hrun : (Instr.storeAt ty xv yv).run Try.prog w = .ok () w') (h : K (a.put op.dst undef) w') : Oper.wp Try.prog op a w K Q := by
  unfold Oper.wp execOp
  simp only [ho, hx, hy, Sem.run_bind, hrun, Result.andThen_ok, Sem.run_pure]
  exact h

theorem wpList_store_run {ops : Array Oper} {rest : List Oper} {op : Oper} {a : Act} {w w' : World} {Q : Exit → Act → World → Prop} (hgd : op.guard = none) (ty : TypeId) (x y : Operand) (ho : op.op = .store ty x y) (xv yv : Value) (hx : a.eval x = xv) (hy : a.eval y = yv)
    (hrun : (Instr.storeAt ty xv yv).run Try.prog w = .ok () w') (h : wpList Try.prog ops Q rest (a.put op.dst undef) w') : wpList Try.prog ops Q (op :: rest) a w :=
  wpList_plain hgd fun _ hK => wp_store_run ty x y ho xv yv hx hy hrun (hK _ _ h)

theorem cell_at {W : World} {b o : Nat} {l : Array Value} {ty : TypeId} {v : Value} (h : W.heap[b]? = some (.cells l ty (0, 0))) (hv : l[o]? = some v) : W.cell? ⟨b, o, none⟩ = some v := by
  simp [World.cell?, h, hv]

end Go.Proofs.Ytblfbmdnkgebdaa

/-
  graph.built.
-/
namespace Go.Proofs.Ytblfbmdnkgebdaa
open Go.RowKit Go.Maps

section
variable {w0 w : World} {base g bv b c : Nat} {a bt : T} {n0 : Nat} {tm : Nat → T} {fs h : Nat → Nat} {ν : Nv} {n : Nat} {ns ns' : List Nd} {W W' : World}

/-- The graph; node r, a head, is m. -/
def SB (w0 w : World) (base g bv b c : Nat) (n0 : Nat) (tm : Nat → T) (fs h : Nat → Nat) (ν : Nv) (n : Nat) (r : Nat) (m : Nd) (W X : World) : Prop := ∃ ns, ML w0 w base g bv b c n0 tm fs h ν n ns X ∧ ns[r]? = some m ∧ Only [b] W X

theorem SB.keep {r : Nat} {m : Nd} {W X X' : World} (H : SB w0 w base g bv b c n0 tm fs h ν n r m W X) (hb : Below X.heap.size X X') : SB w0 w base g bv b c n0 tm fs h ν n r m W X' := by
  obtain ⟨ns, h1, h2, h3⟩ := H
  exact ⟨ns, h1.keep hb, h2, h3.trans (Only.of_below hb) (fun r hr => .inl hr)⟩

theorem SB.cells {r : Nat} {m : Nd} {W X : World} (H : SB w0 w base g bv b c n0 tm fs h ν n r m W X) : X.cell? ⟨g, 0, none⟩ = some (.slice (some ⟨b, 0, none⟩) n0 c) ∧ X.cell? ⟨b, r * 8, none⟩ = some (.int .i64 m.t.v) ∧ X.cell? ⟨b, r * 8 + 1, none⟩ = some (.string m.t.fn) ∧ X.cell? ⟨b, r * 8 + 2, none⟩ = some m.sl ∧ X.cell? ⟨b, r * 8 + 3, none⟩ = some (.int .i64 m.first) ∧ X.cell? ⟨b, r * 8 + 4, none⟩ = some (.int .i64 m.up) ∧ X.cell? ⟨b, r * 8 + 5, none⟩ = some (.bool m.op) ∧ X.cell? ⟨b, r * 8 + 6, none⟩ = some (.int .i64 m.size) ∧ X.cell? ⟨b, r * 8 + 7, none⟩ = some (.int .i64 m.depth) := by
  obtain ⟨ns, h1, h2, _⟩ := H
  obtain ⟨hr, rfl⟩ := List.getElem?_eq_some_iff.1 h2
  obtain ⟨b', c', e, _, hf⟩ := h1.gat.field hr
  cases e
  refine ⟨?_, hf 0 _ rfl, hf 1 _ rfl, hf 2 _ rfl, hf 3 _ rfl, hf 4 _ rfl, hf 5 _ rfl, hf 6 _ rfl, hf 7 _ rfl⟩
  rw [← h1.gr.len]
  simp [World.cell?, h1.gat.box]

theorem SB.head {r : Nat} {m : Nd} {W X : World} (H : SB w0 w base g bv b c n0 tm fs h ν n r m W X) (hs : n0 ≤ 8000) {i : Nat} (hi : i < n0) (hr : h i = r) (hrr : h r = r) : Calls Try.prog 54 #[.pointer (some ⟨g, 0, none⟩), .int .i64 (i : Int)] X fun e X' => e = .returned (.int .i64 (r : Int)) ∧ SB w0 w base g bv b c n0 tm fs h ν n r m W X' ∧ Wrote b X X' := by
  obtain ⟨ns, h1, h2, h3⟩ := H
  obtain ⟨k, hk⟩ := h1.gr.up i hi
  refine (Go.Proofs.Ytblfbmdnkgebdaa.head_any w0 base g bv b c ns ν n X h1.gat k i (h i) hk (by have := h1.gr.len; omega)).mono ?_
  rintro e X' ⟨rfl, ns2, hs8, hg, hw⟩
  obtain ⟨l1, l2, l3⟩ := hs8.le8
  have hon : Only [b] X X' := ⟨hw.os, hw.tape, hw.output, by rw [hw.size]; exact Nat.le_refl _, fun k _ hn => hw.block k (by simpa using hn)⟩
  have hgr := h1.gr.same hs8
  refine ⟨by rw [hr], ⟨ns2, ⟨by rw [hs8.1]; exact hg, hgr, fun j hj e => ?_, h1.only.trans hon (fun r hr => .inl hr)⟩, ?_, h3.trans hon (fun r hr => .inl hr)⟩, hw⟩
  · rw [l3] at e ⊢
    rw [l2]
    obtain ⟨t, k1, k2, k3, k4⟩ := h1.ms j hj e
    exact ⟨t, k1, k2, k3, Int.le_trans k4 (by have := l1.mcnt (n := n0); omega)⟩
  · obtain ⟨hrl, e1⟩ := List.getElem?_eq_some_iff.1 h2
    have hrn : r < n0 := by rw [← h1.gr.len]; exact hrl
    obtain ⟨_, u1⟩ := h1.gr.root hrn hrr
    obtain ⟨hrl2, u2⟩ := hgr.root hrn hrr
    rw [List.getElem?_eq_getElem hrl2, hs8.2.1 r hrl hrl2, u2, ← u1, ← e1]
end

/-- A box of one's own is written. -/
theorem SB.box {w0 w : World} {base g bv b c : Nat} {a bt : T} {n0 : Nat} {tm : Nat → T} {fs h : Nat → Nat} {ν : Nv} {n : Nat} {r : Nat} {m : Nd} {W X X' : World} {B : Nat} (H : SB w0 w base g bv b c n0 tm fs h ν n r m W X) (ho : Only [B] X X') (hS : MS w0 w base g bv b c a bt n0 tm fs h ν n) (hw : w.heap.size ≤ W.heap.size) (hB : W.heap.size ≤ B) : SB w0 w base g bv b c n0 tm fs h ν n r m W X' := by
  obtain ⟨ns, k1, k2, k3⟩ := H
  have hsz := k1.only.size
  have key : ∀ k, k < w.heap.size → X'.heap[k]? = X.heap[k]? := fun k hk => ho.block k (by omega) (by simp; omega)
  refine ⟨ns, ⟨⟨(key g hS.lg).trans k1.gat.box, row6_keep k1.gat.row (fun k e => by cases e; exact key b hS.lb), k1.gat.map.same (key bv hS.lv), k1.gat.args, k1.gat.ne, k1.gat.own⟩, k1.gr, k1.ms, ?_⟩, k2, ?_⟩
  · exact k1.only.trans ho (fun r hr => .inr (by simp at hr; omega))
  · exact k3.trans ho (fun r hr => .inr (by simp at hr; omega))

theorem box8 {X : World} {n : Nat} {a b c d e f x y : Value} (h : X.heap[n]? = some (.cells #[a, b, c, d, e, f, x, y] 89 (0, 0))) : (X.cell? ⟨n, 0, none⟩ = some a ∧ X.cell? ⟨n, 1, none⟩ = some b ∧ X.cell? ⟨n, 2, none⟩ = some c ∧ X.cell? ⟨n, 3, none⟩ = some d ∧ X.cell? ⟨n, 4, none⟩ = some e ∧ X.cell? ⟨n, 5, none⟩ = some f ∧ X.cell? ⟨n, 6, none⟩ = some x ∧ X.cell? ⟨n, 7, none⟩ = some y) ∧ (X.frozen? ⟨n, 0, none⟩ = false ∧ X.frozen? ⟨n, 1, none⟩ = false ∧ X.frozen? ⟨n, 2, none⟩ = false ∧ X.frozen? ⟨n, 3, none⟩ = false ∧ X.frozen? ⟨n, 4, none⟩ = false ∧ X.frozen? ⟨n, 5, none⟩ = false ∧ X.frozen? ⟨n, 6, none⟩ = false ∧ X.frozen? ⟨n, 7, none⟩ = false) := by
  refine ⟨⟨?_, ?_, ?_, ?_, ?_, ?_, ?_, ?_⟩, ?_, ?_, ?_, ?_, ?_, ?_, ?_, ?_⟩ <;> simp [World.cell?, World.frozen?, h]

/-- What built answers. -/
def BAns (w0 w : World) (base g bv b c : Nat) (n0 : Nat) (tm : Nat → T) (fs h : Nat → Nat) (ν : Nv) (n : Nat) (t : T) (W : World) (e : Ending) (W' : World) : Prop :=
  ∃ sl ns', e = .returned (tval t sl) ∧ ArgsFr W.heap.size W' sl t.args ∧ ML w0 w base g bv b c n0 tm fs h ν n ns' W' ∧ Only [b] W W'

/-- The graph, whatever its ways up. -/
def MLo (w0 w : World) (base g bv b c : Nat) (n0 : Nat) (tm : Nat → T) (fs h : Nat → Nat) (ν : Nv) (n : Nat) (W X : World) : Prop := ∃ ns, ML w0 w base g bv b c n0 tm fs h ν n ns X ∧ Only [b] W X

section
variable {w0 w : World} {base g bv b c : Nat} {a bt : T} {n0 : Nat} {tm : Nat → T} {fs h : Nat → Nat} {ν : Nv} {n : Nat} {W X X' : World}
theorem SB.o {r : Nat} {m : Nd} (H : SB w0 w base g bv b c n0 tm fs h ν n r m W X) : MLo w0 w base g bv b c n0 tm fs h ν n W X := by
  obtain ⟨ns, k1, k2, k3⟩ := H
  exact ⟨ns, k1, k3⟩
theorem MLo.keep (H : MLo w0 w base g bv b c n0 tm fs h ν n W X) (hb : Below X.heap.size X X') : MLo w0 w base g bv b c n0 tm fs h ν n W X' := by
  obtain ⟨ns, k1, k3⟩ := H
  exact ⟨ns, k1.keep hb, k3.trans (Only.of_below hb) (fun r hr => .inl hr)⟩
theorem MLo.box {B : Nat} (H : MLo w0 w base g bv b c n0 tm fs h ν n W X) (ho : Only [B] X X') (hS : MS w0 w base g bv b c a bt n0 tm fs h ν n) (hw : w.heap.size ≤ W.heap.size) (hB : W.heap.size ≤ B) : MLo w0 w base g bv b c n0 tm fs h ν n W X' := by
  obtain ⟨ns, k1, k3⟩ := H
  have hsz := k1.only.size
  have key : ∀ k, k < w.heap.size → X'.heap[k]? = X.heap[k]? := fun k hk => ho.block k (by omega) (by simp; omega)
  refine ⟨ns, ⟨⟨(key g hS.lg).trans k1.gat.box, row6_keep k1.gat.row (fun k e => by cases e; exact key b hS.lb), k1.gat.map.same (key bv hS.lv), k1.gat.args, k1.gat.ne, k1.gat.own⟩, k1.gr, k1.ms, ?_⟩, ?_⟩
  · exact k1.only.trans ho (fun r hr => .inr (by simp at hr; omega))
  · exact k3.trans ho (fun r hr => .inr (by simp at hr; omega))
end

theorem RowI.only {G N i b : Nat} {f : Nat → T} {W W' : World} (H : RowI G N i f W) (ho : Only [b] W W') (hb : b < G) : RowI G N i f W' := by
  obtain ⟨arr, h1, h2⟩ := H.blk
  have hlt : G < W.heap.size := (Array.getElem?_eq_some_iff.1 h1).1
  have hG := ho.block G hlt (by simp; omega)
  refine ⟨⟨arr, hG.trans h1, h2⟩, fun j hj => ?_⟩
  obtain ⟨s, c0, c1, c2, hs⟩ := H.el j hj
  exact ⟨s, (World.cell?_of_block (a := ⟨G, _, none⟩) hG).trans c0, (World.cell?_of_block (a := ⟨G, _, none⟩) hG).trans c1, (World.cell?_of_block (a := ⟨G, _, none⟩) hG).trans c2, hs.keep ho.size (fun k hk hl => ho.block k hl (by simp; omega))⟩

theorem only_set3 (W : World) (G o : Nat) (u v s : Value) : Only [G] W (set3 W G o u v s) := ((only_setCell W G o u).trans (only_setCell _ G _ v) (fun _r hr => .inl hr)).trans (only_setCell _ G _ s) (fun _r hr => .inl hr)

/-- What built's loop keeps. -/
structure BL (w0 w : World) (base g bv b c : Nat) (n0 : Nat) (tm : Nat → T) (fs h : Nat → Nat) (ν : Nv) (n : Nat) (W1 : World) (m : Nd) (B5 G N : Nat) (f : Nat → T) (k : Nat) (wr : World) : Prop where
  row : RowI G N k f wr
  ml : MLo w0 w base g bv b c n0 tm fs h ν n W1 wr
  b5 : wr.heap[B5]? = some (nbox m)
  l5 : W1.heap.size ≤ B5
  lG : B5 < G

/-- Behind the head, with the node copied. -/
structure BB (w0 w : World) (base g bv b c : Nat) (n0 : Nat) (tm : Nat → T) (fs h : Nat → Nat) (ν : Nv) (n : Nat) (r : Nat) (m : Nd) (W1 wx : World) (B5 : Nat) : Prop where
  sb : SB w0 w base g bv b c n0 tm fs h ν n r m W1 wx
  b5 : wx.heap[B5]? = some (nbox m)
  l5 : W1.heap.size ≤ B5

set_option maxRecDepth 100000 in
set_option maxHeartbeats 4000000 in
theorem built_step (w0 w : World) (base g bv b c : Nat) (a bt : T) (n0 : Nat) (tm : Nat → T) (fs h : Nat → Nat) (ν : Nv) (n : Nat) (hS : MS w0 w base g bv b c a bt n0 tm fs h ν n) (t : T)
    (IH : ∀ u ∈ t.args, ∀ (ns : List Nd) (W : World) (i : Nat), i < n0 → Bl tm fs h i u → ML w0 w base g bv b c n0 tm fs h ν n ns W → Calls Try.prog 31 #[.pointer (some ⟨g, 0, none⟩), .int .i64 i] W fun e W' => BAns w0 w base g bv b c n0 tm fs h ν n u W e W')
    (ns : List Nd) (W : World) (i : Nat) (hi : i < n0) (hB : Bl tm fs h i t) (hM : ML w0 w base g bv b c n0 tm fs h ν n ns W) :
    Calls Try.prog 31 #[.pointer (some ⟨g, 0, none⟩), .int .i64 i] W fun e W' => BAns w0 w base g bv b c n0 tm fs h ν n t W e W' := by
  obtain ⟨r, hr⟩ : ∃ r, h i = r := ⟨_, rfl⟩
  have hrn : r < n0 := by rw [← hr]; exact hS.sol.lt i hi
  have hrr : h r = r := by rw [← hr]; exact hS.sol.idem i hi
  obtain ⟨W1, hW1⟩ : ∃ X, W.alloc (.cells #[.int .i64 0, .string ⟨#[]⟩, .slice none 0 0] 24) = X := ⟨_, rfl⟩
  have hb1 : Below W.heap.size W W1 := by rw [← hW1]; exact below_box W _
  have hs1 : W1.heap.size = W.heap.size + 1 := by rw [← hW1]; simp
  have hrl : r < ns.length := by rw [hM.gr.len]; exact hrn
  obtain ⟨m, hm⟩ : ∃ m, ns[r] = m := ⟨_, rfl⟩
  have hd : SB w0 w base g bv b c n0 tm fs h ν n r m W1 W1.drew := ⟨ns, (hM.keep hb1).keep ((Below.refl _ _).drew), by rw [List.getElem?_eq_getElem hrl, hm], Only.of_below ((Below.refl _ _).drew)⟩
  have HC : Hid (∀ X, SB w0 w base g bv b c n0 tm fs h ν n r m W1 X → Calls Try.prog 54 #[.pointer (some ⟨g, 0, none⟩), .int .i64 (i : Int)] X fun e X' => e = .returned (.int .i64 (r : Int)) ∧ SB w0 w base g bv b c n0 tm fs h ν n r m W1 X' ∧ Wrote b X X') := fun X hX => hX.head hS.small hi hr hrr
  have HCEL := hid (fun X (hX : SB w0 w base g bv b c n0 tm fs h ν n r m W1 X) => hX.cells)
  obtain ⟨sa, sc, hsl, l1, l2⟩ := (hM.gat.args ns[r] (List.getElem_mem hrl)).slice
  obtain ⟨tr, fr⟩ := hM.gr.nd r hrl
  rw [hm] at hsl l1 tr fr
  obtain ⟨mt, msl, mf, mu, mo, ms, md⟩ := m
  simp only at hsl l1 tr fr
  subst hsl tr fr
  have HW1 := hid hW1
  have HH : Hid (i < n0 ∧ h i = r ∧ r < n0 ∧ h r = r ∧ MS w0 w base g bv b c a bt n0 tm fs h ν n ∧ Bl tm fs h i t ∧ b < W.heap.size ∧ w.heap.size ≤ W.heap.size ∧ Below W.heap.size W W1 ∧ W1.heap.size = W.heap.size + 1) := ⟨hi, hr, hrn, hrr, hS, hB, Nat.lt_of_lt_of_le hS.lb hM.only.size, hM.only.size, hb1, hs1⟩
  have HIH := hid IH
  have i0 : (0 : Int) ≤ (r : Int) := Int.natCast_nonneg r
  have i1 : (r : Int) < (n0 : Int) := by omega
  clear hM hb1 hs1 hrr hr hi hS hrn hW1 hB IH hm hrl
  go_enter Try.func31, Try.ntmps31
  go_upto_region 1 with fail
  rw [HW1.out]
  go_cut [5] from 8 (fun v5 wx => ∃ B5 : Nat, v5 = .pointer (some ⟨B5, 0, none⟩) ∧ Hid (BB w0 w base g bv b c n0 tm fs h ν n r ⟨tm r, .slice sa (tm r).args.length sc, (fs r : Int), mu, mo, ms, md⟩ W1 wx B5))
  case first =>
    obtain ⟨Wd, hWd⟩ : ∃ X, W1.drew = X := ⟨_, rfl⟩
    rw [hWd] at hd
    have HSD : Hid (Wd.heap.size = W1.heap.size) := by show _ = _; rw [← hWd]; rfl
    have hnb : ∀ k, W1.heap.size ≤ k → k ≠ b := fun k hk => by have := HH.out.2.2.2.2.2.2.1; have := HH.out.2.2.2.2.2.2.2.2.2; omega
    refine wp_region_held_drew (S := fun Z => SB w0 w base g bv b c n0 tm fs h ν n r ⟨tm r, .slice sa (tm r).args.length sc, (fs r : Int), mu, mo, ms, md⟩ W1 Z) (by kernel_rfl) (by rw [hWd]; exact hd) (fun hHeld => ?_)
    rw [hWd] at hHeld ⊢
    refine take_mk 0 (.pointer (some ⟨g, 0, none⟩)) rfl (by kernel_rfl) (by kernel_rfl) (by kernel_rfl) (fun _ _ _ h => h) (Or.inl ⟨by rfl, fun Z hZ => by go_simp⟩) (by assumption) ?_
    try simp only [Act.put, List.setIfInBounds_toArray, List.set_cons_zero, List.set_cons_succ]
    refine take_mk 1 (.pointer (some ⟨g, 0, none⟩)) rfl (by kernel_rfl) (by kernel_rfl) (by kernel_rfl) (fun _ _ _ h => h) (Or.inl ⟨by rfl, fun Z hZ => by go_simp⟩) (by assumption) ?_
    try simp only [Act.put, List.setIfInBounds_toArray, List.set_cons_zero, List.set_cons_succ]
    refine take_mk 2 (.pointer (some ⟨g, 0, none⟩)) rfl (by kernel_rfl) (by kernel_rfl) (by kernel_rfl) (fun _ _ _ h => h) (Or.inl ⟨by rfl, fun Z hZ => by go_simp⟩) (by assumption) ?_
    try simp only [Act.put, List.setIfInBounds_toArray, List.set_cons_zero, List.set_cons_succ]
    refine take_mk 3 (.slice (some ⟨b, 0, none⟩) n0 c) rfl (by kernel_rfl) (by kernel_rfl) (by kernel_rfl) (fun _ _ _ h => h) (Or.inl ⟨by rfl, fun Z hZ => by obtain ⟨y0, y1, y2, y3, y4, y5, y6, y7, y8⟩ := HCEL.out Z hZ; go_simp⟩) (by assumption) ?_
    try simp only [Act.put, List.setIfInBounds_toArray, List.set_cons_zero, List.set_cons_succ]
    refine take_mk 4 (.pointer (some ⟨g, 0, none⟩)) rfl (by kernel_rfl) (by kernel_rfl) (by kernel_rfl) (fun _ _ _ h => h) (Or.inl ⟨by rfl, fun Z hZ => by go_simp⟩) (by assumption) ?_
    try simp only [Act.put, List.setIfInBounds_toArray, List.set_cons_zero, List.set_cons_succ]
    refine take_mk 5 (.int .i64 (i : Nat)) rfl (by kernel_rfl) (by kernel_rfl) (by kernel_rfl) (fun _ _ _ h => h) (Or.inl ⟨by rfl, fun Z hZ => by go_simp⟩) (by assumption) ?_
    try simp only [Act.put, List.setIfInBounds_toArray, List.set_cons_zero, List.set_cons_succ]
    refine wpAnyH_ready (rs := [6, 9]) (by kernel_rfl) (by simp) (AllReadyH.cons (o := ⟨_, _, _, _, _, _⟩) rfl (fun K hK => ?_) (AllReadyH.cons (o := ⟨_, _, _, _, _, _⟩) rfl (fun K hK => ?_) AllReadyH.nil))
    · skip
      rw [if_pos (by rfl)]
      go_simp
      refine (HC.out Wd hd).mono ?_
      rintro e Xa ⟨rfl, sXa, wrXa⟩
      refine hK.out _ _ sXa (fun _ => ?_)
      clear hK K
      try simp only [Act.put, List.setIfInBounds_toArray, List.set_cons_zero, List.set_cons_succ]
      refine take_mk 7 (.pointer (some ⟨b, r * 8, none⟩)) rfl (by kernel_rfl) (by kernel_rfl) (by kernel_rfl) (fun _ _ _ h => h) (Or.inl ⟨by rfl, fun Z hZ => by go_simp⟩) (by assumption) ?_
      try simp only [Act.put, List.setIfInBounds_toArray, List.set_cons_zero, List.set_cons_succ]
      refine take_mk 8 (.agg #[.int .i64 (tm r).v, .string (tm r).fn, .slice sa (tm r).args.length sc, .int .i64 (fs r : Int), .int .i64 mu, .bool mo, .int .i64 ms, .int .i64 md]) rfl (by kernel_rfl) (by kernel_rfl) (by kernel_rfl) (fun _ _ _ h => h) (Or.inl ⟨by rfl, fun Z hZ => by obtain ⟨y0, y1, y2, y3, y4, y5, y6, y7, y8⟩ := HCEL.out Z hZ; go_simp⟩) (by assumption) ?_
      try simp only [Act.put, List.setIfInBounds_toArray, List.set_cons_zero, List.set_cons_succ]
      refine wpAnyH_ready (rs := [9]) (by kernel_rfl) (by simp) (AllReadyH.cons (o := ⟨_, _, _, _, _, _⟩) rfl (fun K hK => ?_) AllReadyH.nil)
      rw [if_pos (by rfl)]
      go_simp
      obtain ⟨B5, hB5⟩ : ∃ k, Xa.heap.size = k := ⟨_, rfl⟩
      obtain ⟨Xb, hXb⟩ : ∃ X, Xa.alloc (.cells #[.int .i64 0, .string ⟨#[]⟩, .slice none 0 0, .int .i64 0, .int .i64 0, .bool false, .int .i64 0, .int .i64 0] 89) = X := ⟨_, rfl⟩
      have sXb : SB w0 w base g bv b c n0 tm fs h ν n r ⟨tm r, .slice sa (tm r).args.length sc, (fs r : Int), mu, mo, ms, md⟩ W1 Xb := by rw [← hXb]; exact sXa.keep (below_box _ _)
      have zXb : Xb.heap[B5]? = some (.cells #[.int .i64 0, .string ⟨#[]⟩, .slice none 0 0, .int .i64 0, .int .i64 0, .bool false, .int .i64 0, .int .i64 0] 89 (0, 0)) := by rw [← hXb, ← hB5]; exact (MapKept.heap_alloc _ _).1
      have l5 : W1.heap.size ≤ B5 := by
        obtain ⟨_, _, _, k3⟩ := sXa
        have := k3.size
        have := HSD.out
        omega
      try rw [hXb]
      try rw [hB5]
      refine hK.out _ _ sXb (fun _ => ?_)
      clear hK K
      try simp only [Act.put, List.setIfInBounds_toArray, List.set_cons_zero, List.set_cons_succ]
      obtain ⟨W9, hrun, hx9, hon⟩ := agg_store 89 Xb B5 #[.int .i64 0, .string ⟨#[]⟩, .slice none 0 0, .int .i64 0, .int .i64 0, .bool false, .int .i64 0, .int .i64 0] [.int .i64 (tm r).v, .string (tm r).fn, .slice sa (tm r).args.length sc, .int .i64 (fs r : Int), .int .i64 mu, .bool mo, .int .i64 ms, .int .i64 md] zXb rfl (by kernel_rfl) (by intro u hu; simp only [List.mem_cons, List.not_mem_nil, or_false] at hu; rcases hu with rfl | rfl | rfl | rfl | rfl | rfl | rfl | rfl <;> rfl)
      have s9 : SB w0 w base g bv b c n0 tm fs h ν n r ⟨tm r, .slice sa (tm r).args.length sc, (fs r : Int), mu, mo, ms, md⟩ W1 W9 := sXb.box hon HH.out.2.2.2.2.1 (Nat.le_trans HH.out.2.2.2.2.2.2.2.1 (by have := HH.out.2.2.2.2.2.2.2.2.2; omega)) l5
      refine wpAnyH_ready (rs := [10]) (by kernel_rfl) (by simp) (AllReadyH.cons (o := ⟨_, _, _, _, _, _⟩) rfl (fun K hK => ?_) AllReadyH.nil)
      rw [if_pos (by rfl)]
      refine wp_store_run 89 _ _ rfl (.pointer (some ⟨B5, 0, none⟩)) (.agg #[.int .i64 (tm r).v, .string (tm r).fn, .slice sa (tm r).args.length sc, .int .i64 (fs r : Int), .int .i64 mu, .bool mo, .int .i64 ms, .int .i64 md]) rfl rfl hrun ?_
      refine hK.out _ _ s9 (fun _ => ?_)
      clear hK K
      refine wpAnyH_done (by kernel_rfl) ?_ _
      try simp only [Act.put]
      go_wp2
      go_meet
      exact ⟨B5, rfl, s9, hx9, l5⟩
    · skip
      rw [if_pos (by rfl)]
      go_simp
      obtain ⟨B5, hB5⟩ : ∃ k, Wd.heap.size = k := ⟨_, rfl⟩
      obtain ⟨Xa, hXa⟩ : ∃ X, Wd.alloc (.cells #[.int .i64 0, .string ⟨#[]⟩, .slice none 0 0, .int .i64 0, .int .i64 0, .bool false, .int .i64 0, .int .i64 0] 89) = X := ⟨_, rfl⟩
      have sXa : SB w0 w base g bv b c n0 tm fs h ν n r ⟨tm r, .slice sa (tm r).args.length sc, (fs r : Int), mu, mo, ms, md⟩ W1 Xa := by rw [← hXa]; exact hd.keep (below_box _ _)
      have zXa : Xa.heap[B5]? = some (.cells #[.int .i64 0, .string ⟨#[]⟩, .slice none 0 0, .int .i64 0, .int .i64 0, .bool false, .int .i64 0, .int .i64 0] 89 (0, 0)) := by rw [← hXa, ← hB5]; exact (MapKept.heap_alloc _ _).1
      have l5 : W1.heap.size ≤ B5 := by
        obtain ⟨_, _, _, k3⟩ := hd
        have := k3.size
        have := HSD.out
        omega
      try rw [hXa]
      try rw [hB5]
      refine hK.out _ _ sXa (fun _ => ?_)
      clear hK K
      try simp only [Act.put, List.setIfInBounds_toArray, List.set_cons_zero, List.set_cons_succ]
      refine wpAnyH_ready (rs := [6]) (by kernel_rfl) (by simp) (AllReadyH.cons (o := ⟨_, _, _, _, _, _⟩) rfl (fun K hK => ?_) AllReadyH.nil)
      rw [if_pos (by rfl)]
      go_simp
      refine (HC.out Xa sXa).mono ?_
      rintro e Xb ⟨rfl, sXb, wrXb⟩
      refine hK.out _ _ sXb (fun _ => ?_)
      clear hK K
      try simp only [Act.put, List.setIfInBounds_toArray, List.set_cons_zero, List.set_cons_succ]
      have zXb := (wrXb.block B5 (hnb B5 l5)).trans zXa
      refine take_mk 7 (.pointer (some ⟨b, r * 8, none⟩)) rfl (by kernel_rfl) (by kernel_rfl) (by kernel_rfl) (fun _ _ _ h => h) (Or.inl ⟨by rfl, fun Z hZ => by go_simp⟩) (by assumption) ?_
      try simp only [Act.put, List.setIfInBounds_toArray, List.set_cons_zero, List.set_cons_succ]
      refine take_mk 8 (.agg #[.int .i64 (tm r).v, .string (tm r).fn, .slice sa (tm r).args.length sc, .int .i64 (fs r : Int), .int .i64 mu, .bool mo, .int .i64 ms, .int .i64 md]) rfl (by kernel_rfl) (by kernel_rfl) (by kernel_rfl) (fun _ _ _ h => h) (Or.inl ⟨by rfl, fun Z hZ => by obtain ⟨y0, y1, y2, y3, y4, y5, y6, y7, y8⟩ := HCEL.out Z hZ; go_simp⟩) (by assumption) ?_
      try simp only [Act.put, List.setIfInBounds_toArray, List.set_cons_zero, List.set_cons_succ]
      obtain ⟨W9, hrun, hx9, hon⟩ := agg_store 89 Xb B5 #[.int .i64 0, .string ⟨#[]⟩, .slice none 0 0, .int .i64 0, .int .i64 0, .bool false, .int .i64 0, .int .i64 0] [.int .i64 (tm r).v, .string (tm r).fn, .slice sa (tm r).args.length sc, .int .i64 (fs r : Int), .int .i64 mu, .bool mo, .int .i64 ms, .int .i64 md] zXb rfl (by kernel_rfl) (by intro u hu; simp only [List.mem_cons, List.not_mem_nil, or_false] at hu; rcases hu with rfl | rfl | rfl | rfl | rfl | rfl | rfl | rfl <;> rfl)
      have s9 : SB w0 w base g bv b c n0 tm fs h ν n r ⟨tm r, .slice sa (tm r).args.length sc, (fs r : Int), mu, mo, ms, md⟩ W1 W9 := sXb.box hon HH.out.2.2.2.2.1 (Nat.le_trans HH.out.2.2.2.2.2.2.2.1 (by have := HH.out.2.2.2.2.2.2.2.2.2; omega)) l5
      refine wpAnyH_ready (rs := [10]) (by kernel_rfl) (by simp) (AllReadyH.cons (o := ⟨_, _, _, _, _, _⟩) rfl (fun K hK => ?_) AllReadyH.nil)
      rw [if_pos (by rfl)]
      refine wp_store_run 89 _ _ rfl (.pointer (some ⟨B5, 0, none⟩)) (.agg #[.int .i64 (tm r).v, .string (tm r).fn, .slice sa (tm r).args.length sc, .int .i64 (fs r : Int), .int .i64 mu, .bool mo, .int .i64 ms, .int .i64 md]) rfl rfl hrun ?_
      refine hK.out _ _ s9 (fun _ => ?_)
      clear hK K
      refine wpAnyH_done (by kernel_rfl) ?_ _
      try simp only [Act.put]
      go_wp2
      go_meet
      exact ⟨B5, rfl, s9, hx9, l5⟩
  case rest =>
    obtain ⟨B5, rfl, HBB⟩ := hcut
    obtain ⟨W2, hW2⟩ : ∃ X, X = wc := ⟨_, rfl⟩
    rw [← hW2] at HBB ⊢
    clear hW2 hd HC HCEL
    obtain ⟨p0, p1, p2, p3⟩ := nbox_facts HBB.out.b5
    simp only at p0 p1 p2 p3
    have HML := hid HBB.out.sb.o
    have HBX : Hid (∀ X, MLo w0 w base g bv b c n0 tm fs h ν n W1 X → X.heap[W.heap.size]? = some (.cells #[.int .i64 0, .string ⟨#[]⟩, .slice none 0 0] 24 (0, 0))) := fun X ⟨_, _, k3⟩ => (k3.block _ (by have := HH.out.2.2.2.2.2.2.2.2.2; omega) (by have := HH.out.2.2.2.2.2.2.1; simp; omega)).trans (by rw [← HW1.out]; exact (MapKept.heap_alloc W _).1)
    obtain ⟨tv, tf, tl, tk⟩ := HH.out.2.2.2.2.2.1.inv
    rw [HH.out.2.1] at tv tf tl tk
    have HON : Hid (∀ X, MLo w0 w base g bv b c n0 tm fs h ν n W1 X → Only [b] W X) := fun X ⟨_, _, k3⟩ => (Only.of_below HH.out.2.2.2.2.2.2.2.2.1).trans k3 (fun r hr => .inl hr)
    have HMW : Hid (∀ X, MLo w0 w base g bv b c n0 tm fs h ν n W1 X → MLo w0 w base g bv b c n0 tm fs h ν n W X) := fun X hX => by
      obtain ⟨ns', k1, k3⟩ := hX
      exact ⟨ns', k1, HON.out X ⟨ns', k1, k3⟩⟩
    by_cases hn0 : (tm r).args.length = 0
    · rw [hn0] at p2
      obtain ⟨⟨z0, z1, z2⟩, y0, y1, y2⟩ := box_facts (HBX.out W2 HML.out)
      have ht : t = .mk (tm r).v (tm r).fn [] := by
        rw [T.eta t, tv, tf]
        congr 1
        exact List.eq_nil_of_length_eq_zero (by omega)
      have HT := hid ht
      clear ht tv tf tl tk hn0 l1
      go_wp2
      refine bodyPost_ret (v := tval (.mk (tm r).v (tm r).fn []) (.slice none 0 0)) (by simp [results, Try.results31, go_sem, *, T.v, T.fn]) rfl ?_
      obtain ⟨ns', k1, k2⟩ := (HMW.out W2 HML.out).box (only_set3 W2 W.heap.size 0 (.int .i64 (tm r).v) (.string (tm r).fn) (.slice none 0 0)) HH.out.2.2.2.2.1 HH.out.2.2.2.2.2.2.2.1 (Nat.le_refl _)
      exact ⟨.slice none 0 0, ns', by rw [HT.out], by rw [HT.out]; exact ArgsFr.nil _ _, k1, k2⟩
    · have h16 : (tm r).args.length ≤ 16 := by
        have := HH.out.2.2.2.2.1.shp r HH.out.2.2.1
        cases hv : uvar (tm r) with
        | true => rw [(shape_var this hv).1]; simp
        | false => exact (shape_fn this hv).2.1
      have hfv : (tm r).v = 0 := by
        have := HH.out.2.2.2.2.1.shp r HH.out.2.2.1
        cases hv : uvar (tm r) with
        | true => rw [(shape_var this hv).1] at hn0; exact absurd rfl hn0
        | false => exact (shape_fn this hv).1
      obtain ⟨N, hN⟩ : ∃ N, (tm r).args.length = N := ⟨_, rfl⟩
      rw [hN] at p2 hn0 h16 tl
      have ht : t = .mk 0 (tm r).fn t.args := by rw [T.eta t, tv, tf, hfv]; rfl
      have HT : Hid (t = .mk 0 (tm r).fn t.args ∧ t.args.length = N) := ⟨ht, tl⟩
      have HK : Hid (∀ l (hl : l < t.args.length), Bl tm fs h (fs r + l) t.args[l] ∧ fs r + l < n0 ∧ fs r + l < 8000) := fun l hl => by
        have := (HH.out.2.2.2.2.1.lay.kids r HH.out.2.2.1 l (by omega)).1
        have := HH.out.2.2.2.2.1.small
        exact ⟨tk l hl, by omega, by omega⟩
      obtain ⟨f, hf⟩ : ∃ f : Nat → T, ∀ j (hj : j < t.args.length), t.args[j] = f j := ⟨fun j => (t.args[j]?).getD t, fun j hj => by simp [hj]⟩
      have HF := hid hf
      obtain ⟨i0', hi, hz0, hz1, hz2⟩ := info_parts Try.info24
      obtain ⟨arr, harr⟩ : ∃ arr, madeCells (Value.agg #[.int .i64 0, .string ⟨#[]⟩, .slice none 0 0]).cells (N * 3) = arr := ⟨_, rfl⟩
      have hs : arr.size = N * 3 := by rw [← harr]; simp [madeCells]
      have hmk : ∀ W : World, (Instr.makeSlice 22 (.int .i64 N) (.int .i64 N)).run Try.prog W = .ok (.slice (some ⟨W.heap.size, 0, none⟩) N N) (W.alloc (.cells arr 24)) := by
        intro W
        have := run_make (P := Try.prog) W 22 24 i0' _ Try.underlying22 hi hz0 .i64 .i64 N N (by omega) (Int.le_refl _) (by rw [hz2]; omega) (by omega)
        rw [hz1] at this
        simp only [Int.toNat_natCast, harr] at this
        exact this
      have hd0 : ((N : Int) == 0) = false := by rw [beq_eq_false_iff_ne]; omega
      have H0 : Hid (BL w0 w base g bv b c n0 tm fs h ν n W1 ⟨tm r, .slice sa N sc, (fs r : Int), mu, mo, ms, md⟩ B5 W2.heap.size N f 0 (W2.alloc (.cells arr 24))) := by
        have hb := below_box W2 (.cells arr 24)
        have h5 := HBB.out.b5
        rw [hN] at h5
        have l5 := (Array.getElem?_eq_some_iff.1 h5).1
        exact ⟨⟨⟨arr, (MapKept.heap_alloc W2 (.cells arr 24)).1, hs⟩, fun j hj => by omega⟩, HML.out.keep hb, (hb.block _ l5).trans h5, HBB.out.l5, l5⟩
      clear ht tv tf tl tk hn0 l1 hf harr hs hN hfv hi hz0 hz1 hz2
      go_wp2
      go_loopw [36] (fun vk wr => ∃ k : Nat, vk = .int .i64 k ∧ k ≤ N ∧ Hid (BL w0 w base g bv b c n0 tm fs h ν n W1 ⟨tm r, .slice sa N sc, (fs r : Int), mu, mo, ms, md⟩ B5 W2.heap.size N f k wr)) (fun vk _ => N - (intOf vk).toNat)
      case atStart => exact ⟨0, rfl, Nat.zero_le _, H0.out⟩
      case round =>
        obtain ⟨k, rfl, hk, HL⟩ := hrel
        obtain ⟨_, q1, _, q3⟩ := nbox_facts HL.out.b5
        simp only at q1 q3
        by_cases hlt : k < N
        · have hlt' : k < t.args.length := by rw [HT.out.2]; exact hlt
          obtain ⟨b1, b2, b3⟩ := HK.out k hlt'
          obtain ⟨ns3, ml3, on3⟩ := HL.out.ml
          have hx : Calls Try.prog 31 #[.pointer (some ⟨g, 0, none⟩), .int .i64 ((fs r : Int) + (k : Int))] wr fun e W' => BAns w0 w base g bv b c n0 tm fs h ν n t.args[k] wr e W' := by
            have := HIH.out t.args[k] (List.getElem_mem hlt') ns3 wr (fs r + k) b2 b1 ml3
            rw [Int.natCast_add] at this
            exact this
          have hfk := HF.out k hlt'
          rw [hfk] at hx
          have HGL : Hid (W2.heap.size < wr.heap.size ∧ b < W2.heap.size) := by
            obtain ⟨arr, h1, _⟩ := HL.out.row.blk
            refine ⟨(Array.getElem?_eq_some_iff.1 h1).1, ?_⟩
            have := HL.out.lG
            have := HL.out.l5
            have := HH.out.2.2.2.2.2.2.1
            have := HH.out.2.2.2.2.2.2.2.2.2
            omega
          clear b1 b2 ml3 on3 hfk hlt'
          go_wp2_with fail
          refine hx.mono ?_
          rintro e W3 ⟨sl, ns4, rfl, hfr, ml4, on4⟩
          obtain ⟨pa, pc, rfl⟩ := hfr.slice
          have hrow := HL.out.row.only on4 HGL.out.2
          obtain ⟨_, ⟨u0, u1, u2, c0, c1, c2⟩, y0, y1, y2⟩ := hrow.facts hlt
          have h5 := (on4.block B5 (Array.getElem?_eq_some_iff.1 HL.out.b5).1 (by have := HL.out.l5; have := HH.out.2.2.2.2.2.2.1; have := HH.out.2.2.2.2.2.2.2.2.2; simp; omega)).trans HL.out.b5
          have HE : Hid (BL w0 w base g bv b c n0 tm fs h ν n W1 ⟨tm r, .slice sa N sc, (fs r : Int), mu, mo, ms, md⟩ B5 W2.heap.size N f (k + 1) (set3 W3 W2.heap.size (k * 3) (.int .i64 (f k).v) (.string (f k).fn) (.slice pa (f k).args.length pc))) := by
            obtain ⟨_, _, on3⟩ := HL.out.ml
            have ho := only_set3 W3 W2.heap.size (k * 3) (.int .i64 (f k).v) (.string (f k).fn) (.slice pa (f k).args.length pc)
            have hm3 : MLo w0 w base g bv b c n0 tm fs h ν n W1 W3 := ⟨ns4, ml4, on3.trans on4 (fun r hr => .inl hr)⟩
            refine ⟨hrow.step hlt _ (hfr.low (by have := HGL.out.1; omega)), hm3.box ho HH.out.2.2.2.2.1 (by have := HH.out.2.2.2.2.2.2.2.1; have := HH.out.2.2.2.2.2.2.2.2.2; omega) (by have := HL.out.l5; have := HL.out.lG; omega), ?_, HL.out.l5, HL.out.lG⟩
            exact (ho.block B5 (Array.getElem?_eq_some_iff.1 h5).1 (by have := HL.out.lG; simp; omega)).trans h5
          have k0 : (0 : Int) ≤ (k : Int) := Int.natCast_nonneg k
          have k1 : (k : Int) < (N : Int) := by omega
          clear hfr ml4 on4 hrow h5 hx
          go_wp2
          go_roundw
          case rel => exact ⟨k + 1, by go_num, by omega, HE.out⟩
          case measure => simp [intOf]; omega
        · obtain rfl : k = N := by omega
          obtain ⟨⟨z0, z1, z2⟩, y0, y1, y2⟩ := box_facts (HBX.out wr HL.out.ml)
          go_wp2
          refine bodyPost_ret (v := tval (.mk 0 (tm r).fn t.args) (.slice (some ⟨W2.heap.size, 0, none⟩) k k)) (by simp [results, Try.results31, go_sem, *, T.v, T.fn]) rfl ?_
          have ho := only_set3 wr W.heap.size 0 (.int .i64 0) (.string (tm r).fn) (.slice (some ⟨W2.heap.size, 0, none⟩) k k)
          obtain ⟨ns', k1, k2⟩ := (HMW.out wr HL.out.ml).box ho HH.out.2.2.2.2.1 HH.out.2.2.2.2.2.2.2.1 (Nat.le_refl _)
          refine ⟨.slice (some ⟨W2.heap.size, 0, none⟩) k k, ns', by rw [← HT.out.1], ?_, k1, k2⟩
          have hfr := HL.out.row.fr (l := t.args) HT.out.2 (fun i hi => HF.out i hi) (by omega)
          have hGW : W.heap.size < W2.heap.size := by have := HL.out.l5; have := HL.out.lG; have := HH.out.2.2.2.2.2.2.2.2.2; omega
          exact (hfr.keep ho.size (fun j hj hl => ho.block j hl (by simp; omega))).low (by omega)

theorem built_any (w0 w : World) (base g bv b c : Nat) (a bt : T) (n0 : Nat) (tm : Nat → T) (fs h : Nat → Nat) (ν : Nv) (n : Nat) (hS : MS w0 w base g bv b c a bt n0 tm fs h ν n) (t : T) : ∀ (ns : List Nd) (W : World) (i : Nat), i < n0 → Bl tm fs h i t → ML w0 w base g bv b c n0 tm fs h ν n ns W → Calls Try.prog 31 #[.pointer (some ⟨g, 0, none⟩), .int .i64 i] W fun e W' => BAns w0 w base g bv b c n0 tm fs h ν n t W e W' := by
  induction t using T.ind with
  | _ t ih =>
    intro ns W i hi hB hM
    exact built_step w0 w base g bv b c a bt n0 tm fs h ν n hS t ih ns W i hi hB hM

end Go.Proofs.Ytblfbmdnkgebdaa
