import Derived.Test.YthkinkcpfcpehaaGreatDoorFV
namespace Go.Proofs.YthkinkcpfcpehaaGreatDoor
set_option maxRecDepth 100000
open Go.RowKit
open Lx (row_keep row_block row_slice)
/-- A piece, and where it lies. -/
structure Pc where
  p : Nat
  f : Fm
  sl : Value
  sr : Value
  sk : Value
/-- The cells of pieces' formulas. -/
def flP (l : List Pc) : List Value := l.flatMap fun x => fcells x.f x.sl x.sr x.sk
theorem flP_len (l : List Pc) : (flP l).length = l.length * 9 := by
  induction l with
  | nil => rfl
  | cons a r ih => simp only [flP, List.flatMap_cons, List.length_append, List.length_cons, List.length_nil] at ih ⊢; omega
theorem flP_snoc (l : List Pc) (x : Pc) : flP (l ++ [x]) = flP l ++ fcells x.f x.sl x.sr x.sk := by simp [flP]
theorem flP_get : ∀ (l : List Pc) (i : Nat) (h : i < l.length) (j : Nat), j < 9 → (flP l)[i * 9 + j]? = (fcells l[i].f l[i].sl l[i].sr l[i].sk)[j]?
  | x :: l, 0, _, j, hj => by
    show (fcells x.f x.sl x.sr x.sk ++ flP l)[0 * 9 + j]? = _
    rw [List.getElem?_append_left (by simp; omega), Nat.zero_mul, Nat.zero_add]
    rfl
  | x :: l, i + 1, h, j, hj => by
    have ih := flP_get l i (by simpa using h) j hj
    show (fcells x.f x.sl x.sr x.sk ++ flP l)[(i + 1) * 9 + j]? = _
    rw [List.getElem?_append_right (by simp; omega)]
    rw [show (i + 1) * 9 + j - (fcells x.f x.sl x.sr x.sk).length = i * 9 + j by simp; omega]
    exact ih
theorem row_cellR {W : World} {base : Nat} {e : TypeId} {size n : Nat} {g c : Nat} {xs : List Value} (h : W.ownsRow base e size (.slice (some ⟨g, 0, none⟩) n c) n xs) {j : Nat} {u : Value} (hj : xs[j]? = some u) : W.cell? ⟨g, j, none⟩ = some u ∧ W.frozen? ⟨g, j, none⟩ = false := by
  obtain ⟨hl, ⟨e, h0⟩ | ⟨g', cap, cur, e, hb, hg, hc, hm, hsz, ht⟩⟩ := h
  · cases e
  · cases e
    have hjl : j < n * size := by rw [← hl]; exact (List.getElem?_eq_some_iff.1 hj).1
    rw [← ht, List.getElem?_take, if_pos hjl, Array.getElem?_toList] at hj
    exact ⟨by simp [World.cell?, hg, hj], by simp [World.frozen?, hg]⟩
theorem row_put {W : World} {base : Nat} {e : TypeId} {size n : Nat} {g c : Nat} {xs : List Value} (h : W.ownsRow base e size (.slice (some ⟨g, 0, none⟩) n c) n xs) (j : Nat) (u : Value) (_hj : j < xs.length) : (W.setCell ⟨g, j, none⟩ u).ownsRow base e size (.slice (some ⟨g, 0, none⟩) n c) n (xs.set j u) := by
  obtain ⟨hl, ⟨e', h0⟩ | ⟨g', cap, cur, e', hb, hg, hc, hm, hsz, ht⟩⟩ := h
  · cases e'
  · cases e'
    refine ⟨by simpa using hl, .inr ⟨g, c, cur.setIfInBounds j u, rfl, hb, heap_setCell_same W g j cur e u hg, hc, hm, by simpa using hsz, ?_⟩⟩
    rw [Array.toList_setIfInBounds, List.take_set, ht]
theorem kidsP_of_row {P : Nat → Prop} {W : World} {base : Nat} {v : Value} {l : List Pc} (h : W.ownsRow base 27 9 v l.length (flP l)) (hP : ∀ g, v.ownBlock = some g → P g) (hs : ∀ x ∈ l, FmP P W x.f x.sl x.sr x.sk) : KidsP P W v (l.map Pc.f) := by
  have h' := h
  obtain ⟨hl, ⟨e, h0⟩ | ⟨g, cap, cur, e, hb, hg, hc, hm, hsz, ht⟩⟩ := h
  · have : l = [] := List.eq_nil_of_length_eq_zero h0
    subst this
    rw [e]
    exact KidsP.nil P W
  · subst e
    have hget : ∀ j u, (flP l)[j]? = some u → W.cell? ⟨g, 0 + j, none⟩ = some u := fun j u hj => by
      rw [Nat.zero_add]
      exact (row_cellR h' hj).1
    have key := KidsP.mk (P := P) (W := W) (some ⟨g, 0, none⟩) cap (l.map Pc.f) (fun i => (l[i]?.map Pc.sl).getD (.slice none 0 0)) (fun i => (l[i]?.map Pc.sr).getD (.slice none 0 0)) (fun i => (l[i]?.map Pc.sk).getD (.slice none 0 0)) (by simpa using hc) hm (fun _ => ⟨g, 0, hP g rfl, (Array.getElem?_eq_some_iff.1 hg).1, rfl, fun i hi => by
      have hi' : i < l.length := by simpa using hi
      have hq := flP_get l i hi'
      simp only [List.getElem_map, List.getElem?_eq_getElem hi', Option.map_some, Option.getD_some]
      exact ⟨hget _ _ (hq 0 (by omega)), hget _ _ (hq 1 (by omega)), ⟨hget _ _ (hq 2 (by omega)), hget _ _ (hq 3 (by omega)), hget _ _ (hq 4 (by omega))⟩, ⟨hget _ _ (hq 5 (by omega)), hget _ _ (hq 6 (by omega)), hget _ _ (hq 7 (by omega))⟩, hget _ _ (hq 8 (by omega))⟩⟩) (fun i hi => by
      have hi' : i < l.length := by simpa using hi
      simp only [List.getElem_map, List.getElem?_eq_getElem hi', Option.map_some, Option.getD_some]
      exact (hs _ (List.getElem_mem hi')).l) (fun i hi => by
      have hi' : i < l.length := by simpa using hi
      simp only [List.getElem_map, List.getElem?_eq_getElem hi', Option.map_some, Option.getD_some]
      exact (hs _ (List.getElem_mem hi')).r) (fun i hi => by
      have hi' : i < l.length := by simpa using hi
      simp only [List.getElem_map, List.getElem?_eq_getElem hi', Option.map_some, Option.getD_some]
      exact (hs _ (List.getElem_mem hi')).k)
    simpa using key
/-- Nine cells are written over what was last in a row. -/
def put9 (W : World) (g j : Nat) (a b c d e f h i k : Value) : World :=
  ((((((((W.setCell ⟨g, j, none⟩ a).setCell ⟨g, j + 1, none⟩ b).setCell ⟨g, j + 2, none⟩ c).setCell ⟨g, j + 3, none⟩ d).setCell ⟨g, j + 4, none⟩ e).setCell ⟨g, j + 5, none⟩ f).setCell ⟨g, j + 6, none⟩ h).setCell ⟨g, j + 7, none⟩ i).setCell ⟨g, j + 8, none⟩ k
theorem row_put9 {W : World} {base : Nat} {ty : TypeId} {n g cp : Nat} {xs : List Value} {z0 z1 z2 z3 z4 z5 z6 z7 z8 : Value} (h : W.ownsRow base ty 9 (.slice (some ⟨g, 0, none⟩) (n + 1) cp) (n + 1) (xs ++ [z0, z1, z2, z3, z4, z5, z6, z7, z8])) (hx : xs.length = n * 9) (a b c d e f q i k : Value) :
    (put9 W g (n * 9) a b c d e f q i k).ownsRow base ty 9 (.slice (some ⟨g, 0, none⟩) (n + 1) cp) (n + 1) (xs ++ [a, b, c, d, e, f, q, i, k]) := by
  have h0 := row_put h (n * 9) a (by simp; omega)
  have h1 := row_put h0 (n * 9 + 1) b (by simp; omega)
  have h2 := row_put h1 (n * 9 + 2) c (by simp; omega)
  have h3 := row_put h2 (n * 9 + 3) d (by simp; omega)
  have h4 := row_put h3 (n * 9 + 4) e (by simp; omega)
  have h5 := row_put h4 (n * 9 + 5) f (by simp; omega)
  have h6 := row_put h5 (n * 9 + 6) q (by simp; omega)
  have h7 := row_put h6 (n * 9 + 7) i (by simp; omega)
  have h8 := row_put h7 (n * 9 + 8) k (by simp; omega)
  have e : (((((((((xs ++ [z0, z1, z2, z3, z4, z5, z6, z7, z8]).set (n * 9) a).set (n * 9 + 1) b).set (n * 9 + 2) c).set (n * 9 + 3) d).set (n * 9 + 4) e).set (n * 9 + 5) f).set (n * 9 + 6) q).set (n * 9 + 7) i).set (n * 9 + 8) k = xs ++ [a, b, c, d, e, f, q, i, k] := by
    rw [← hx]
    simp []
  rw [e] at h8
  exact h8
theorem put9_only (W : World) (g j : Nat) (a b c d e f h i k : Value) : Only [g] W (put9 W g j a b c d e f h i k) := by
  unfold put9
  have s : ∀ (X : World) (o : Nat) (v : Value), Only [g] X (X.setCell ⟨g, o, none⟩ v) := fun X o v => only_cell (Below.refl _ X) g o v
  have q : ∀ {X Y : World} (o : Nat) (v : Value), Only [g] X Y → Only [g] X (Y.setCell ⟨g, o, none⟩ v) := fun o v h => h.trans (s _ o v) (fun r hr => .inl hr)
  exact q _ _ (q _ _ (q _ _ (q _ _ (q _ _ (q _ _ (q _ _ (q _ _ (s _ _ _))))))))
theorem put9_far (W : World) (g j : Nat) (a b c d e f h i k : Value) (x : Nat) (hl : x < W.heap.size) (hx : x ≠ g) : (put9 W g j a b c d e f h i k).heap[x]? = W.heap[x]? := (put9_only W g j a b c d e f h i k).block x hl (by simpa using hx)
theorem Only.widen {B B' : List Nat} {x y : World} (h : Only B x y) (hB : ∀ r ∈ B, r ∈ B') : Only B' x y := ⟨h.os, h.tape, h.output, h.size, fun k hk hn => h.block k hk (fun hm => hn (hB k hm))⟩
/-- A piece that is being made: its kids so far; v: their row. -/
structure CmI (w : World) (R : Nat) (k : Int) (nm : ByteArray) (D : List Pc) (i : Nat) (v : Value) (b : Bool) (x y : Int) (W : World) : Prop where
  box : W.heap[R]? = some (.cells #[.int .i64 k, .string nm, .int .i64 0, .string ⟨#[]⟩, .slice none 0 0, .int .i64 0, .string ⟨#[]⟩, .slice none 0 0, v, .bool b, .int .i64 x, .int .i64 y] 59 (0, 0))
  row : W.ownsRow (R + 1) 27 9 v i (flP (D.take i))
  bel : Below w.heap.size w W
  wR : w.heap.size = R
theorem CmI.start (w : World) (k : Int) (nm : ByteArray) (D : List Pc) : CmI w w.heap.size k nm D 0 (.slice none 0 0) false 1 1 (w.alloc (.cells #[.int .i64 k, .string nm, .int .i64 0, .string ⟨#[]⟩, .slice none 0 0, .int .i64 0, .string ⟨#[]⟩, .slice none 0 0, .slice none 0 0, .bool false, .int .i64 1, .int .i64 1] 59)) :=
  ⟨(MapKept.heap_alloc w _).1, ⟨rfl, .inl ⟨rfl, rfl⟩⟩, below_box w _, rfl⟩
theorem CmI.facts {w : World} {R : Nat} {k : Int} {nm : ByteArray} {D : List Pc} {i : Nat} {v : Value} {b : Bool} {x y : Int} {W : World} (h : CmI w R k nm D i v b x y W) : (W.cell? ⟨R, 8, none⟩ = some v ∧ W.cell? ⟨R, 9, none⟩ = some (.bool b) ∧ W.cell? ⟨R, 10, none⟩ = some (.int .i64 x) ∧ W.cell? ⟨R, 11, none⟩ = some (.int .i64 y)) ∧ W.frozen? ⟨R, 8, none⟩ = false ∧ W.frozen? ⟨R, 9, none⟩ = false ∧ W.frozen? ⟨R, 10, none⟩ = false ∧ W.frozen? ⟨R, 11, none⟩ = false := by
  have hb := h.box
  refine ⟨⟨?_, ?_, ?_, ?_⟩, ?_, ?_, ?_, ?_⟩
  · exact cell_storeR (vs := [_, _, _, _, _, _, _, _, _, _, _, _]) hb rfl
  · exact cell_storeR (vs := [_, _, _, _, _, _, _, _, _, _, _, _]) hb rfl
  · exact cell_storeR (vs := [_, _, _, _, _, _, _, _, _, _, _, _]) hb rfl
  · exact cell_storeR (vs := [_, _, _, _, _, _, _, _, _, _, _, _]) hb rfl
  all_goals exact frozen_cells hb
/-- A cell of the box is written. -/
theorem CmI.set9 {w : World} {R : Nat} {k : Int} {nm : ByteArray} {D : List Pc} {i : Nat} {v : Value} {b : Bool} {x y : Int} {W : World} (h : CmI w R k nm D i v b x y W) (b' : Bool) : CmI w R k nm D i v b' x y (W.setCell ⟨R, 9, none⟩ (.bool b')) := by
  refine ⟨by have := heap_setCell_same W R 9 _ 59 (.bool b') h.box; simpa using this, row_keep h.row fun g hg => Below.heap_setCell _ _ _ g (by have := (row_block h.row hg).1; intro e; have e' : g = R := e; omega), h.bel.trans (below_setR h.wR _ _ h.bel.size), h.wR⟩
where
  below_setR {w W : World} {R : Nat} (hR : w.heap.size = R) (j : Nat) (u : Value) (_hs : w.heap.size ≤ W.heap.size) : Below w.heap.size W (W.setCell ⟨R, j, none⟩ u) := ⟨rfl, rfl, rfl, by simp, fun q hq => Below.heap_setCell _ _ _ q (by intro e; have e' : q = R := e; omega)⟩
theorem CmI.set10 {w : World} {R : Nat} {k : Int} {nm : ByteArray} {D : List Pc} {i : Nat} {v : Value} {b : Bool} {x y : Int} {W : World} (h : CmI w R k nm D i v b x y W) (x' : Int) : CmI w R k nm D i v b x' y (W.setCell ⟨R, 10, none⟩ (.int .i64 x')) := by
  refine ⟨by have := heap_setCell_same W R 10 _ 59 (.int .i64 x') h.box; simpa using this, row_keep h.row fun g hg => Below.heap_setCell _ _ _ g (by have := (row_block h.row hg).1; intro e; have e' : g = R := e; omega), h.bel.trans (CmI.set9.below_setR h.wR _ _ h.bel.size), h.wR⟩
theorem CmI.set11 {w : World} {R : Nat} {k : Int} {nm : ByteArray} {D : List Pc} {i : Nat} {v : Value} {b : Bool} {x y : Int} {W : World} (h : CmI w R k nm D i v b x y W) (y' : Int) : CmI w R k nm D i v b x y' (W.setCell ⟨R, 11, none⟩ (.int .i64 y')) := by
  refine ⟨by have := heap_setCell_same W R 11 _ 59 (.int .i64 y') h.box; simpa using this, row_keep h.row fun g hg => Below.heap_setCell _ _ _ g (by have := (row_block h.row hg).1; intro e; have e' : g = R := e; omega), h.bel.trans (CmI.set9.below_setR h.wR _ _ h.bel.size), h.wR⟩
/-- A kid has come, by either order of both writes. -/
theorem CmI.push {w : World} {R : Nat} {k : Int} {nm : ByteArray} {D : List Pc} {i : Nat} {v : Value} {b : Bool} {x y : Int} {W X w6 : World} (h : CmI w R k nm D i v b x y W) (hi : i < D.length) (hX : Below W.heap.size W X) {g cp : Nat} {z0 z1 z2 z3 z4 z5 z6 z7 z8 : Value} (hrow : w6.ownsRow (R + 1) 27 9 (.slice (some ⟨g, 0, none⟩) (i + 1) cp) (i + 1) (flP (D.take i) ++ [z0, z1, z2, z3, z4, z5, z6, z7, z8])) (hg : X.grownBy w6 v.ownBlock) (W7 : World)
    (hW : W7 = (put9 w6 g (i * 9) (.int .i64 D[i].f.k) (.string D[i].f.nm) (.int .i64 D[i].f.l.v) (.string D[i].f.l.fn) D[i].sl (.int .i64 D[i].f.r.v) (.string D[i].f.r.fn) D[i].sr D[i].sk).setCell ⟨R, 8, none⟩ (.slice (some ⟨g, 0, none⟩) (i + 1) cp) ∨
      W7 = put9 (w6.setCell ⟨R, 8, none⟩ (.slice (some ⟨g, 0, none⟩) (i + 1) cp)) g (i * 9) (.int .i64 D[i].f.k) (.string D[i].f.nm) (.int .i64 D[i].f.l.v) (.string D[i].f.l.fn) D[i].sl (.int .i64 D[i].f.r.v) (.string D[i].f.r.fn) D[i].sr D[i].sk) :
    CmI w R k nm D (i + 1) (.slice (some ⟨g, 0, none⟩) (i + 1) cp) b x y W7 := by
  have hgR : R + 1 ≤ g := (row_block hrow rfl).1
  have hRl := (Array.getElem?_eq_some_iff.1 h.box).1
  have hvR : v.ownBlock ≠ some R := fun e => by have := (row_block h.row e).1; omega
  have hbox : w6.heap[R]? = W.heap[R]? := (hg.block R (Nat.lt_of_lt_of_le hRl hX.size) (fun e => hvR e.symm)).trans (hX.block R hRl)
  have hlen : (flP (D.take i)).length = i * 9 := by rw [flP_len, List.length_take]; congr 1; omega
  have hfl : flP (D.take (i + 1)) = flP (D.take i) ++ fcells D[i].f D[i].sl D[i].sr D[i].sk := by rw [List.take_succ_eq_append_getElem hi, flP_snoc]
  have hold : ∀ j, j < w.heap.size → w6.heap[j]? = w.heap[j]? := fun j hj => by
    have hw := h.wR
    have hs := h.bel.size
    have : v.ownBlock ≠ some j := fun e => by have := (row_block h.row e).1; omega
    exact (hg.block j (by have := hX.size; omega) (fun e => this e.symm)).trans ((hX.block j (by omega)).trans (h.bel.block j hj))
  have hsz : w.heap.size ≤ w6.heap.size := Nat.le_trans h.bel.size (Nat.le_trans hX.size hg.size)
  have hwR := h.wR
  have hRl6 : R < w6.heap.size := Nat.lt_of_lt_of_le hRl (Nat.le_trans hX.size hg.size)
  have hbl6 : Below w.heap.size w w6 := ⟨hg.os.trans (hX.os.trans h.bel.os), hg.tape.trans (hX.tape.trans h.bel.tape), hg.output.trans (hX.output.trans h.bel.output), hsz, hold⟩
  have hfin : ∀ {Y : World}, Only [g, R] w6 Y → Below w.heap.size w Y := fun ho => hbl6.trans (ho.below hsz (fun r hr => by simp at hr; omega))
  rcases hW with rfl | rfl
  · have ho := put9_only w6 g (i * 9) (.int .i64 D[i].f.k) (.string D[i].f.nm) (.int .i64 D[i].f.l.v) (.string D[i].f.l.fn) D[i].sl (.int .i64 D[i].f.r.v) (.string D[i].f.r.fn) D[i].sr D[i].sk
    have hr9 := row_put9 hrow hlen (.int .i64 D[i].f.k) (.string D[i].f.nm) (.int .i64 D[i].f.l.v) (.string D[i].f.l.fn) D[i].sl (.int .i64 D[i].f.r.v) (.string D[i].f.r.fn) D[i].sr D[i].sk
    have hb := put9_far w6 g (i * 9) (.int .i64 D[i].f.k) (.string D[i].f.nm) (.int .i64 D[i].f.l.v) (.string D[i].f.l.fn) D[i].sl (.int .i64 D[i].f.r.v) (.string D[i].f.r.fn) D[i].sr D[i].sk R hRl6 (by omega)
    generalize put9 w6 g (i * 9) (.int .i64 D[i].f.k) (.string D[i].f.nm) (.int .i64 D[i].f.l.v) (.string D[i].f.l.fn) D[i].sl (.int .i64 D[i].f.r.v) (.string D[i].f.r.fn) D[i].sr D[i].sk = Y at ho hr9 hb
    have hb2 := heap_setCell_same Y R 8 _ 59 (.slice (some ⟨g, 0, none⟩) (i + 1) cp) (hb.trans (hbox.trans h.box))
    refine ⟨by simpa using hb2, ?_, hfin ((ho.widen (fun r hr => by simp at hr; simp [hr])).trans (only_cell (Below.refl _ Y) R 8 _) (fun r hr => .inl (by simp at hr; simp [hr]))), h.wR⟩
    rw [hfl]
    exact row_keep hr9 fun j hj => Below.heap_setCell _ _ _ j (by intro e; have e' : j = R := e; have hj' : g = j := Option.some.inj hj; omega)
  · have ho1 := only_cell (Below.refl _ w6) R 8 (.slice (some ⟨g, 0, none⟩) (i + 1) cp)
    have hb := heap_setCell_same w6 R 8 _ 59 (.slice (some ⟨g, 0, none⟩) (i + 1) cp) (hbox.trans h.box)
    have hr1 : (w6.setCell ⟨R, 8, none⟩ (.slice (some ⟨g, 0, none⟩) (i + 1) cp)).ownsRow _ _ _ _ _ _ := row_keep hrow fun j hj => Below.heap_setCell _ _ _ j (by intro e; have e' : j = R := e; have hj' : g = j := Option.some.inj hj; omega)
    generalize w6.setCell ⟨R, 8, none⟩ (.slice (some ⟨g, 0, none⟩) (i + 1) cp) = Y at ho1 hb hr1
    have ho := put9_only Y g (i * 9) (.int .i64 D[i].f.k) (.string D[i].f.nm) (.int .i64 D[i].f.l.v) (.string D[i].f.l.fn) D[i].sl (.int .i64 D[i].f.r.v) (.string D[i].f.r.fn) D[i].sr D[i].sk
    have hb2 := put9_far Y g (i * 9) (.int .i64 D[i].f.k) (.string D[i].f.nm) (.int .i64 D[i].f.l.v) (.string D[i].f.l.fn) D[i].sl (.int .i64 D[i].f.r.v) (.string D[i].f.r.fn) D[i].sr D[i].sk R (Nat.lt_of_lt_of_le hRl6 ho1.size) (by omega)
    refine ⟨hb2.trans (by simpa using hb), ?_, hfin ((ho1.widen (fun r hr => by simp at hr; simp [hr])).trans ho (fun r hr => .inl (by simp at hr; simp [hr]))), h.wR⟩
    rw [hfl]
    exact row_put9 hr1 hlen _ _ _ _ _ _ _ _ _
