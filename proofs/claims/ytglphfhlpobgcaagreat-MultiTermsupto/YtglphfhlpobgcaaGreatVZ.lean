import Derived.Test.YtglphfhlpobgcaaGreatVU

namespace Go.Proofs.YtglphfhlpobgcaaGreat
open Go.RowKit Go.Maps
structure Vw (w0 W : World) (pb : Nat) (X : List T) (O : List (List Nat)) (bl cl bo co : Nat) (sa so : Nat → Value) : Prop where
  n : O.length = X.length
  le : X.length ≤ 8000
  ltp : pb < W.heap.size
  ltl : bl < W.heap.size
  lto : bo < W.heap.size
  c0 : W.cell? ⟨pb, 0, none⟩ = some (.slice (some ⟨bl, 0, none⟩) X.length cl)
  c1 : W.cell? ⟨pb, 1, none⟩ = some (.slice (some ⟨bo, 0, none⟩) X.length co)
  t : ∀ i (h : i < X.length), W.cell? ⟨bl, i * 3, none⟩ = some (.int .i64 X[i].v) ∧ W.cell? ⟨bl, i * 3 + 1, none⟩ = some (.string X[i].fn) ∧ W.cell? ⟨bl, i * 3 + 2, none⟩ = some (sa i) ∧ ArgsAt w0 (sa i) X[i].args
  o : ∀ i, i < X.length → W.cell? ⟨bo, i, none⟩ = some (so i)
  r : ∀ i (h : i < O.length), ∃ a c, so i = .slice a O[i].length c ∧ ∀ j (hj : j < O[i].length), ∃ b, a = some ⟨b, 0, none⟩ ∧ b < W.heap.size ∧ W.cell? ⟨b, j, none⟩ = some (iI O[i][j])
  ix : ∀ i (h : i < X.length) (h' : i < O.length), Idx X O[i] X[i].args ∧ ∀ j ∈ O[i], j < i
theorem Vw.below {w0 W W' : World} {pb : Nat} {X : List T} {O : List (List Nat)} {bl cl bo co : Nat} {sa so : Nat → Value} (h : Vw w0 W pb X O bl cl bo co sa so) (hb : Below W.heap.size W W') : Vw w0 W' pb X O bl cl bo co sa so := by
  refine ⟨h.n, h.le, Nat.lt_of_lt_of_le h.ltp hb.size, Nat.lt_of_lt_of_le h.ltl hb.size, Nat.lt_of_lt_of_le h.lto hb.size, kc hb h.ltp h.c0, kc hb h.ltp h.c1, fun i hi => ?_, fun i hi => kc hb h.lto (h.o i hi), fun i hi => ?_, h.ix⟩
  · obtain ⟨a, b, c, d⟩ := h.t i hi
    exact ⟨kc hb h.ltl a, kc hb h.ltl b, kc hb h.ltl c, d⟩
  · obtain ⟨a, c, e, q⟩ := h.r i hi
    refine ⟨a, c, e, fun j hj => ?_⟩
    obtain ⟨b, e, l, k⟩ := q j hj
    exact ⟨b, e, Nat.lt_of_lt_of_le l hb.size, kc hb l k⟩
theorem row_num {W : World} {n0 : Nat} {v : Value} {l : List Nat} (h : W.ownsRow n0 3 1 v l.length (l.map iI)) : ∃ a c, v = .slice a l.length c ∧ ∀ j (hj : j < l.length), ∃ b, a = some ⟨b, 0, none⟩ ∧ b < W.heap.size ∧ W.cell? ⟨b, j, none⟩ = some (iI l[j]) := by
  obtain ⟨hl, ⟨e, h0⟩ | ⟨g, cap, cur, e, hb, hg, hc, hm, hsz, ht⟩⟩ := h
  · exact ⟨none, 0, by rw [e, h0], fun j hj => by omega⟩
  · refine ⟨_, cap, e, fun j hj => ⟨g, rfl, (Array.getElem?_eq_some_iff.1 hg).1, ?_⟩⟩
    have f : (l.map iI)[j]? = some (iI l[j]) := by simp [hj]
    rw [← ht, List.getElem?_take, if_pos (by omega)] at f
    rw [cell_of_row _ _ _ _ 3 (0, 0) hg, ← f]; simp
theorem vw_of {w0 W : World} {pb : Nat} {ps : List (T × Value)} {os : List (Value × List Nat)} {vl vo : Value} (h : Ly w0 pb ps os vl vo W) (h0 : 0 < ps.length) (h8 : ps.length ≤ 8000) :
    ∃ bl cl bo co sa so, vl = .slice (some ⟨bl, 0, none⟩) ps.length cl ∧ vo = .slice (some ⟨bo, 0, none⟩) ps.length co ∧ Vw w0 W pb (ps.map (·.1)) (os.map (·.2)) bl cl bo co sa so := by
  obtain ⟨c0, c1, _, _⟩ := h.cells
  have hlt := h.there
  have hlen := h.len
  obtain ⟨bl, cl, el, _⟩ := h.term (i := 0) h0
  obtain ⟨bo, co, eo, _⟩ := h.own (i := 0) (by omega)
  rw [hlen] at eo
  refine ⟨bl, cl, bo, co, fun i => (ps[i]?.map (·.2)).getD (.bool false), fun i => (os[i]?.map (·.1)).getD (.bool false), el, eo, by simp [hlen], by simpa using h8, hlt pb (by simp), hlt bl (by simp [pbs, el, Value.ownBlock]), hlt bo (by simp [pbs, eo, Value.ownBlock]), by rw [c0, el]; simp, by rw [c1, eo]; simp, fun i hi => ?_, fun i hi => ?_, fun i hi => ?_, fun i hi hi' => ?_⟩
  · have hi : i < ps.length := by simpa using hi
    obtain ⟨b, c, e, f1, f2, f3⟩ := h.term hi
    obtain ⟨rfl, _⟩ : b = bl ∧ c = cl := by rw [el] at e; injection e with e1 e2 e3; injection e1 with e1; injection e1 with e1; exact ⟨e1.symm, e3.symm⟩
    rw [Nat.zero_add] at f1 f2 f3
    simp only [List.getElem_map, List.getElem?_eq_getElem hi, Option.map_some, Option.getD_some]
    exact ⟨f1, f2, f3, h.ra _ (List.getElem_mem hi)⟩
  · have hi : i < os.length := by simpa [hlen] using hi
    obtain ⟨b, c, e, f⟩ := h.own hi
    obtain ⟨rfl, _⟩ : b = bo ∧ c = co := by rw [eo] at e; injection e with e1 e2 e3; injection e1 with e1; injection e1 with e1; exact ⟨e1.symm, e3.symm⟩
    rw [Nat.zero_add] at f
    simp only [List.getElem?_eq_getElem hi, Option.map_some, Option.getD_some]
    exact f
  · have hi : i < os.length := by simpa using hi
    simp only [List.getElem_map, List.getElem?_eq_getElem hi, Option.map_some, Option.getD_some]
    exact row_num (h.rw _ (List.getElem_mem hi))
  · have h1 : i < ps.length := by simpa using hi
    have h2 : i < os.length := by simpa using hi'
    simp only [List.getElem_map]
    exact h.ix i h1 h2
structure Tab (g : Sg) (X Y : List T) (i k bt : Nat) (W : World) : Prop where
  lt : bt < W.heap.size
  row : ∀ i' (h : i' < X.length), i' ≤ i → ∃ br cr, W.cell? ⟨bt, i', none⟩ = some (.slice (some ⟨br, 0, none⟩) Y.length cr) ∧ br < W.heap.size ∧ ∀ k' (h' : k' < Y.length), (i' < i ∨ k' < k) → W.cell? ⟨br, k', none⟩ = some (.bool (lgB g X[i'] Y[k']))
theorem Tab.below {g : Sg} {X Y : List T} {i k bt : Nat} {W W' : World} (h : Tab g X Y i k bt W) (hb : Below W.heap.size W W') : Tab g X Y i k bt W' := by
  refine ⟨Nat.lt_of_lt_of_le h.lt hb.size, fun i' hi hle => ?_⟩
  obtain ⟨br, cr, c, l, q⟩ := h.row i' hi hle
  exact ⟨br, cr, kc hb h.lt c, Nat.lt_of_lt_of_le l hb.size, fun k' hk hq => kc hb l (q k' hk hq)⟩
theorem Tryz.info28y : (Tryz.prog.info? 30).map (·.size) = some 3 := by kernel_rfl
theorem store_term (Y : World) (bx : Nat) (z0 z1 z2 c0 c1 c2 : Value) (h : Y.heap[bx]? = some (.cells #[z0, z1, z2] 30 (0, 0))) (h1 : ∀ u ∈ [c0, c1, c2], u.oneCell' = true) :
    ∃ Y', (Instr.storeAt 30 (.pointer (some ⟨bx, 0, none⟩)) (.agg #[c0, c1, c2])).run Tryz.prog Y = .ok () Y' ∧ Y'.heap[bx]? = some (.cells #[c0, c1, c2] 30 (0, 0)) ∧ Only [bx] Y Y' := by
  refine ⟨_, run_storeAt_mid (P := Tryz.prog) Y bx 0 30 #[c0, c1, c2] (fun j hj => ?_) Tryz.info28y (all_oneCell_toArray h1), ?_, ?_⟩
  · have hj3 : j < 3 := hj
    have : j = 0 ∨ j = 1 ∨ j = 2 := by omega
    rcases this with rfl | rfl | rfl <;> simp [World.cell?, World.frozen?, h]
  · have q0 := Go.heap_setCell_same Y bx 0 _ 30 c0 h
    have q1 := Go.heap_setCell_same _ bx 1 _ 30 c1 q0
    have q2 := Go.heap_setCell_same _ bx 2 _ 30 c2 q1
    simpa [World.setCells] using q2
  · have := ((only_setCell Y bx 0 c0).trans (only_setCell (Y.setCell ⟨bx, 0, none⟩ c0) bx 1 c1) (by simp)).trans (only_setCell ((Y.setCell ⟨bx, 0, none⟩ c0).setCell ⟨bx, 1, none⟩ c1) bx 2 c2) (by simp)
    simpa [World.setCells] using this
structure Bo (W1 : World) (s t : T) (ss st : Value) (b1 b2 : Nat) (Z : World) : Prop where
  bel : Below W1.heap.size W1 Z
  h1 : Z.heap[b1]? = some (.cells #[.int .i64 s.v, .string s.fn, ss] 30 (0, 0))
  h2 : Z.heap[b2]? = some (.cells #[.int .i64 t.v, .string t.fn, st] 30 (0, 0))
theorem Bo.below {W1 : World} {s t : T} {ss st : Value} {b1 b2 : Nat} {Z Z' : World} (h : Bo W1 s t ss st b1 b2 Z) (hb : Below Z.heap.size Z Z') : Bo W1 s t ss st b1 b2 Z' :=
  ⟨h.bel.trans (hb.mono h.bel.size), (hb.block _ (Array.getElem?_eq_some_iff.1 h.h1).1).trans h.h1, (hb.block _ (Array.getElem?_eq_some_iff.1 h.h2).1).trans h.h2⟩
theorem Bo.cells {W1 : World} {s t : T} {ss st : Value} {b1 b2 : Nat} {Z : World} (h : Bo W1 s t ss st b1 b2 Z) :
    (b1 < Z.heap.size ∧ Z.cell? ⟨b1, 0, none⟩ = some (.int .i64 s.v) ∧ Z.cell? ⟨b1, 1, none⟩ = some (.string s.fn) ∧ Z.cell? ⟨b1, 2, none⟩ = some ss) ∧ (b2 < Z.heap.size ∧ Z.cell? ⟨b2, 0, none⟩ = some (.int .i64 t.v) ∧ Z.cell? ⟨b2, 1, none⟩ = some (.string t.fn) ∧ Z.cell? ⟨b2, 2, none⟩ = some st) := by
  refine ⟨⟨(Array.getElem?_eq_some_iff.1 h.h1).1, ?_, ?_, ?_⟩, (Array.getElem?_eq_some_iff.1 h.h2).1, ?_, ?_, ?_⟩
  all_goals first
    | (rw [cell_of_row _ _ _ _ 30 (0, 0) h.h1]; rfl)
    | (rw [cell_of_row _ _ _ _ 30 (0, 0) h.h2]; rfl)
end Go.Proofs.YtglphfhlpobgcaaGreat

namespace Go.Proofs.YtglphfhlpobgcaaGreat
open Go.RowKit Go.Maps
section
variable {w0 w : World} {g : Sg} {vn vw : Value} {px bx cx ox kx py by_ cy oy ky bt ct i k : Nat} {X Y : List T} {Ox Oy : List (List Nat)} {sax sox say soy : Nat → Value}
set_option maxRecDepth 100000 in
set_option maxHeartbeats 4000000 in
theorem one_var (hX : Vw w0 w px X Ox bx cx ox kx sax sox) (hY : Vw w0 w py Y Oy by_ cy oy ky say soy) (hi : i < X.length) (hk : k < Y.length) (h0 : X[i].fn.size = 0) (hn : ∃ a n c, vn = .slice a n c) (hv : ∃ a n c, vw = .slice a n c) (vt : Value) :
    Calls Tryz.prog 94 #[gval vn vw, .pointer (some ⟨px, 0, none⟩), .pointer (some ⟨py, 0, none⟩), vt, .int .i64 (i : Int), .int .i64 (k : Int)] w fun e w' => e = .returned (.bool false) ∧ Below w.heap.size w w' := by
  obtain ⟨an, nn, cn, rfl⟩ := hn
  obtain ⟨aw, nw, cw, rfl⟩ := hv
  obtain ⟨s, hs⟩ : ∃ s, X[i] = s := ⟨_, rfl⟩
  obtain ⟨t, ht⟩ : ∃ t, Y[k] = t := ⟨_, rfl⟩
  obtain ⟨x0, x1, x2, xa⟩ := hX.t i hi
  obtain ⟨y0, y1, y2, ya⟩ := hY.t k hk
  obtain ⟨sa1, sc1, es1, _, _⟩ := xa.slice
  obtain ⟨sa2, sc2, es2, _, _⟩ := ya.slice
  obtain ⟨ss, hss⟩ : ∃ v, sax i = v := ⟨_, rfl⟩
  obtain ⟨st, hst⟩ : ∃ v, say k = v := ⟨_, rfl⟩
  rw [hs] at x0 x1 es1 xa
  rw [ht] at y0 y1 es2 ya
  rw [hss] at x2 es1 xa
  rw [hst] at y2 es2 ya
  obtain ⟨W1, hW1⟩ : ∃ W1, w.alloc (.cells #[.slice an nn cn, .slice aw nw cw] 25) = W1 := ⟨_, rfl⟩
  have hb1 : Below w.heap.size w W1 := by rw [← hW1]; exact below_box w _
  obtain ⟨Wd, hWd⟩ : ∃ X, W1.drew = X := ⟨_, rfl⟩
  have hbd : Below w.heap.size w Wd := by rw [← hWd]; exact hb1.drew
  obtain ⟨n0, hn0⟩ : ∃ n, Wd.heap.size = n := ⟨_, rfl⟩
  have hB0 : Below n0 W1.drew W1.drew := Below.refl _ _
  have HW : Hid (Below w.heap.size w Wd ∧ w.heap.size ≤ Wd.heap.size) := ⟨hbd, hbd.size⟩
  have qx0 : ∀ Z, Below n0 Wd Z → Z.cell? ⟨px, 0, none⟩ = some (.slice (some ⟨bx, 0, none⟩) X.length cx) := fun Z hZ => kc (hbd.trans (hZ.mono (by have := hbd.size; omega))) hX.ltp hX.c0
  have qy0 : ∀ Z, Below n0 Wd Z → Z.cell? ⟨py, 0, none⟩ = some (.slice (some ⟨by_, 0, none⟩) Y.length cy) := fun Z hZ => kc (hbd.trans (hZ.mono (by have := hbd.size; omega))) hY.ltp hY.c0
  have qx1 : ∀ Z, Below n0 Wd Z → Z.cell? ⟨bx, i * 3, none⟩ = some (.int .i64 s.v) ∧ Z.cell? ⟨bx, i * 3 + 1, none⟩ = some (.string s.fn) ∧ Z.cell? ⟨bx, i * 3 + 2, none⟩ = some ss := fun Z hZ => ⟨kc (hbd.trans (hZ.mono (by have := hbd.size; omega))) hX.ltl x0, kc (hbd.trans (hZ.mono (by have := hbd.size; omega))) hX.ltl x1, kc (hbd.trans (hZ.mono (by have := hbd.size; omega))) hX.ltl x2⟩
  have qy1 : ∀ Z, Below n0 Wd Z → Z.cell? ⟨by_, k * 3, none⟩ = some (.int .i64 t.v) ∧ Z.cell? ⟨by_, k * 3 + 1, none⟩ = some (.string t.fn) ∧ Z.cell? ⟨by_, k * 3 + 2, none⟩ = some st := fun Z hZ => ⟨kc (hbd.trans (hZ.mono (by have := hbd.size; omega))) hY.ltl y0, kc (hbd.trans (hZ.mono (by have := hbd.size; omega))) hY.ltl y1, kc (hbd.trans (hZ.mono (by have := hbd.size; omega))) hY.ltl y2⟩
  have HN : Hid (Wd.heap.size = n0) := hn0
  clear x0 x1 x2 y0 y1 y2 hb1 hbd hss hst hn0
  subst es1 es2
  have hdd : s.fn.toList.isEmpty = true := by rw [ba_isEmpty, ← hs]; simp [h0]
  clear h0 hX hY hs ht
  go_enter Tryz.func94, Tryz.ntmps94
  try rw [hW1]
  go_wp2
  try rw [hW1]
  refine wp_region_held_drew (S := fun X => Below n0 W1.drew X) (by kernel_rfl) hB0 (fun hHeld => ?_)
  rw [hWd] at hHeld hB0 ⊢
  refine take_mk 0 (.pointer (some ⟨px, 0, none⟩)) rfl (by kernel_rfl) (by kernel_rfl) (by kernel_rfl) (fun _ _ _ h => h) (Or.inl ⟨by rfl, fun X hX => by go_simp⟩) (by assumption) ?_
  try simp only [Act.put, List.setIfInBounds_toArray, List.set_cons_zero, List.set_cons_succ]
  refine take_mk 1 (.pointer (some ⟨px, 0, none⟩)) rfl (by kernel_rfl) (by kernel_rfl) (by kernel_rfl) (fun _ _ _ h => h) (Or.inl ⟨by rfl, fun X hX => by go_simp⟩) (by assumption) ?_
  try simp only [Act.put, List.setIfInBounds_toArray, List.set_cons_zero, List.set_cons_succ]
  refine take_mk 2 (.pointer (some ⟨px, 0, none⟩)) rfl (by kernel_rfl) (by kernel_rfl) (by kernel_rfl) (fun _ _ _ h => h) (Or.inl ⟨by rfl, fun X hX => by go_simp⟩) (by assumption) ?_
  try simp only [Act.put, List.setIfInBounds_toArray, List.set_cons_zero, List.set_cons_succ]
  refine take_mk 3 (.slice (some ⟨bx, 0, none⟩) X.length cx) rfl (by kernel_rfl) (by kernel_rfl) (by kernel_rfl) (fun _ _ _ h => h) (Or.inl ⟨by rfl, fun X hX => by have := qx0 X hX; go_simp⟩) (by assumption) ?_
  try simp only [Act.put, List.setIfInBounds_toArray, List.set_cons_zero, List.set_cons_succ]
  refine take_mk 4 (.int .i64 (i : Int)) rfl (by kernel_rfl) (by kernel_rfl) (by kernel_rfl) (fun _ _ _ h => h) (Or.inl ⟨by rfl, fun X hX => by go_simp⟩) (by assumption) ?_
  try simp only [Act.put, List.setIfInBounds_toArray, List.set_cons_zero, List.set_cons_succ]
  refine take_mk 5 (.pointer (some ⟨bx, i * 3, none⟩)) rfl (by kernel_rfl) (by kernel_rfl) (by kernel_rfl) (fun _ _ _ h => h) (Or.inl ⟨by rfl, fun X hX => by go_simp; try (intro hh; exact absurd hh (by omega))⟩) (by assumption) ?_
  try simp only [Act.put, List.setIfInBounds_toArray, List.set_cons_zero, List.set_cons_succ]
  refine take_mk 6 (tval s (.slice sa1 s.args.length sc1)) rfl (by kernel_rfl) (by kernel_rfl) (by kernel_rfl) (fun _ _ _ h => h) (Or.inl ⟨by rfl, fun X hX => by obtain ⟨y0, y1, y2⟩ := qx1 X hX; go_simp⟩) (by assumption) ?_
  try simp only [Act.put, List.setIfInBounds_toArray, List.set_cons_zero, List.set_cons_succ]
  refine take_mk 7 (.pointer (some ⟨py, 0, none⟩)) rfl (by kernel_rfl) (by kernel_rfl) (by kernel_rfl) (fun _ _ _ h => h) (Or.inl ⟨by rfl, fun X hX => by go_simp⟩) (by assumption) ?_
  try simp only [Act.put, List.setIfInBounds_toArray, List.set_cons_zero, List.set_cons_succ]
  refine take_mk 8 (.pointer (some ⟨py, 0, none⟩)) rfl (by kernel_rfl) (by kernel_rfl) (by kernel_rfl) (fun _ _ _ h => h) (Or.inl ⟨by rfl, fun X hX => by go_simp⟩) (by assumption) ?_
  try simp only [Act.put, List.setIfInBounds_toArray, List.set_cons_zero, List.set_cons_succ]
  refine take_mk 9 (.pointer (some ⟨py, 0, none⟩)) rfl (by kernel_rfl) (by kernel_rfl) (by kernel_rfl) (fun _ _ _ h => h) (Or.inl ⟨by rfl, fun X hX => by go_simp⟩) (by assumption) ?_
  try simp only [Act.put, List.setIfInBounds_toArray, List.set_cons_zero, List.set_cons_succ]
  refine take_mk 10 (.slice (some ⟨by_, 0, none⟩) Y.length cy) rfl (by kernel_rfl) (by kernel_rfl) (by kernel_rfl) (fun _ _ _ h => h) (Or.inl ⟨by rfl, fun X hX => by have := qy0 X hX; go_simp⟩) (by assumption) ?_
  try simp only [Act.put, List.setIfInBounds_toArray, List.set_cons_zero, List.set_cons_succ]
  refine take_mk 11 (.int .i64 (k : Int)) rfl (by kernel_rfl) (by kernel_rfl) (by kernel_rfl) (fun _ _ _ h => h) (Or.inl ⟨by rfl, fun X hX => by go_simp⟩) (by assumption) ?_
  try simp only [Act.put, List.setIfInBounds_toArray, List.set_cons_zero, List.set_cons_succ]
  refine take_mk 12 (.pointer (some ⟨by_, k * 3, none⟩)) rfl (by kernel_rfl) (by kernel_rfl) (by kernel_rfl) (fun _ _ _ h => h) (Or.inl ⟨by rfl, fun X hX => by go_simp; try (intro hh; exact absurd hh (by omega))⟩) (by assumption) ?_
  try simp only [Act.put, List.setIfInBounds_toArray, List.set_cons_zero, List.set_cons_succ]
  refine take_mk 13 (tval t (.slice sa2 t.args.length sc2)) rfl (by kernel_rfl) (by kernel_rfl) (by kernel_rfl) (fun _ _ _ h => h) (Or.inl ⟨by rfl, fun X hX => by obtain ⟨y0, y1, y2⟩ := qy1 X hX; go_simp⟩) (by assumption) ?_
  try simp only [Act.put, List.setIfInBounds_toArray, List.set_cons_zero, List.set_cons_succ]
  refine wpAnyH_ready (rs := [14, 15]) (by kernel_rfl) (by simp) (AllReadyH.cons (o := ⟨_, _, _, _, _, _⟩) rfl (fun K hK => ?aa) (AllReadyH.cons (o := ⟨_, _, _, _, _, _⟩) rfl (fun K hK => ?bb) AllReadyH.nil))
  case' aa =>
    rw [if_pos (by rfl)]
    go_simp
    obtain ⟨XA, eA⟩ : ∃ X, Wd.alloc (.cells #[.int .i64 0, .string ⟨#[]⟩, .slice none 0 0] 30) = X := ⟨_, rfl⟩
    have hbA : Below n0 Wd XA := by rw [← eA, ← HN.out]; exact below_box _ _
    have hxA : XA.heap[Wd.heap.size]? = some (.cells #[.int .i64 0, .string ⟨#[]⟩, .slice none 0 0] 30 (0, 0)) := by rw [← eA]; exact (MapKept.heap_alloc _ _).1
    obtain ⟨b1, hba⟩ : ∃ bx, Wd.heap.size = bx := ⟨_, rfl⟩
    refine hK.out _ _ (by rw [← HN.out]; exact below_box _ _) (fun hHeldA => ?_)
    rw [eA] at hHeldA ⊢
    rw [hba] at hxA ⊢
    clear hK K
    try simp only [Act.put, List.setIfInBounds_toArray, List.set_cons_zero, List.set_cons_succ]
    refine wpAnyH_ready (rs := [15]) (by kernel_rfl) (by simp) (AllReadyH.cons (o := ⟨_, _, _, _, _, _⟩) rfl (fun K hK => ?_) AllReadyH.nil)
    rw [if_pos (by rfl)]
    go_simp
    obtain ⟨XB, eB⟩ : ∃ X, XA.alloc (.cells #[.int .i64 0, .string ⟨#[]⟩, .slice none 0 0] 30) = X := ⟨_, rfl⟩
    have hbB : Below XA.heap.size XA XB := by rw [← eB]; exact below_box _ _
    have hxB : XB.heap[XA.heap.size]? = some (.cells #[.int .i64 0, .string ⟨#[]⟩, .slice none 0 0] 30 (0, 0)) := by rw [← eB]; exact (MapKept.heap_alloc _ _).1
    have hsA : XA.heap.size = Wd.heap.size + 1 := by rw [← eA]; simp
    obtain ⟨b2, hbb⟩ : ∃ bx, XA.heap.size = bx := ⟨_, rfl⟩
    refine hK.out _ _ (hHeldA.trans ((below_box _ _).mono (by have := hHeldA.size; have := HN.out; omega))) (fun hHeldB => ?_)
    rw [eB] at hHeldB ⊢
    rw [hbb] at hxB ⊢
    clear hK K
    try simp only [Act.put, List.setIfInBounds_toArray, List.set_cons_zero, List.set_cons_succ]
    have hxA' := (hbB.block b1 (by omega)).trans hxA
    obtain ⟨Y1, hr1, hy1, ho1⟩ := store_term XB b1 _ _ _ (.int .i64 s.v) (.string s.fn) (.slice sa1 s.args.length sc1) hxA' (by intro u hu; simp only [List.mem_cons, List.not_mem_nil, or_false] at hu; rcases hu with rfl | rfl | rfl <;> rfl)
    have hne : b1 ≠ b2 := by omega
    have hx2' := (ho1.block b2 (Array.getElem?_eq_some_iff.1 hxB).1 (by simpa using hne.symm)).trans hxB
    obtain ⟨Y2, hr2, hy2, ho2⟩ := store_term Y1 b2 _ _ _ (.int .i64 t.v) (.string t.fn) (.slice sa2 t.args.length sc2) hx2' (by intro u hu; simp only [List.mem_cons, List.not_mem_nil, or_false] at hu; rcases hu with rfl | rfl | rfl <;> rfl)
    have hN := HN.out
    have hS1 : Below n0 Wd Y1 := hHeldB.trans (ho1.below (by have := hHeldB.size; omega) (by simp; omega))
    have hS2 : Below n0 Wd Y2 := hS1.trans (ho2.below (by have := hS1.size; omega) (by simp; omega))
    refine wpAnyH_ready (rs := [16]) (by kernel_rfl) (by simp) (AllReadyH.cons (o := ⟨_, _, _, _, _, _⟩) rfl (fun K hK => ?_) AllReadyH.nil)
    rw [if_pos (by rfl)]
    refine wp_store_run 30 _ _ rfl (.pointer (some ⟨b1, 0, none⟩)) (tval s (.slice sa1 s.args.length sc1)) rfl rfl hr1 ?_
    refine hK.out _ _ hS1 (fun _ => ?_)
    clear hK K
    try simp only [Act.put]
    refine wpAnyH_ready (rs := [17]) (by kernel_rfl) (by simp) (AllReadyH.cons (o := ⟨_, _, _, _, _, _⟩) rfl (fun K hK => ?_) AllReadyH.nil)
    rw [if_pos (by rfl)]
    refine wp_store_run 30 _ _ rfl (.pointer (some ⟨b2, 0, none⟩)) (tval t (.slice sa2 t.args.length sc2)) rfl rfl hr2 ?_
    refine hK.out _ _ hS2 (fun _ => ?_)
    clear hK K
    refine wpAnyH_done (by kernel_rfl) ?_ _
    try simp only [Act.put]
    have HB : Hid (Bo Wd s t (.slice sa1 s.args.length sc1) (.slice sa2 t.args.length sc2) b1 b2 Y2) := ⟨by rw [hN]; exact hS2, (ho2.block b1 (Array.getElem?_eq_some_iff.1 hy1).1 (by simpa using hne)).trans hy1, hy2⟩
    clear hN hS1 hS2 hr1 hr2 hy1 hy2 ho1 ho2 hx2' hxA' hxA hxB hbA hbB eA eB hHeldA hHeldB hba hbb hsA hne
  case' bb =>
    rw [if_pos (by rfl)]
    go_simp
    obtain ⟨XA, eA⟩ : ∃ X, Wd.alloc (.cells #[.int .i64 0, .string ⟨#[]⟩, .slice none 0 0] 30) = X := ⟨_, rfl⟩
    have hbA : Below n0 Wd XA := by rw [← eA, ← HN.out]; exact below_box _ _
    have hxA : XA.heap[Wd.heap.size]? = some (.cells #[.int .i64 0, .string ⟨#[]⟩, .slice none 0 0] 30 (0, 0)) := by rw [← eA]; exact (MapKept.heap_alloc _ _).1
    obtain ⟨b2, hba⟩ : ∃ bx, Wd.heap.size = bx := ⟨_, rfl⟩
    refine hK.out _ _ (by rw [← HN.out]; exact below_box _ _) (fun hHeldA => ?_)
    rw [eA] at hHeldA ⊢
    rw [hba] at hxA ⊢
    clear hK K
    try simp only [Act.put, List.setIfInBounds_toArray, List.set_cons_zero, List.set_cons_succ]
    refine wpAnyH_ready (rs := [14]) (by kernel_rfl) (by simp) (AllReadyH.cons (o := ⟨_, _, _, _, _, _⟩) rfl (fun K hK => ?_) AllReadyH.nil)
    rw [if_pos (by rfl)]
    go_simp
    obtain ⟨XB, eB⟩ : ∃ X, XA.alloc (.cells #[.int .i64 0, .string ⟨#[]⟩, .slice none 0 0] 30) = X := ⟨_, rfl⟩
    have hbB : Below XA.heap.size XA XB := by rw [← eB]; exact below_box _ _
    have hxB : XB.heap[XA.heap.size]? = some (.cells #[.int .i64 0, .string ⟨#[]⟩, .slice none 0 0] 30 (0, 0)) := by rw [← eB]; exact (MapKept.heap_alloc _ _).1
    have hsA : XA.heap.size = Wd.heap.size + 1 := by rw [← eA]; simp
    obtain ⟨b1, hbb⟩ : ∃ bx, XA.heap.size = bx := ⟨_, rfl⟩
    refine hK.out _ _ (hHeldA.trans ((below_box _ _).mono (by have := hHeldA.size; have := HN.out; omega))) (fun hHeldB => ?_)
    rw [eB] at hHeldB ⊢
    rw [hbb] at hxB ⊢
    clear hK K
    try simp only [Act.put, List.setIfInBounds_toArray, List.set_cons_zero, List.set_cons_succ]
    have hxA' := (hbB.block b2 (by omega)).trans hxA
    obtain ⟨Y1, hr1, hy1, ho1⟩ := store_term XB b1 _ _ _ (.int .i64 s.v) (.string s.fn) (.slice sa1 s.args.length sc1) hxB (by intro u hu; simp only [List.mem_cons, List.not_mem_nil, or_false] at hu; rcases hu with rfl | rfl | rfl <;> rfl)
    have hne : b1 ≠ b2 := by omega
    have hx2' := (ho1.block b2 (Array.getElem?_eq_some_iff.1 hxA').1 (by simpa using hne.symm)).trans hxA'
    obtain ⟨Y2, hr2, hy2, ho2⟩ := store_term Y1 b2 _ _ _ (.int .i64 t.v) (.string t.fn) (.slice sa2 t.args.length sc2) hx2' (by intro u hu; simp only [List.mem_cons, List.not_mem_nil, or_false] at hu; rcases hu with rfl | rfl | rfl <;> rfl)
    have hN := HN.out
    have hS1 : Below n0 Wd Y1 := hHeldB.trans (ho1.below (by have := hHeldB.size; omega) (by simp; omega))
    have hS2 : Below n0 Wd Y2 := hS1.trans (ho2.below (by have := hS1.size; omega) (by simp; omega))
    refine wpAnyH_ready (rs := [16]) (by kernel_rfl) (by simp) (AllReadyH.cons (o := ⟨_, _, _, _, _, _⟩) rfl (fun K hK => ?_) AllReadyH.nil)
    rw [if_pos (by rfl)]
    refine wp_store_run 30 _ _ rfl (.pointer (some ⟨b1, 0, none⟩)) (tval s (.slice sa1 s.args.length sc1)) rfl rfl hr1 ?_
    refine hK.out _ _ hS1 (fun _ => ?_)
    clear hK K
    try simp only [Act.put]
    refine wpAnyH_ready (rs := [17]) (by kernel_rfl) (by simp) (AllReadyH.cons (o := ⟨_, _, _, _, _, _⟩) rfl (fun K hK => ?_) AllReadyH.nil)
    rw [if_pos (by rfl)]
    refine wp_store_run 30 _ _ rfl (.pointer (some ⟨b2, 0, none⟩)) (tval t (.slice sa2 t.args.length sc2)) rfl rfl hr2 ?_
    refine hK.out _ _ hS2 (fun _ => ?_)
    clear hK K
    refine wpAnyH_done (by kernel_rfl) ?_ _
    try simp only [Act.put]
    have HB : Hid (Bo Wd s t (.slice sa1 s.args.length sc1) (.slice sa2 t.args.length sc2) b1 b2 Y2) := ⟨by rw [hN]; exact hS2, (ho2.block b1 (Array.getElem?_eq_some_iff.1 hy1).1 (by simpa using hne)).trans hy1, hy2⟩
    clear hN hS1 hS2 hr1 hr2 hy1 hy2 ho1 ho2 hx2' hxA' hxA hxB hbA hbB eA eB hHeldA hHeldB hba hbb hsA hne
  all_goals (
    obtain ⟨⟨l1, r0, r1, r2⟩, l2, u0, u1, u2⟩ := HB.out.cells
    go_wp2
    go_ret
    exact ⟨rfl, HW.out.1.trans (HB.out.bel.mono HW.out.2)⟩)
end
end Go.Proofs.YtglphfhlpobgcaaGreat

namespace Go.Proofs.YtglphfhlpobgcaaGreat
open Go.RowKit Go.Maps
theorem Vw.argat {w0 W : World} {pb : Nat} {X : List T} {O : List (List Nat)} {bl cl bo co : Nat} {sa so : Nat → Value} (h : Vw w0 W pb X O bl cl bo co sa so) {i : Nat} (hi : i < X.length) :
    ∃ a c, so i = .slice a X[i].args.length c ∧ W.cell? ⟨bo, i, none⟩ = some (.slice a X[i].args.length c) ∧ ∀ j (hj : j < X[i].args.length), ∃ (b p : Nat), a = some ⟨b, 0, none⟩ ∧ b < W.heap.size ∧ W.cell? ⟨b, j, none⟩ = some (.int .i64 (p : Int)) ∧ p < i ∧ ∃ hp : p < X.length, X[p] = X[i].args[j] := by
  have hi' : i < O.length := by rw [h.n]; exact hi
  obtain ⟨a, c, e, q⟩ := h.r i hi'
  obtain ⟨hx, hl⟩ := h.ix i hi hi'
  have hn := hx.len
  rw [hn] at e
  refine ⟨a, c, e, by rw [← e]; exact h.o i hi, fun j hj => ?_⟩
  have hj' : j < O[i].length := by omega
  obtain ⟨b, e1, l1, c1⟩ := q j hj'
  obtain ⟨hp, e2⟩ := hx.get hj' hj
  exact ⟨b, O[i][j], e1, l1, c1, hl _ (List.getElem_mem hj'), hp, e2⟩
section
variable {w0 w : World} {g : Sg} {vn vw : Value} {px bx cx ox kx py by_ cy oy ky bt ct i k : Nat} {X Y : List T} {Ox Oy : List (List Nat)} {sax sox say soy : Nat → Value}
set_option maxRecDepth 100000 in
set_option maxHeartbeats 8000000 in
theorem one_fn (hX : Vw w0 w px X Ox bx cx ox kx sax sox) (hY : Vw w0 w py Y Oy by_ cy oy ky say soy) (hT : Tab g X Y i k bt w) (hi : i < X.length) (hk : k < Y.length) (h0 : X[i].fn.size ≠ 0) (hg : SgAt w0 g vn vw) (hw : Below w0.heap.size w0 w) :
    Calls Tryz.prog 94 #[gval vn vw, .pointer (some ⟨px, 0, none⟩), .pointer (some ⟨py, 0, none⟩), .slice (some ⟨bt, 0, none⟩) X.length ct, .int .i64 (i : Int), .int .i64 (k : Int)] w fun e w' => e = .returned (.bool (lgB g X[i] Y[k])) ∧ Below w.heap.size w w' := by
  obtain ⟨an, cn, rfl, _, _⟩ := hg.ns.slice
  obtain ⟨aw, cw, rfl, _, _⟩ := hg.ws.slice
  obtain ⟨nn, hnn⟩ : ∃ n, g.ns.length = n := ⟨_, rfl⟩
  obtain ⟨nw, hnw⟩ : ∃ n, g.ws.length = n := ⟨_, rfl⟩
  rw [hnn, hnw] at hg ⊢
  clear hnn hnw
  obtain ⟨s, hs⟩ : ∃ s, X[i] = s := ⟨_, rfl⟩
  obtain ⟨t, ht⟩ : ∃ t, Y[k] = t := ⟨_, rfl⟩
  obtain ⟨x0, x1, x2, xa⟩ := hX.t i hi
  obtain ⟨y0, y1, y2, ya⟩ := hY.t k hk
  obtain ⟨sa1, sc1, es1, hz1, hz1'⟩ := xa.slice
  obtain ⟨sa2, sc2, es2, hz2, hz2'⟩ := ya.slice
  obtain ⟨ss, hss⟩ : ∃ v, sax i = v := ⟨_, rfl⟩
  obtain ⟨st, hst⟩ : ∃ v, say k = v := ⟨_, rfl⟩
  rw [hs] at x0 x1 es1 xa hz1
  rw [ht] at y0 y1 es2 ya hz2
  rw [hss] at x2 es1 xa
  rw [hst] at y2 es2 ya
  obtain ⟨W1, hW1⟩ : ∃ W1, w.alloc (.cells #[.slice an nn cn, .slice aw nw cw] 25) = W1 := ⟨_, rfl⟩
  have hb1 : Below w.heap.size w W1 := by rw [← hW1]; exact below_box w _
  obtain ⟨Wd, hWd⟩ : ∃ X, W1.drew = X := ⟨_, rfl⟩
  have hbd : Below w.heap.size w Wd := by rw [← hWd]; exact hb1.drew
  obtain ⟨n0, hn0⟩ : ∃ n, Wd.heap.size = n := ⟨_, rfl⟩
  have hB0 : Below n0 W1.drew W1.drew := Below.refl _ _
  have HW : Hid (Below w.heap.size w Wd ∧ w.heap.size ≤ Wd.heap.size) := ⟨hbd, hbd.size⟩
  have qx0 : ∀ Z, Below n0 Wd Z → Z.cell? ⟨px, 0, none⟩ = some (.slice (some ⟨bx, 0, none⟩) X.length cx) := fun Z hZ => kc (hbd.trans (hZ.mono (by have := hbd.size; omega))) hX.ltp hX.c0
  have qy0 : ∀ Z, Below n0 Wd Z → Z.cell? ⟨py, 0, none⟩ = some (.slice (some ⟨by_, 0, none⟩) Y.length cy) := fun Z hZ => kc (hbd.trans (hZ.mono (by have := hbd.size; omega))) hY.ltp hY.c0
  have qx1 : ∀ Z, Below n0 Wd Z → Z.cell? ⟨bx, i * 3, none⟩ = some (.int .i64 s.v) ∧ Z.cell? ⟨bx, i * 3 + 1, none⟩ = some (.string s.fn) ∧ Z.cell? ⟨bx, i * 3 + 2, none⟩ = some ss := fun Z hZ => ⟨kc (hbd.trans (hZ.mono (by have := hbd.size; omega))) hX.ltl x0, kc (hbd.trans (hZ.mono (by have := hbd.size; omega))) hX.ltl x1, kc (hbd.trans (hZ.mono (by have := hbd.size; omega))) hX.ltl x2⟩
  have qy1 : ∀ Z, Below n0 Wd Z → Z.cell? ⟨by_, k * 3, none⟩ = some (.int .i64 t.v) ∧ Z.cell? ⟨by_, k * 3 + 1, none⟩ = some (.string t.fn) ∧ Z.cell? ⟨by_, k * 3 + 2, none⟩ = some st := fun Z hZ => ⟨kc (hbd.trans (hZ.mono (by have := hbd.size; omega))) hY.ltl y0, kc (hbd.trans (hZ.mono (by have := hbd.size; omega))) hY.ltl y1, kc (hbd.trans (hZ.mono (by have := hbd.size; omega))) hY.ltl y2⟩
  have HN : Hid (Wd.heap.size = n0) := hn0
  clear x0 x1 x2 y0 y1 y2 hb1 hbd hss hst hn0
  subst es1 es2
  have hdd : s.fn.toList.isEmpty = false := by rw [ba_isEmpty, ← hs]; exact decide_eq_false h0
  have hiI : (i : Int) < (X.length : Int) := by omega
  have hkI : (k : Int) < (Y.length : Int) := by omega
  have h0s : s.fn.size ≠ 0 := by rw [← hs]; exact h0
  rw [hs, ht]
  have HH : Hid (Vw w0 w px X Ox bx cx ox kx sax sox ∧ Vw w0 w py Y Oy by_ cy oy ky say soy ∧ Tab g X Y i k bt w ∧ SgAt w0 g (.slice an nn cn) (.slice aw nw cw) ∧ Below w0.heap.size w0 w) := ⟨hX, hY, hT, hg, hw⟩
  have HE : Hid (i < X.length ∧ k < Y.length ∧ s.fn.size ≠ 0 ∧ (∃ h : i < X.length, X[i] = s) ∧ (∃ h : k < Y.length, Y[k] = t)) := ⟨hi, hk, h0s, ⟨hi, hs⟩, ⟨hk, ht⟩⟩
  have HA1 : Hid (ArgsAt w0 (.slice sa1 s.args.length sc1) s.args) := xa
  have HA2 : Hid (ArgsAt w0 (.slice sa2 t.args.length sc2) t.args) := ya
  obtain ⟨g0, g1⟩ := box2_cells w (.slice an nn cn) (.slice aw nw cw) 25
  rw [hW1] at g0 g1
  have HG : Hid (∀ Z, Below Wd.heap.size Wd Z → Z.cell? ⟨w.heap.size, 0, none⟩ = some (.slice an nn cn) ∧ Z.cell? ⟨w.heap.size, 1, none⟩ = some (.slice aw nw cw)) := fun Z hZ => by
    have e1 : Below W1.heap.size W1 Wd := by rw [← hWd]; exact (Below.refl _ W1).drew
    have e2 : w.heap.size < W1.heap.size := by rw [← hW1]; simp
    have e3 : Below W1.heap.size W1 Z := e1.trans (hZ.mono e1.size)
    exact ⟨kc e3 e2 g0, kc e3 e2 g1⟩
  clear h0 hX hY hT hg hw hs ht h0s xa ya g0 g1
  go_enter Tryz.func94, Tryz.ntmps94
  try rw [hW1]
  go_wp2
  try rw [hW1]
  refine wp_region_held_drew (S := fun X => Below n0 W1.drew X) (by kernel_rfl) hB0 (fun hHeld => ?_)
  rw [hWd] at hHeld hB0 ⊢
  refine take_mk 0 (.pointer (some ⟨px, 0, none⟩)) rfl (by kernel_rfl) (by kernel_rfl) (by kernel_rfl) (fun _ _ _ h => h) (Or.inl ⟨by rfl, fun X hX => by go_simp⟩) (by assumption) ?_
  try simp only [Act.put, List.setIfInBounds_toArray, List.set_cons_zero, List.set_cons_succ]
  refine take_mk 1 (.pointer (some ⟨px, 0, none⟩)) rfl (by kernel_rfl) (by kernel_rfl) (by kernel_rfl) (fun _ _ _ h => h) (Or.inl ⟨by rfl, fun X hX => by go_simp⟩) (by assumption) ?_
  try simp only [Act.put, List.setIfInBounds_toArray, List.set_cons_zero, List.set_cons_succ]
  refine take_mk 2 (.pointer (some ⟨px, 0, none⟩)) rfl (by kernel_rfl) (by kernel_rfl) (by kernel_rfl) (fun _ _ _ h => h) (Or.inl ⟨by rfl, fun X hX => by go_simp⟩) (by assumption) ?_
  try simp only [Act.put, List.setIfInBounds_toArray, List.set_cons_zero, List.set_cons_succ]
  refine take_mk 3 (.slice (some ⟨bx, 0, none⟩) X.length cx) rfl (by kernel_rfl) (by kernel_rfl) (by kernel_rfl) (fun _ _ _ h => h) (Or.inl ⟨by rfl, fun X hX => by have := qx0 X hX; go_simp⟩) (by assumption) ?_
  try simp only [Act.put, List.setIfInBounds_toArray, List.set_cons_zero, List.set_cons_succ]
  refine take_mk 4 (.int .i64 (i : Int)) rfl (by kernel_rfl) (by kernel_rfl) (by kernel_rfl) (fun _ _ _ h => h) (Or.inl ⟨by rfl, fun X hX => by go_simp⟩) (by assumption) ?_
  try simp only [Act.put, List.setIfInBounds_toArray, List.set_cons_zero, List.set_cons_succ]
  refine take_mk 5 (.pointer (some ⟨bx, i * 3, none⟩)) rfl (by kernel_rfl) (by kernel_rfl) (by kernel_rfl) (fun _ _ _ h => h) (Or.inl ⟨by rfl, fun X hX => by go_simp; try (intro hh; exact absurd hh (by omega))⟩) (by assumption) ?_
  try simp only [Act.put, List.setIfInBounds_toArray, List.set_cons_zero, List.set_cons_succ]
  refine take_mk 6 (tval s (.slice sa1 s.args.length sc1)) rfl (by kernel_rfl) (by kernel_rfl) (by kernel_rfl) (fun _ _ _ h => h) (Or.inl ⟨by rfl, fun X hX => by obtain ⟨y0, y1, y2⟩ := qx1 X hX; go_simp⟩) (by assumption) ?_
  try simp only [Act.put, List.setIfInBounds_toArray, List.set_cons_zero, List.set_cons_succ]
  refine take_mk 7 (.pointer (some ⟨py, 0, none⟩)) rfl (by kernel_rfl) (by kernel_rfl) (by kernel_rfl) (fun _ _ _ h => h) (Or.inl ⟨by rfl, fun X hX => by go_simp⟩) (by assumption) ?_
  try simp only [Act.put, List.setIfInBounds_toArray, List.set_cons_zero, List.set_cons_succ]
  refine take_mk 8 (.pointer (some ⟨py, 0, none⟩)) rfl (by kernel_rfl) (by kernel_rfl) (by kernel_rfl) (fun _ _ _ h => h) (Or.inl ⟨by rfl, fun X hX => by go_simp⟩) (by assumption) ?_
  try simp only [Act.put, List.setIfInBounds_toArray, List.set_cons_zero, List.set_cons_succ]
  refine take_mk 9 (.pointer (some ⟨py, 0, none⟩)) rfl (by kernel_rfl) (by kernel_rfl) (by kernel_rfl) (fun _ _ _ h => h) (Or.inl ⟨by rfl, fun X hX => by go_simp⟩) (by assumption) ?_
  try simp only [Act.put, List.setIfInBounds_toArray, List.set_cons_zero, List.set_cons_succ]
  refine take_mk 10 (.slice (some ⟨by_, 0, none⟩) Y.length cy) rfl (by kernel_rfl) (by kernel_rfl) (by kernel_rfl) (fun _ _ _ h => h) (Or.inl ⟨by rfl, fun X hX => by have := qy0 X hX; go_simp⟩) (by assumption) ?_
  try simp only [Act.put, List.setIfInBounds_toArray, List.set_cons_zero, List.set_cons_succ]
  refine take_mk 11 (.int .i64 (k : Int)) rfl (by kernel_rfl) (by kernel_rfl) (by kernel_rfl) (fun _ _ _ h => h) (Or.inl ⟨by rfl, fun X hX => by go_simp⟩) (by assumption) ?_
  try simp only [Act.put, List.setIfInBounds_toArray, List.set_cons_zero, List.set_cons_succ]
  refine take_mk 12 (.pointer (some ⟨by_, k * 3, none⟩)) rfl (by kernel_rfl) (by kernel_rfl) (by kernel_rfl) (fun _ _ _ h => h) (Or.inl ⟨by rfl, fun X hX => by go_simp; try (intro hh; exact absurd hh (by omega))⟩) (by assumption) ?_
  try simp only [Act.put, List.setIfInBounds_toArray, List.set_cons_zero, List.set_cons_succ]
  refine take_mk 13 (tval t (.slice sa2 t.args.length sc2)) rfl (by kernel_rfl) (by kernel_rfl) (by kernel_rfl) (fun _ _ _ h => h) (Or.inl ⟨by rfl, fun X hX => by obtain ⟨y0, y1, y2⟩ := qy1 X hX; go_simp⟩) (by assumption) ?_
  try simp only [Act.put, List.setIfInBounds_toArray, List.set_cons_zero, List.set_cons_succ]
  refine wpAnyH_ready (rs := [14, 15]) (by kernel_rfl) (by simp) (AllReadyH.cons (o := ⟨_, _, _, _, _, _⟩) rfl (fun K hK => ?aa) (AllReadyH.cons (o := ⟨_, _, _, _, _, _⟩) rfl (fun K hK => ?bb) AllReadyH.nil))
  case' aa =>
    rw [if_pos (by rfl)]
    go_simp
    obtain ⟨XA, eA⟩ : ∃ X, Wd.alloc (.cells #[.int .i64 0, .string ⟨#[]⟩, .slice none 0 0] 30) = X := ⟨_, rfl⟩
    have hbA : Below n0 Wd XA := by rw [← eA, ← HN.out]; exact below_box _ _
    have hxA : XA.heap[Wd.heap.size]? = some (.cells #[.int .i64 0, .string ⟨#[]⟩, .slice none 0 0] 30 (0, 0)) := by rw [← eA]; exact (MapKept.heap_alloc _ _).1
    obtain ⟨b1, hba⟩ : ∃ bx, Wd.heap.size = bx := ⟨_, rfl⟩
    refine hK.out _ _ (by rw [← HN.out]; exact below_box _ _) (fun hHeldA => ?_)
    rw [eA] at hHeldA ⊢
    rw [hba] at hxA ⊢
    clear hK K
    try simp only [Act.put, List.setIfInBounds_toArray, List.set_cons_zero, List.set_cons_succ]
    refine wpAnyH_ready (rs := [15]) (by kernel_rfl) (by simp) (AllReadyH.cons (o := ⟨_, _, _, _, _, _⟩) rfl (fun K hK => ?_) AllReadyH.nil)
    rw [if_pos (by rfl)]
    go_simp
    obtain ⟨XB, eB⟩ : ∃ X, XA.alloc (.cells #[.int .i64 0, .string ⟨#[]⟩, .slice none 0 0] 30) = X := ⟨_, rfl⟩
    have hbB : Below XA.heap.size XA XB := by rw [← eB]; exact below_box _ _
    have hxB : XB.heap[XA.heap.size]? = some (.cells #[.int .i64 0, .string ⟨#[]⟩, .slice none 0 0] 30 (0, 0)) := by rw [← eB]; exact (MapKept.heap_alloc _ _).1
    have hsA : XA.heap.size = Wd.heap.size + 1 := by rw [← eA]; simp
    obtain ⟨b2, hbb⟩ : ∃ bx, XA.heap.size = bx := ⟨_, rfl⟩
    refine hK.out _ _ (hHeldA.trans ((below_box _ _).mono (by have := hHeldA.size; have := HN.out; omega))) (fun hHeldB => ?_)
    rw [eB] at hHeldB ⊢
    rw [hbb] at hxB ⊢
    clear hK K
    try simp only [Act.put, List.setIfInBounds_toArray, List.set_cons_zero, List.set_cons_succ]
    have hxA' := (hbB.block b1 (by omega)).trans hxA
    obtain ⟨Y1, hr1, hy1, ho1⟩ := store_term XB b1 _ _ _ (.int .i64 s.v) (.string s.fn) (.slice sa1 s.args.length sc1) hxA' (by intro u hu; simp only [List.mem_cons, List.not_mem_nil, or_false] at hu; rcases hu with rfl | rfl | rfl <;> rfl)
    have hne : b1 ≠ b2 := by omega
    have hx2' := (ho1.block b2 (Array.getElem?_eq_some_iff.1 hxB).1 (by simpa using hne.symm)).trans hxB
    obtain ⟨Y2, hr2, hy2, ho2⟩ := store_term Y1 b2 _ _ _ (.int .i64 t.v) (.string t.fn) (.slice sa2 t.args.length sc2) hx2' (by intro u hu; simp only [List.mem_cons, List.not_mem_nil, or_false] at hu; rcases hu with rfl | rfl | rfl <;> rfl)
    have hN := HN.out
    have hS1 : Below n0 Wd Y1 := hHeldB.trans (ho1.below (by have := hHeldB.size; omega) (by simp; omega))
    have hS2 : Below n0 Wd Y2 := hS1.trans (ho2.below (by have := hS1.size; omega) (by simp; omega))
    refine wpAnyH_ready (rs := [16]) (by kernel_rfl) (by simp) (AllReadyH.cons (o := ⟨_, _, _, _, _, _⟩) rfl (fun K hK => ?_) AllReadyH.nil)
    rw [if_pos (by rfl)]
    refine wp_store_run 30 _ _ rfl (.pointer (some ⟨b1, 0, none⟩)) (tval s (.slice sa1 s.args.length sc1)) rfl rfl hr1 ?_
    refine hK.out _ _ hS1 (fun _ => ?_)
    clear hK K
    try simp only [Act.put]
    refine wpAnyH_ready (rs := [17]) (by kernel_rfl) (by simp) (AllReadyH.cons (o := ⟨_, _, _, _, _, _⟩) rfl (fun K hK => ?_) AllReadyH.nil)
    rw [if_pos (by rfl)]
    refine wp_store_run 30 _ _ rfl (.pointer (some ⟨b2, 0, none⟩)) (tval t (.slice sa2 t.args.length sc2)) rfl rfl hr2 ?_
    refine hK.out _ _ hS2 (fun _ => ?_)
    clear hK K
    refine wpAnyH_done (by kernel_rfl) ?_ _
    try simp only [Act.put]
    have HB : Hid (Bo Wd s t (.slice sa1 s.args.length sc1) (.slice sa2 t.args.length sc2) b1 b2 Y2) := ⟨by rw [hN]; exact hS2, (ho2.block b1 (Array.getElem?_eq_some_iff.1 hy1).1 (by simpa using hne)).trans hy1, hy2⟩
    clear hN hS1 hS2 hr1 hr2 hy1 hy2 ho1 ho2 hx2' hxA' hxA hxB hbA hbB eA eB hHeldA hHeldB hba hbb hsA hne
  case' bb =>
    rw [if_pos (by rfl)]
    go_simp
    obtain ⟨XA, eA⟩ : ∃ X, Wd.alloc (.cells #[.int .i64 0, .string ⟨#[]⟩, .slice none 0 0] 30) = X := ⟨_, rfl⟩
    have hbA : Below n0 Wd XA := by rw [← eA, ← HN.out]; exact below_box _ _
    have hxA : XA.heap[Wd.heap.size]? = some (.cells #[.int .i64 0, .string ⟨#[]⟩, .slice none 0 0] 30 (0, 0)) := by rw [← eA]; exact (MapKept.heap_alloc _ _).1
    obtain ⟨b2, hba⟩ : ∃ bx, Wd.heap.size = bx := ⟨_, rfl⟩
    refine hK.out _ _ (by rw [← HN.out]; exact below_box _ _) (fun hHeldA => ?_)
    rw [eA] at hHeldA ⊢
    rw [hba] at hxA ⊢
    clear hK K
    try simp only [Act.put, List.setIfInBounds_toArray, List.set_cons_zero, List.set_cons_succ]
    refine wpAnyH_ready (rs := [14]) (by kernel_rfl) (by simp) (AllReadyH.cons (o := ⟨_, _, _, _, _, _⟩) rfl (fun K hK => ?_) AllReadyH.nil)
    rw [if_pos (by rfl)]
    go_simp
    obtain ⟨XB, eB⟩ : ∃ X, XA.alloc (.cells #[.int .i64 0, .string ⟨#[]⟩, .slice none 0 0] 30) = X := ⟨_, rfl⟩
    have hbB : Below XA.heap.size XA XB := by rw [← eB]; exact below_box _ _
    have hxB : XB.heap[XA.heap.size]? = some (.cells #[.int .i64 0, .string ⟨#[]⟩, .slice none 0 0] 30 (0, 0)) := by rw [← eB]; exact (MapKept.heap_alloc _ _).1
    have hsA : XA.heap.size = Wd.heap.size + 1 := by rw [← eA]; simp
    obtain ⟨b1, hbb⟩ : ∃ bx, XA.heap.size = bx := ⟨_, rfl⟩
    refine hK.out _ _ (hHeldA.trans ((below_box _ _).mono (by have := hHeldA.size; have := HN.out; omega))) (fun hHeldB => ?_)
    rw [eB] at hHeldB ⊢
    rw [hbb] at hxB ⊢
    clear hK K
    try simp only [Act.put, List.setIfInBounds_toArray, List.set_cons_zero, List.set_cons_succ]
    have hxA' := (hbB.block b2 (by omega)).trans hxA
    obtain ⟨Y1, hr1, hy1, ho1⟩ := store_term XB b1 _ _ _ (.int .i64 s.v) (.string s.fn) (.slice sa1 s.args.length sc1) hxB (by intro u hu; simp only [List.mem_cons, List.not_mem_nil, or_false] at hu; rcases hu with rfl | rfl | rfl <;> rfl)
    have hne : b1 ≠ b2 := by omega
    have hx2' := (ho1.block b2 (Array.getElem?_eq_some_iff.1 hxA').1 (by simpa using hne.symm)).trans hxA'
    obtain ⟨Y2, hr2, hy2, ho2⟩ := store_term Y1 b2 _ _ _ (.int .i64 t.v) (.string t.fn) (.slice sa2 t.args.length sc2) hx2' (by intro u hu; simp only [List.mem_cons, List.not_mem_nil, or_false] at hu; rcases hu with rfl | rfl | rfl <;> rfl)
    have hN := HN.out
    have hS1 : Below n0 Wd Y1 := hHeldB.trans (ho1.below (by have := hHeldB.size; omega) (by simp; omega))
    have hS2 : Below n0 Wd Y2 := hS1.trans (ho2.below (by have := hS1.size; omega) (by simp; omega))
    refine wpAnyH_ready (rs := [16]) (by kernel_rfl) (by simp) (AllReadyH.cons (o := ⟨_, _, _, _, _, _⟩) rfl (fun K hK => ?_) AllReadyH.nil)
    rw [if_pos (by rfl)]
    refine wp_store_run 30 _ _ rfl (.pointer (some ⟨b1, 0, none⟩)) (tval s (.slice sa1 s.args.length sc1)) rfl rfl hr1 ?_
    refine hK.out _ _ hS1 (fun _ => ?_)
    clear hK K
    try simp only [Act.put]
    refine wpAnyH_ready (rs := [17]) (by kernel_rfl) (by simp) (AllReadyH.cons (o := ⟨_, _, _, _, _, _⟩) rfl (fun K hK => ?_) AllReadyH.nil)
    rw [if_pos (by rfl)]
    refine wp_store_run 30 _ _ rfl (.pointer (some ⟨b2, 0, none⟩)) (tval t (.slice sa2 t.args.length sc2)) rfl rfl hr2 ?_
    refine hK.out _ _ hS2 (fun _ => ?_)
    clear hK K
    refine wpAnyH_done (by kernel_rfl) ?_ _
    try simp only [Act.put]
    have HB : Hid (Bo Wd s t (.slice sa1 s.args.length sc1) (.slice sa2 t.args.length sc2) b1 b2 Y2) := ⟨by rw [hN]; exact hS2, (ho2.block b1 (Array.getElem?_eq_some_iff.1 hy1).1 (by simpa using hne)).trans hy1, hy2⟩
    clear hN hS1 hS2 hr1 hr2 hy1 hy2 ho1 ho2 hx2' hxA' hxA hxB hbA hbB eA eB hHeldA hHeldB hba hbb hsA hne
  all_goals (
    clear qx0 qy0 qx1 qy1 hB0 hHeld
    obtain ⟨⟨l1, r0, r1, r2⟩, l2, u0, u1, u2⟩ := HB.out.cells
    go_wp2
    clear r0 r1 r2 u0 u1 u2 l1 l2
    obtain ⟨oa, oc, eso, _, _⟩ := HH.out.1.argat HE.out.1
    obtain ⟨pa, pc, esp, _, _⟩ := HH.out.2.1.argat HE.out.2.1
    have hes : X[i]'(HE.out.1) = s := by obtain ⟨h, e⟩ := HE.out.2.2.2.1; exact e
    have het : Y[k]'(HE.out.2.1) = t := by obtain ⟨h, e⟩ := HE.out.2.2.2.2; exact e
    have HP : Hid (∀ W, Below w.heap.size w W → W.cell? ⟨px, 1, none⟩ = some (.slice (some ⟨ox, 0, none⟩) X.length kx) ∧ W.cell? ⟨ox, i, none⟩ = some (.slice oa s.args.length oc) ∧ W.cell? ⟨py, 1, none⟩ = some (.slice (some ⟨oy, 0, none⟩) Y.length ky) ∧ W.cell? ⟨oy, k, none⟩ = some (.slice pa t.args.length pc) ∧ W.cell? ⟨px, 0, none⟩ = some (.slice (some ⟨bx, 0, none⟩) X.length cx)) := fun W hW => by
      have q1 := HH.out.1.below hW
      have q2 := HH.out.2.1.below hW
      refine ⟨q1.c1, ?_, q2.c1, ?_, q1.c0⟩
      · rw [q1.o i HE.out.1, eso, hes]
      · rw [q2.o k HE.out.2.1, esp, het]
    have HOX : Hid (∀ W, Below w.heap.size w W → ∀ j (hj : j < s.args.length), ∃ (b p : Nat), oa = some ⟨b, 0, none⟩ ∧ b < W.heap.size ∧ W.cell? ⟨b, j, none⟩ = some (.int .i64 (p : Int)) ∧ p < i ∧ ∃ hp : p < X.length, X[p] = s.args[j]) := fun W hW j hj => by
      obtain ⟨a', c', e', _, q⟩ := (HH.out.1.below hW).argat HE.out.1
      obtain ⟨rfl, _⟩ : a' = oa ∧ c' = oc := by rw [eso] at e'; injection e' with e1 e2 e3; exact ⟨e1.symm, e3.symm⟩
      obtain ⟨b, p, h1, h2, h3, h4, h5, h6⟩ := q j (by rw [hes]; exact hj)
      refine ⟨b, p, h1, h2, h3, h4, h5, ?_⟩
      rw [h6]; congr 1; rw [hes]
    have HOY : Hid (∀ W, Below w.heap.size w W → ∀ j (hj : j < t.args.length), ∃ (b p : Nat), pa = some ⟨b, 0, none⟩ ∧ b < W.heap.size ∧ W.cell? ⟨b, j, none⟩ = some (.int .i64 (p : Int)) ∧ p < k ∧ ∃ hp : p < Y.length, Y[p] = t.args[j]) := fun W hW j hj => by
      obtain ⟨a', c', e', _, q⟩ := (HH.out.2.1.below hW).argat HE.out.2.1
      obtain ⟨rfl, _⟩ : a' = pa ∧ c' = pc := by rw [esp] at e'; injection e' with e1 e2 e3; exact ⟨e1.symm, e3.symm⟩
      obtain ⟨b, p, h1, h2, h3, h4, h5, h6⟩ := q j (by rw [het]; exact hj)
      refine ⟨b, p, h1, h2, h3, h4, h5, ?_⟩
      rw [h6]; congr 1; rw [het]
    have HWB : Hid (∀ Z, Bo Wd s t (.slice sa1 s.args.length sc1) (.slice sa2 t.args.length sc2) b1 b2 Z → Below w.heap.size w Z) := fun Z hZ => HW.out.1.trans (hZ.bel.mono HW.out.2)
    clear eso esp hes het
    go_loopw [15] (fun vj wr => ∃ j : Nat, vj = .int .i64 j ∧ j ≤ s.args.length ∧ Hid (Bo Wd s t (.slice sa1 s.args.length sc1) (.slice sa2 t.args.length sc2) b1 b2 wr ∧ ∀ j' (h : j' < s.args.length), j' < j → ¬ (s.args[j'] = t ∨ lg g s.args[j'] t))) (fun vj _ => s.args.length - (intOf vj).toNat)
    case atStart => exact ⟨0, rfl, Nat.zero_le _, HB.out, fun j' _ h => by omega⟩
    case round =>
      obtain ⟨j, rfl, hj, HI⟩ := hrel
      have bw := HWB.out _ HI.out.1
      obtain ⟨⟨l1, r0, r1, r2⟩, l2, u0, u1, u2⟩ := HI.out.1.cells
      obtain ⟨p1, p2, p3, p4, p5⟩ := HP.out _ bw
      by_cases hlt : j < s.args.length
      · obtain ⟨gb1, gp, rfl, gl1, gc1, glt, ghp, gx⟩ := HOX.out _ bw j hlt
        obtain ⟨br, cr, t1, tl, t2⟩ := (HH.out.2.2.1.below bw).row gp ghp (by omega)
        have t3 := t2 k HE.out.2.1 (.inl glt)
        obtain ⟨m0, m1, m2, ma⟩ := (HH.out.1.below bw).t gp ghp
        obtain ⟨mb, mc, em, _, _⟩ := ma.slice
        rw [em] at m2 ma
        obtain ⟨hyk, eyk⟩ := HE.out.2.2.2.2
        rw [gx, eyk] at t3
        rw [gx] at m0 m1 m2 ma
        obtain ⟨x, hx⟩ : ∃ x, s.args[j] = x := ⟨_, rfl⟩
        have HX : Hid (∃ h : j < s.args.length, s.args[j] = x) := ⟨hlt, hx⟩
        rw [hx] at t3 m0 m1 m2 ma
        have hpI : (gp : Int) < (X.length : Int) := by omega
        have hjI : (j : Int) < (s.args.length : Int) := by omega
        have lt0 := (HH.out.2.2.1.below bw).lt
        have V := HH.out.1.below bw
        have bw0 : Below w0.heap.size w0 wr := HH.out.2.2.2.2.trans (bw.mono HH.out.2.2.2.2.size)
        have lw0 := bw0.size
        have F0 := cell_far (w := wr) V.ltp p5
        have F1 := cell_far (w := wr) V.ltl m0
        have F2 := cell_far (w := wr) V.ltl m1
        have F3 := cell_far (w := wr) V.ltl m2
        have F4 := cell_far (w := wr) l2 u0
        have F5 := cell_far (w := wr) l2 u1
        have F6 := cell_far (w := wr) l2 u2
        have F7 := cell_far (w := wr) lt0 t1
        have F8 := cell_far (w := wr) tl t3
        have hc : ∀ W, Below wr.heap.size wr W → Calls Tryz.prog 54 #[tval x (.slice mb x.args.length mc), tval t (.slice sa2 t.args.length sc2)] W fun e w' => e = .returned (.bool (same x t)) ∧ Below W.heap.size W w' := fun W hW => rsame_any _ _ _ _ W (ArgsAt.keep (bw0.trans (hW.mono lw0)) (Nat.le_refl _) ma) (ArgsAt.keep (bw0.trans (hW.mono lw0)) (Nat.le_refl _) HA2.out)
        clear t2 V lt0 ma m0 m1 m2 em t1 tl
        by_cases hsm : x = t
        · have HN : Hid (lgB g s t = true) := (one_step g s t).2.1 HE.out.2.2.1 ⟨x, by rw [← hx]; exact List.getElem_mem hlt, .inl hsm⟩
          rw [show same x t = true by simp [same, hsm]] at hc
          clear hsm hx t3 gx
          go_wp2
          refine wp_region_far (by kernel_rfl) ?_
          repeat (first | go_big_quiet_step (exact calls_far hc _) | quiet_step (exact calls_far hc _))
          refine wpQuiet_nil ?_
          intro _ hw'
          obtain ⟨pf, rfl⟩ := hw'
          go_wp2
          go_ret
          exact ⟨ret_bool HN.out.symm, bw.trans ((below_far wr pf).mono bw.size)⟩
        · rw [show same x t = false by simp [same, hsm]] at hc
          cases hz : lgB g x t
          · have HN : Hid (∀ j' (h : j' < s.args.length), j' < j + 1 → ¬ (s.args[j'] = t ∨ lg g s.args[j'] t)) := fun j' h hh => by
              rcases Nat.lt_or_ge j' j with q | q
              · exact HI.out.2 j' h q
              · have : j' = j := by omega
                subst this
                rw [hx]
                rintro (e | e)
                · exact hsm e
                · rw [lgB_iff.2 e] at hz; cases hz
            rw [hz] at F8
            clear hsm hx t3 gx hz
            go_wp2
            refine wp_region_far (by kernel_rfl) ?_
            repeat (first | go_big_quiet_step (exact calls_far hc _) | quiet_step (exact calls_far hc _))
            refine wpQuiet_nil ?_
            intro _ hw'
            obtain ⟨pf, rfl⟩ := hw'
            go_wp2
            go_roundw
            case rel => exact ⟨j + 1, by go_num, by omega, HI.out.1.below (below_far _ _), HN.out⟩
            case measure => simp [intOf]; omega
          · have HN : Hid (lgB g s t = true) := (one_step g s t).2.1 HE.out.2.2.1 ⟨x, by rw [← hx]; exact List.getElem_mem hlt, .inr (lgB_iff.1 hz)⟩
            rw [hz] at F8
            clear hsm hx t3 gx hz
            go_wp2
            refine wp_region_far (by kernel_rfl) ?_
            repeat (first | go_big_quiet_step (exact calls_far hc _) | quiet_step (exact calls_far hc _))
            refine wpQuiet_nil ?_
            intro _ hw'
            obtain ⟨pf, rfl⟩ := hw'
            go_wp2
            go_ret
            exact ⟨ret_bool HN.out.symm, bw.trans ((below_far wr pf).mono bw.size)⟩
      · have HNE : Hid (¬ ∃ a ∈ s.args, a = t ∨ lg g a t) := by
          rintro ⟨a, ha, h⟩
          obtain ⟨m, hm, rfl⟩ := List.getElem_of_mem ha
          exact HI.out.2 m hm (by omega) h
        by_cases h1 : t.fn.size = 0
        · have HN : Hid (lgB g s t = false) := (one_step g s t).2.2.1 HE.out.2.2.1 HNE.out h1
          have hde : t.fn.toList.isEmpty = true := by rw [ba_isEmpty]; simp [h1]
          clear h1
          go_wp2
          go_ret
          exact ⟨ret_bool HN.out.symm, bw⟩
        · have hde : t.fn.toList.isEmpty = false := by rw [ba_isEmpty]; exact decide_eq_false h1
          have h1f : t.fn.size ≠ 0 := h1
          clear h1
          go_wp2
          clear r0 r1 r2 u0 u1 u2 p1 p2 p3 p4 p5 l1 l2 bw
          obtain ⟨wr1, hwr1⟩ : ∃ W, W = wr := ⟨_, rfl⟩
          subst hwr1
          go_loopw [17] (fun vj wr => ∃ j : Nat, vj = .int .i64 j ∧ j ≤ t.args.length ∧ Hid (Bo Wd s t (.slice sa1 s.args.length sc1) (.slice sa2 t.args.length sc2) b1 b2 wr ∧ ∀ j' (h : j' < t.args.length), j' < j → lg g s t.args[j'])) (fun vj _ => t.args.length - (intOf vj).toNat)
          case atStart => exact ⟨0, rfl, Nat.zero_le _, HI.out.1, fun j' _ h => by omega⟩
          case round =>
            obtain ⟨j, rfl, hj, HI2⟩ := hrel
            have bw := HWB.out _ HI2.out.1
            obtain ⟨⟨l1, r0, r1, r2⟩, l2, u0, u1, u2⟩ := HI2.out.1.cells
            obtain ⟨p1, p2, p3, p4, p5⟩ := HP.out _ bw
            by_cases hlt : j < t.args.length
            · obtain ⟨gb2, gq, rfl, gl2, gc2, glt2, ghq, gy⟩ := HOY.out _ bw j hlt
              obtain ⟨br, cr, t1, tl, t2⟩ := (HH.out.2.2.1.below bw).row i HE.out.1 (Nat.le_refl _)
              have t3 := t2 gq ghq (.inr glt2)
              obtain ⟨hxi, exi⟩ := HE.out.2.2.2.1
              rw [gy, exi] at t3
              have hqI : (gq : Int) < (Y.length : Int) := by omega
              have hjI2 : (j : Int) < (t.args.length : Int) := by omega
              have lt0 := (HH.out.2.2.1.below bw).lt
              have V2 := HH.out.2.1.below bw
              have G3 := cell_far (w := wr) V2.ltp p3
              have G4 := cell_far (w := wr) V2.lto p4
              have G6 := cell_far (w := wr) gl2 gc2
              have G7 := cell_far (w := wr) lt0 t1
              clear t2 V2 lt0
              cases hz : lgB g s t.args[j]
              · rw [hz] at t3
                have HN : Hid (lgB g s t = false) := (one_step g s t).2.2.2.1 HE.out.2.2.1 HNE.out h1f (fun q => by have := lgB_iff.2 (q _ (List.getElem_mem hlt)); rw [hz] at this; cases this)
                have G8 := cell_far (w := wr) tl t3
                clear hz r0 r1 r2 u0 u1 u2
                go_wp2
                refine wp_region_far (by kernel_rfl) ?_
                repeat (first | go_big_quiet_step (fail) | quiet_step (fail))
                refine wpQuiet_nil ?_
                intro _ hw'
                obtain ⟨pf, rfl⟩ := hw'
                go_wp2
                go_ret
                exact ⟨ret_bool HN.out.symm, bw.trans ((below_far wr pf).mono bw.size)⟩
              · rw [hz] at t3
                have HN : Hid (∀ j' (h : j' < t.args.length), j' < j + 1 → lg g s t.args[j']) := fun j' h hh => by
                  rcases Nat.lt_or_ge j' j with q | q
                  · exact HI2.out.2 j' h q
                  · have : j' = j := by omega
                    subst this
                    exact lgB_iff.1 hz
                have G8 := cell_far (w := wr) tl t3
                clear hz r0 r1 r2 u0 u1 u2
                go_wp2
                refine wp_region_far (by kernel_rfl) ?_
                repeat (first | go_big_quiet_step (fail) | quiet_step (fail))
                refine wpQuiet_nil ?_
                intro _ hw'
                obtain ⟨pf, rfl⟩ := hw'
                go_wp2
                go_roundw
                case rel => exact ⟨j + 1, by go_num, by omega, HI2.out.1.below (below_far _ _), HN.out⟩
                case measure => simp [intOf]; omega
            · have HAL : Hid (∀ b ∈ t.args, lg g s b) := fun b hb => by
                obtain ⟨m, hm, rfl⟩ := List.getElem_of_mem hb
                exact HI2.out.2 m hm (by omega)
              by_cases hf : s.fn = t.fn ∧ s.args.length = t.args.length
              · have e1 : (s.fn.toList == t.fn.toList) = true := by rw [hf.1]; simp
                have e2 : (s.fn.toList != t.fn.toList) = false := by rw [bne, e1]; rfl
                have e3 : ((s.args.length : Int) != (t.args.length : Int)) = false := by rw [hf.2]; simp
                have HLE : Hid (s.fn = t.fn ∧ s.args.length = t.args.length) := hf
                have HLG : Hid (True → lgB g s t = fdB g s.args t.args) := fun _ => (one_step g s t).2.2.2.2.2 HE.out.2.2.1 HNE.out h1f HAL.out hf.1 hf.2
                clear hf
                have HI2' : Hid (Bo Wd s t (.slice sa1 s.args.length sc1) (.slice sa2 t.args.length sc2) b1 b2 wr ∧ True) := ⟨HI2.out.1, trivial⟩
                clear HI2
                have HI2 := HI2'
                clear HI2'
                go_wp2
                clear r0 r1 r2 u0 u1 u2 p1 p2 p3 p4 p5 l1 l2 bw e1 e2 e3
                obtain ⟨wr2, hwr2⟩ : ∃ W, W = wr := ⟨_, rfl⟩
                subst hwr2
                go_loopw [18] (fun vj wr => ∃ j : Nat, vj = .int .i64 j ∧ j ≤ s.args.length ∧ Hid (Bo Wd s t (.slice sa1 s.args.length sc1) (.slice sa2 t.args.length sc2) b1 b2 wr ∧ fdB g s.args t.args = fdB g (s.args.drop j) (t.args.drop j))) (fun vj _ => s.args.length - (intOf vj).toNat)
                case atStart => exact ⟨0, rfl, Nat.zero_le _, HI2.out.1, by simp⟩
                case round =>
                  obtain ⟨j, rfl, hj, HI3⟩ := hrel
                  have bw := HWB.out _ HI3.out.1
                  obtain ⟨⟨l1, r0, r1, r2⟩, l2, u0, u1, u2⟩ := HI3.out.1.cells
                  obtain ⟨p1, p2, p3, p4, p5⟩ := HP.out _ bw
                  by_cases hlt : j < s.args.length
                  · have hlt2 : j < t.args.length := by have := HLE.out.2; omega
                    obtain ⟨ab1, ao1, as1, rfl, al1, ac0, ac1, ac2, ahs⟩ := HA1.out.nth hlt
                    obtain ⟨ab2, ao2, as2, rfl, al2, bc0, bc1, bc2, bhs⟩ := HA2.out.nth hlt2
                    obtain ⟨aa1, acc1, rfl, _, _⟩ := ahs.slice
                    obtain ⟨aa2, acc2, rfl, _, _⟩ := bhs.slice
                    have bw0 : Below w0.heap.size w0 wr := HH.out.2.2.2.2.trans (bw.mono HH.out.2.2.2.2.size)
                    have lw0 := bw0.size
                    have F1 := cell_far (w := wr) l1 r2
                    have F2 := cell_far (w := wr) l2 u2
                    have F3 := cell_far (w := wr) (by omega) (kc bw0 al1 ac0)
                    have F4 := cell_far (w := wr) (by omega) (kc bw0 al1 ac1)
                    have F5 := cell_far (w := wr) (by omega) (kc bw0 al1 ac2)
                    have F6 := cell_far (w := wr) (by omega) (kc bw0 al2 bc0)
                    have F7 := cell_far (w := wr) (by omega) (kc bw0 al2 bc1)
                    have F8 := cell_far (w := wr) (by omega) (kc bw0 al2 bc2)
                    have hc : ∀ W, Below wr.heap.size wr W → Calls Tryz.prog 54 #[tval s.args[j] (.slice aa1 s.args[j].args.length acc1), tval t.args[j] (.slice aa2 t.args[j].args.length acc2)] W fun e w' => e = .returned (.bool (same s.args[j] t.args[j])) ∧ Below W.heap.size W w' := fun W hW => rsame_any _ _ _ _ W (ArgsAt.keep (bw0.trans (hW.mono lw0)) (Nat.le_refl _) ahs) (ArgsAt.keep (bw0.trans (hW.mono lw0)) (Nat.le_refl _) bhs)
                    have hjI : (j : Int) < (s.args.length : Int) := by omega
                    have hjI2 : (j : Int) < (t.args.length : Int) := by omega
                    have HD : Hid (s.args.drop j = s.args[j] :: s.args.drop (j + 1) ∧ t.args.drop j = t.args[j] :: t.args.drop (j + 1)) := ⟨List.drop_eq_getElem_cons hlt, List.drop_eq_getElem_cons hlt2⟩
                    obtain ⟨x, hx⟩ : ∃ x, s.args[j] = x := ⟨_, rfl⟩
                    obtain ⟨y, hy⟩ : ∃ y, t.args[j] = y := ⟨_, rfl⟩
                    have HXY : Hid ((∃ h : j < s.args.length, s.args[j] = x) ∧ ∃ h : j < t.args.length, t.args[j] = y) := ⟨⟨hlt, hx⟩, ⟨hlt2, hy⟩⟩
                    rw [hx] at hc F3 F4 F5
                    rw [hy] at hc F6 F7 F8
                    rw [hx, hy] at HD
                    by_cases hsm : x = y
                    · have HN : Hid (fdB g s.args t.args = fdB g (s.args.drop (j + 1)) (t.args.drop (j + 1))) := by
                        show _ = _
                        rw [HI3.out.2, HD.out.1, HD.out.2, fdB, if_pos hsm]
                      rw [show same x y = true by simp [same, hsm]] at hc
                      clear ac0 ac1 ac2 bc0 bc1 bc2 ahs bhs hx hy hsm r0 r1 u0 u1 p1 p2 p3 p4 p5
                      go_wp2
                      refine wp_region_far (by kernel_rfl) ?_
                      repeat (first | go_big_quiet_step (exact calls_far hc _) | quiet_step (exact calls_far hc _))
                      refine wpQuiet_nil ?_
                      intro _ hw'
                      obtain ⟨pf, rfl⟩ := hw'
                      go_wp2
                      go_roundw
                      case rel => exact ⟨j + 1, by go_num, by omega, HI3.out.1.below (below_far _ _), HN.out⟩
                      case measure => simp [intOf]; omega
                    · have HN : Hid (fdB g s.args t.args = lgB g x y) := by
                        show _ = _
                        rw [HI3.out.2, HD.out.1, HD.out.2, fdB, if_neg hsm]
                      rw [show same x y = false by simp [same, hsm]] at hc
                      obtain ⟨gb1, gp, rfl, gl1, gc1, glt, ghp, gx⟩ := HOX.out _ bw j hlt
                      obtain ⟨gb2, gq, rfl, gl2, gc2, glt2, ghq, gy⟩ := HOY.out _ bw j hlt2
                      obtain ⟨br, cr, t1, tl, t2⟩ := (HH.out.2.2.1.below bw).row gp ghp (by omega)
                      have t3 := t2 gq ghq (.inl glt)
                      rw [gx, gy, hx, hy] at t3
                      obtain ⟨z, hz⟩ : ∃ z, lgB g x y = z := ⟨_, rfl⟩
                      rw [hz] at t3 HN
                      have hpI : (gp : Int) < (X.length : Int) := by omega
                      have hqI : (gq : Int) < (Y.length : Int) := by omega
                      have lt0 := (HH.out.2.2.1.below bw).lt
                      have V := HH.out.1.below bw
                      have V2 := HH.out.2.1.below bw
                      have G1 := cell_far (w := wr) V.ltp p1
                      have G2 := cell_far (w := wr) V.lto p2
                      have G3 := cell_far (w := wr) V2.ltp p3
                      have G4 := cell_far (w := wr) V2.lto p4
                      have G5 := cell_far (w := wr) gl1 gc1
                      have G6 := cell_far (w := wr) gl2 gc2
                      have G7 := cell_far (w := wr) lt0 t1
                      have G8 := cell_far (w := wr) tl t3
                      clear ac0 ac1 ac2 bc0 bc1 bc2 ahs bhs hx hy hsm r0 r1 u0 u1 t2 V V2 hz
                      go_wp2
                      refine wp_region_far (by kernel_rfl) ?_
                      repeat (first | go_big_quiet_step (exact calls_far hc _) | quiet_step (exact calls_far hc _))
                      refine wpQuiet_nil ?_
                      intro _ hw'
                      obtain ⟨pf, rfl⟩ := hw'
                      have K1 := fun q => cell_far (w := far wr pf) (b := px) (o := 1) (by have := (below_far wr pf).size; have := HH.out.1.ltp; have := bw.size; omega) (G1 pf) q
                      have K2 := fun q => cell_far (w := far wr pf) (b := ox) (o := i) (by have := (below_far wr pf).size; have := HH.out.1.lto; have := bw.size; omega) (G2 pf) q
                      have K3 := fun q => cell_far (w := far wr pf) (b := py) (o := 1) (by have := (below_far wr pf).size; have := HH.out.2.1.ltp; have := bw.size; omega) (G3 pf) q
                      have K4 := fun q => cell_far (w := far wr pf) (b := oy) (o := k) (by have := (below_far wr pf).size; have := HH.out.2.1.lto; have := bw.size; omega) (G4 pf) q
                      have K5 := fun q => cell_far (w := far wr pf) (b := gb1) (o := j) (by have := (below_far wr pf).size; omega) (G5 pf) q
                      have K6 := fun q => cell_far (w := far wr pf) (b := gb2) (o := j) (by have := (below_far wr pf).size; omega) (G6 pf) q
                      have K7 := fun q => cell_far (w := far wr pf) (b := bt) (o := gp) (by have := (below_far wr pf).size; omega) (G7 pf) q
                      have K8 := fun q => cell_far (w := far wr pf) (b := br) (o := gq) (by have := (below_far wr pf).size; omega) (G8 pf) q
                      have HQ : Hid (Below w.heap.size w (far wr pf)) := bw.trans ((below_far wr pf).mono bw.size)
                      clear F1 F2 F3 F4 F5 F6 F7 F8 G1 G2 G3 G4 G5 G6 G7 G8
                      generalize far wr pf = wq at *
                      go_wp2
                      refine wp_region_far (by kernel_rfl) ?_
                      repeat (first | go_big_quiet_step (fail) | quiet_step (fail))
                      refine wpQuiet_nil ?_
                      intro _ hw'
                      obtain ⟨pf, rfl⟩ := hw'
                      go_wp2
                      go_ret
                      exact ⟨ret_bool (HN.out.symm.trans (HLG.out HI2.out.2).symm), HQ.out.trans ((below_far wq pf).mono HQ.out.size)⟩
                  · have HN : Hid (fdB g s.args t.args = false) := by
                      show _ = _
                      have e : s.args.drop j = [] := List.drop_eq_nil_of_le (by omega)
                      rw [HI3.out.2, e]
                      rfl
                    go_wp2
                    go_ret
                    exact ⟨ret_bool (HN.out.symm.trans (HLG.out HI2.out.2).symm), bw⟩
              · have HN : Hid (lgB g s t = tsymB g s t) := (one_step g s t).2.2.2.2.1 HE.out.2.2.1 HNE.out h1f HAL.out (by
                  by_cases q : s.fn = t.fn
                  · exact .inr fun q' => hf ⟨q, q'⟩
                  · exact .inl q)
                obtain ⟨g0, g1⟩ := HG.out _ HI2.out.1.bel
                have hsym := rsym_any g s t (.slice an nn cn) (.slice aw nw cw) sa1 sa2 sc1 sc2 wr (HH.out.2.2.2.1.keep (HH.out.2.2.2.2.trans (bw.mono HH.out.2.2.2.2.size)) (Nat.le_refl _))
                obtain ⟨z, hz⟩ : ∃ z, tsymB g s t = z := ⟨_, rfl⟩
                rw [hz] at hsym HN
                clear hz
                by_cases q : s.fn = t.fn
                · have e1 : (s.fn.toList == t.fn.toList) = true := by rw [q]; simp
                  have e2 : (s.fn.toList != t.fn.toList) = false := by rw [bne, e1]; rfl
                  have e3 : ((s.args.length : Int) != (t.args.length : Int)) = true := by
                    rw [bne_iff_ne]; intro e; exact hf ⟨q, by omega⟩
                  clear hf q
                  go_wp2_with fail
                  refine hsym.mono ?_
                  rintro e W2 ⟨rfl, hb2⟩
                  go_wp2
                  go_ret
                  exact ⟨ret_bool HN.out.symm, bw.trans (hb2.mono bw.size)⟩
                · have e1 : (s.fn.toList == t.fn.toList) = false := by rw [beq_eq_false_iff_ne]; exact fun e => q (ba_toList_inj.1 e)
                  have e2 : (s.fn.toList != t.fn.toList) = true := by rw [bne, e1]; rfl
                  clear hf q
                  go_wp2_with fail
                  refine hsym.mono ?_
                  rintro e W2 ⟨rfl, hb2⟩
                  go_wp2
                  go_ret
                  exact ⟨ret_bool HN.out.symm, bw.trans (hb2.mono bw.size)⟩)
end
end Go.Proofs.YtglphfhlpobgcaaGreat

namespace Go.Proofs.YtglphfhlpobgcaaGreat
open Go.RowKit Go.Maps
theorem one_any {w0 w : World} {g : Sg} {vn vw : Value} {px bx cx ox kx py by_ cy oy ky bt ct i k : Nat} {X Y : List T} {Ox Oy : List (List Nat)} {sax sox say soy : Nat → Value} (hX : Vw w0 w px X Ox bx cx ox kx sax sox) (hY : Vw w0 w py Y Oy by_ cy oy ky say soy) (hT : Tab g X Y i k bt w) (hi : i < X.length) (hk : k < Y.length) (hg : SgAt w0 g vn vw) (hw : Below w0.heap.size w0 w) :
    Calls Tryz.prog 94 #[gval vn vw, .pointer (some ⟨px, 0, none⟩), .pointer (some ⟨py, 0, none⟩), .slice (some ⟨bt, 0, none⟩) X.length ct, .int .i64 (i : Int), .int .i64 (k : Int)] w fun e w' => e = .returned (.bool (lgB g X[i] Y[k])) ∧ Below w.heap.size w w' := by
  by_cases h0 : X[i].fn.size = 0
  · rw [(one_step g X[i] Y[k]).1 h0]
    obtain ⟨a, c, e, _, _⟩ := hg.ns.slice
    obtain ⟨a', c', e', _, _⟩ := hg.ws.slice
    exact one_var hX hY hi hk h0 ⟨_, _, _, e⟩ ⟨_, _, _, e'⟩ _
  · exact one_fn hX hY hT hi hk h0 hg hw
structure Tb (W7 : World) (g : Sg) (X Y : List T) (ii i k bt : Nat) (rb : Nat → Nat) (W : World) : Prop where
  bel : Below W7.heap.size W7 W
  low : W7.heap.size ≤ bt
  t : ∃ cur : Array Value, W.heap[bt]? = some (.cells cur 103 (0, 0)) ∧ cur.size = X.length ∧ ∀ i', i' < ii → cur[i']? = some (.slice (some ⟨rb i', 0, none⟩) Y.length Y.length)
  r : ∀ i', i' < ii → ∃ rc : Array Value, W.heap[rb i']? = some (.cells rc 4 (0, 0)) ∧ rc.size = Y.length ∧ ∀ (h : i' < X.length) k' (h' : k' < Y.length), (i' < i ∨ k' < k) → rc[k']? = some (.bool (lgB g X[i'] Y[k']))
  up : ∀ i', i' < ii → bt < rb i'
  ne : ∀ i' j', i' < j' → j' < ii → rb i' ≠ rb j'
section
variable {W7 : World} {g : Sg} {X Y : List T} {ii i k bt : Nat} {rb : Nat → Nat} {W W' : World}
theorem Tb.btlt (h : Tb W7 g X Y ii i k bt rb W) : bt < W.heap.size := by
  obtain ⟨cur, h1, _⟩ := h.t
  exact (Array.getElem?_eq_some_iff.1 h1).1
theorem Tb.below (h : Tb W7 g X Y ii i k bt rb W) (hb : Below W.heap.size W W') : Tb W7 g X Y ii i k bt rb W' := by
  refine ⟨h.bel.trans (hb.mono h.bel.size), h.low, ?_, fun i' hi => ?_, h.up, h.ne⟩
  · obtain ⟨cur, h1, h2⟩ := h.t
    exact ⟨cur, (hb.block bt (Array.getElem?_eq_some_iff.1 h1).1).trans h1, h2⟩
  · obtain ⟨rc, h1, h2⟩ := h.r i' hi
    exact ⟨rc, (hb.block _ (Array.getElem?_eq_some_iff.1 h1).1).trans h1, h2⟩
theorem Tb.tab (h : Tb W7 g X Y (i + 1) i k bt rb W) : Tab g X Y i k bt W := by
  refine ⟨h.btlt, fun i' hi hle => ?_⟩
  obtain ⟨cur, h1, h2, h3⟩ := h.t
  obtain ⟨rc, q1, q2, q3⟩ := h.r i' (by omega)
  refine ⟨rb i', Y.length, ?_, (Array.getElem?_eq_some_iff.1 q1).1, fun k' hk hq => ?_⟩
  · have e := h3 i' (by omega)
    simp only [World.cell?, h1]
    simpa using e
  · have e := q3 hi k' hk hq
    simp only [World.cell?, q1]
    simpa using e
theorem Tb.row (h : Tb W7 g X Y ii i k bt rb W) {i' : Nat} (hi : i' < ii) : W.cell? ⟨bt, i', none⟩ = some (.slice (some ⟨rb i', 0, none⟩) Y.length Y.length) := by
  obtain ⟨cur, h1, h2, h3⟩ := h.t
  have e := h3 i' hi
  simp only [World.cell?, h1]
  simpa using e
theorem Tb.entry (h : Tb W7 g X Y ii i k bt rb W) {i' k' : Nat} (hi : i' < ii) (hx : i' < X.length) (hk : k' < Y.length) (hq : i' < i ∨ k' < k) : W.cell? ⟨rb i', k', none⟩ = some (.bool (lgB g X[i'] Y[k'])) := by
  obtain ⟨rc, q1, q2, q3⟩ := h.r i' hi
  have e := q3 hx k' hk hq
  simp only [World.cell?, q1]
  simpa using e
theorem made_bool (n : Nat) : (madeCells #[.bool false] n).size = n := by unfold madeCells; simp
theorem made_rows (n : Nat) : (madeCells #[.slice none 0 0] n).size = n := by unfold madeCells; simp
theorem tb_made (W7 : World) (g : Sg) (X Y : List T) (rb : Nat → Nat) : Tb W7 g X Y 0 0 0 W7.heap.size rb (W7.alloc (.cells (madeCells #[.slice none 0 0] X.length) 103)) :=
  ⟨below_box W7 _, Nat.le_refl _, ⟨_, (MapKept.heap_alloc W7 _).1, made_rows _, fun i' h => by omega⟩, fun i' h => by omega, fun i' h => by omega, fun i' j' h h' => by omega⟩
theorem Tb.add (h : Tb W7 g X Y i i 0 bt rb W) (hi : i < X.length) : ∃ rb', rb' i = W.heap.size ∧ Tb W7 g X Y (i + 1) i 0 bt rb' ((W.alloc (.cells (madeCells #[.bool false] Y.length) 4)).setCell ⟨bt, i, none⟩ (.slice (some ⟨W.heap.size, 0, none⟩) Y.length Y.length)) := by
  have hbt := h.btlt
  obtain ⟨W1, e1⟩ : ∃ X, W.alloc (.cells (madeCells #[.bool false] Y.length) 4) = X := ⟨_, rfl⟩
  have b1 : Below W.heap.size W W1 := by rw [← e1]; exact below_box W _
  have hr1 : W1.heap[W.heap.size]? = some (.cells (madeCells #[.bool false] Y.length) 4 (0, 0)) := by rw [← e1]; exact (MapKept.heap_alloc W _).1
  rw [e1]
  have h1 := h.below b1
  obtain ⟨cur, c1, c2, c3⟩ := h1.t
  have hset := Go.heap_setCell_same W1 bt i _ 103 (.slice (some ⟨W.heap.size, 0, none⟩) Y.length Y.length) c1
  have on := only_setCell W1 bt i (.slice (some ⟨W.heap.size, 0, none⟩) Y.length Y.length)
  have hrlt : ∀ i', i' < i → rb i' < W.heap.size := fun i' hi' => by
    obtain ⟨rc, q1, _⟩ := h.r i' hi'
    exact (Array.getElem?_eq_some_iff.1 q1).1
  refine ⟨fun m => if m = i then W.heap.size else rb m, by simp, h1.bel.trans (on.below (by have := h1.bel.size; omega) (by simpa using h.low)), h.low, ⟨_, hset, by simp [c2], fun i' hi' => ?_⟩, fun i' hi' => ?_, fun i' hi' => ?_, fun i' j' hij hj' => ?_⟩
  · by_cases e : i' = i
    · subst e
      simp [c2, hi]
    · have := c3 i' (by omega)
      simp only [if_neg e]
      rw [← this]
      simp [Ne.symm e]
  · by_cases e : i' = i
    · subst e
      simp only [if_true]
      have hlt := (Array.getElem?_eq_some_iff.1 hr1).1
      exact ⟨_, (on.block _ hlt (by simp; omega)).trans hr1, made_bool _, fun _ k' _ hq => by omega⟩
    · simp only [if_neg e]
      obtain ⟨rc, q1, q2, q3⟩ := h1.r i' (by omega)
      have hu := h.up i' (by omega)
      exact ⟨rc, (on.block _ (Array.getElem?_eq_some_iff.1 q1).1 (by simp; omega)).trans q1, q2, fun hx k' hk hq => q3 hx k' hk hq⟩
  · by_cases e : i' = i
    · subst e; simpa using hbt
    · simp only [if_neg e]
      exact h.up i' (by omega)
  · have e1 : i' ≠ i := by omega
    simp only [if_neg e1]
    by_cases e : j' = i
    · subst e
      simp only [if_true]
      have := hrlt i' (by omega)
      omega
    · simp only [if_neg e]
      exact h.ne i' j' hij (by omega)
theorem Tb.put (h : Tb W7 g X Y (i + 1) i k bt rb W) (hi : i < X.length) (hk : k < Y.length) (b1 : Below W.heap.size W W') : Tb W7 g X Y (i + 1) i (k + 1) bt rb (W'.setCell ⟨rb i, k, none⟩ (.bool (lgB g X[i] Y[k]))) := by
  have h1 := h.below b1
  obtain ⟨rc, q1, q2, q3⟩ := h1.r i (by omega)
  have hset := Go.heap_setCell_same W' (rb i) k _ 4 (.bool (lgB g X[i] Y[k])) q1
  have on := only_setCell W' (rb i) k (.bool (lgB g X[i] Y[k]))
  have hu := h.up i (by omega)
  have hl := h.low
  refine ⟨h1.bel.trans (on.below (by have := h1.bel.size; omega) (by simp; omega)), h.low, ?_, fun i' hi' => ?_, h.up, h.ne⟩
  · obtain ⟨cur, c1, c2⟩ := h1.t
    exact ⟨cur, (on.block _ (Array.getElem?_eq_some_iff.1 c1).1 (by simp; omega)).trans c1, c2⟩
  · by_cases e : i' = i
    · subst e
      refine ⟨_, hset, by simp [q2], fun hx k' hk' hq => ?_⟩
      by_cases e' : k' = k
      · subst e'
        simp [q2, hk]
      · have := q3 hx k' hk' (.inr (by omega))
        rw [← this]
        simp [Ne.symm e']
    · obtain ⟨rc', p1, p2, p3⟩ := h1.r i' hi'
      exact ⟨rc', (on.block _ (Array.getElem?_eq_some_iff.1 p1).1 (by simpa using h.ne i' i (by omega) (by omega))).trans p1, p2, fun hx k' hk' hq => p3 hx k' hk' (.inl (by omega))⟩
theorem Tb.full (h : Tb W7 g X Y (i + 1) i k bt rb W) (hk : Y.length ≤ k) : Tb W7 g X Y (i + 1) (i + 1) 0 bt rb W := by
  refine ⟨h.bel, h.low, h.t, fun i' hi' => ?_, h.up, h.ne⟩
  obtain ⟨rc, q1, q2, q3⟩ := h.r i' hi'
  exact ⟨rc, q1, q2, fun hx k' hk' _ => q3 hx k' hk' (.inr (by omega))⟩
end
end Go.Proofs.YtglphfhlpobgcaaGreat

namespace Go.Proofs.YtglphfhlpobgcaaGreat
open Go.RowKit Go.Maps
section
variable {W7 : World} {g : Sg} {X Y : List T} {ii i k bt : Nat} {rb : Nat → Nat} {W W' : World}
theorem Tb.cellT (h : Tb W7 g X Y ii i k bt rb W) {i' : Nat} (hi : i' < X.length) : ∃ v, W.cell? ⟨bt, i', none⟩ = some v ∧ W.frozen? ⟨bt, i', none⟩ = false := by
  obtain ⟨cur, h1, h2, h3⟩ := h.t
  exact ⟨cur[i']'(by omega), by simp [World.cell?, h1, h2, hi], by simp [World.frozen?, h1]⟩
theorem Tb.cellR (h : Tb W7 g X Y (i + 1) i k bt rb W) (_ : i < X.length) {k' : Nat} (hk : k' < Y.length) : ∃ v, W.cell? ⟨rb i, k', none⟩ = some v ∧ W.frozen? ⟨rb i, k', none⟩ = false := by
  obtain ⟨rc, h1, h2, h3⟩ := h.r i (by omega)
  exact ⟨rc[k']'(by omega), by simp [World.cell?, h1, h2, hk], by simp [World.frozen?, h1]⟩
end
theorem Vw.mono {w0 W W' : World} {pb : Nat} {X : List T} {O : List (List Nat)} {bl cl bo co : Nat} {sa so : Nat → Value} (h : Vw w0 W pb X O bl cl bo co sa so) (hb : Below W.heap.size W W') : Vw w0 W' pb X O bl cl bo co sa so := h.below hb
theorem Tryz.info118f : (Tryz.prog.info? 103).map (fun i => (i.zero, i.size, i.bytes)) = some (some (.slice none 0 0), 1, 24) := by kernel_rfl
theorem Tryz.info4f : (Tryz.prog.info? 4).map (fun i => (i.zero, i.size, i.bytes)) = some (some (.bool false), 1, 1) := by kernel_rfl
structure Sx (w : World) (x : T) (px n : Nat) (W5 W6 : World) (ps : List (T × Value)) (os : List (Value × List Nat)) (vl vo : Value) : Prop where
  ly : Ly w px ps os vl vo W6
  on : Only [px] W5 W6
  len : ps.length = n + 1
  le : ps.length ≤ 8000
  at_ : ∃ h : n < ps.length, ps[n].1 = x
  gl : ∀ g, vl.ownBlock = some g → W5.heap.size ≤ g
  go : ∀ g, vo.ownBlock = some g → W5.heap.size ≤ g
  gr : ∀ o ∈ os, ∀ g, o.1.ownBlock = some g → W5.heap.size ≤ g
theorem lay_new (w : World) (pb : Nat) (t : T) (sl : Value) (W : World) (hh : W.heap[pb]? = some (.cells #[.slice none 0 0, .slice none 0 0] 146 (0, 0))) (hl : w.heap.size ≤ pb) (ha : ArgsAt w sl t.args) (hb : Below w.heap.size w W) (hz : t.size ≤ 4000) :
    Calls Tryz.prog 93 #[.pointer (some ⟨pb, 0, none⟩), tval t sl] W fun e W' => ∃ n ps os vl vo, e = .returned (.int .i64 ((n : Nat) : Int)) ∧ Sx w t pb n W W' ps os vl vo := by
  have h0 : Ly w pb [] [] (.slice none 0 0) (.slice none 0 0) W := ⟨hh, ⟨rfl, .inl ⟨rfl, rfl⟩⟩, ⟨rfl, .inl ⟨rfl, rfl⟩⟩, rfl, by simp, by simp, fun i h => by simp at h, hl⟩
  refine (rlay_any w pb t sl [] [] _ _ W h0 ha hb (by simp; omega)).mono ?_
  rintro e W' ⟨k, ps, os, vl, vo, rfl, h1, _, _, h2, h3, h4, h5, h6, h7, h8⟩
  refine ⟨k, ps, os, vl, vo, rfl, h1, h5, h2, by simp at h3; omega, h4, fun g hg => ?_, fun g hg => ?_, fun o ho g hg => ?_⟩
  · rcases h6 g hg with q | q
    · simp [Value.ownBlock] at q
    · exact q
  · rcases h7 g hg with q | q
    · simp [Value.ownBlock] at q
    · exact q
  · rcases h8 o ho with q | q
    · simp at q
    · exact q g hg
set_option maxRecDepth 100000 in
set_option maxHeartbeats 8000000 in
theorem greater_ok : GreaterOk := by
  intro g x y vn vw sx sy w hg hax hay _ _ hzx hzy
  obtain ⟨an, cn, rfl, _, _⟩ := hg.ns.slice
  obtain ⟨aw, cw, rfl, _, _⟩ := hg.ws.slice
  obtain ⟨a, ca, rfl, _, _⟩ := hax.slice
  obtain ⟨b, cb, rfl, _, _⟩ := hay.slice
  obtain ⟨WA, hWA⟩ : ∃ X, ((w.alloc (.cells #[.slice an g.ns.length cn, .slice aw g.ws.length cw] 25)).alloc (tbox x (.slice a x.args.length ca))).alloc (tbox y (.slice b y.args.length cb)) = X := ⟨_, rfl⟩
  obtain ⟨WB, hWB⟩ : ∃ X, WA.alloc (.cells #[.slice none 0 0, .slice none 0 0] 146) = X := ⟨_, rfl⟩
  obtain ⟨WC, hWC⟩ : ∃ X, WB.alloc (.cells #[.slice none 0 0, .slice none 0 0] 146) = X := ⟨_, rfl⟩
  have hTr := tri_made w (.slice an g.ns.length cn) (.slice aw g.ws.length cw) 25 x (.slice a x.args.length ca) y (.slice b y.args.length cb)
  rw [hWA] at hTr
  have sA : WA.heap.size = w.heap.size + 3 := by rw [← hWA]; simp
  have sB : WB.heap.size = w.heap.size + 4 := by rw [← hWB]; simp [sA]
  have sC : WC.heap.size = w.heap.size + 5 := by rw [← hWC]; simp [sB]
  have bB : Below WA.heap.size WA WB := by rw [← hWB]; exact below_box _ _
  have bC : Below WB.heap.size WB WC := by rw [← hWC]; exact below_box _ _
  have hpx : WC.heap[w.heap.size + 3]? = some (.cells #[.slice none 0 0, .slice none 0 0] 146 (0, 0)) := by
    refine (bC.block _ (by omega)).trans ?_
    have := (MapKept.heap_alloc WA (.cells #[.slice none 0 0, .slice none 0 0] 146)).1
    rw [hWB, sA] at this
    exact this
  have hpy : WC.heap[w.heap.size + 4]? = some (.cells #[.slice none 0 0, .slice none 0 0] 146 (0, 0)) := by
    have := (MapKept.heap_alloc WB (.cells #[.slice none 0 0, .slice none 0 0] 146)).1
    rw [hWC, sB] at this
    exact this
  have hTc := (hTr.keep bB).keep bC
  have hl1 := lay_new w (w.heap.size + 3) x (.slice a x.args.length ca) WC hpx (by omega) hax hTc.bel hzx
  have HC : Hid (Tri w (.slice an g.ns.length cn) (.slice aw g.ws.length cw) x (.slice a x.args.length ca) y (.slice b y.args.length cb) WC ∧ WC.heap[w.heap.size + 4]? = some (.cells #[.slice none 0 0, .slice none 0 0] 146 (0, 0)) ∧ WC.heap.size = w.heap.size + 5) := ⟨hTc, hpy, sC⟩
  have HY : Hid (ArgsAt w (.slice b y.args.length cb) y.args ∧ y.size ≤ 4000 ∧ SgAt w g (.slice an g.ns.length cn) (.slice aw g.ws.length cw)) := ⟨hay, hzy, hg⟩
  have x0 := hTc.a0
  have x1 := hTc.a1
  have x2 := hTc.a2
  clear hTr bB bC hpx hpy hTc hax hay hzx hzy hg sC
  go_enter Tryz.func55, Tryz.ntmps55
  try rw [hWA]
  go_wp2_with fail
  try rw [hWA]
  try rw [hWB]
  try rw [hWC]
  try rw [sA]
  try rw [sB]
  refine hl1.mono ?_
  rintro e W6 ⟨n, ps, os, vl, vo, rfl, hS⟩
  have h6 : ∀ bk, bk < w.heap.size + 5 → bk ≠ w.heap.size + 3 → W6.heap[bk]? = WC.heap[bk]? := fun bk hb hne => hS.on.block bk (by rw [HC.out.2.2]; exact hb) (by simpa using hne)
  have b06 : Below w.heap.size w W6 := HC.out.1.bel.trans (hS.on.below (by rw [HC.out.2.2]; omega) (by simp))
  have c6 : ∀ bk o v, bk < w.heap.size + 5 → bk ≠ w.heap.size + 3 → WC.cell? ⟨bk, o, none⟩ = some v → W6.cell? ⟨bk, o, none⟩ = some v := fun bk o v hb hne hc => cell_on hS.on (by simpa using hne) hc
  have y0 := c6 _ _ _ (by omega) (by omega) HC.out.1.b0
  have y1 := c6 _ _ _ (by omega) (by omega) HC.out.1.b1
  have y2 := c6 _ _ _ (by omega) (by omega) HC.out.1.b2
  have g0 := c6 _ _ _ (by omega) (by omega) HC.out.1.g0
  have g1 := c6 _ _ _ (by omega) (by omega) HC.out.1.g1
  have hl2 := lay_new w (w.heap.size + 4) y (.slice b y.args.length cb) W6 ((h6 _ (by omega) (by omega)).trans HC.out.2.1) (by omega) HY.out.1 b06 HY.out.2.1
  have HS : Hid (Sx w x (w.heap.size + 3) n WC W6 ps os vl vo ∧ W6.cell? ⟨w.heap.size, 0, none⟩ = some (.slice an g.ns.length cn) ∧ W6.cell? ⟨w.heap.size, 1, none⟩ = some (.slice aw g.ws.length cw) ∧ Below w.heap.size w W6) := ⟨hS, g0, g1, b06⟩
  clear hS h6 b06 c6 g0 g1 x0 x1 x2 hl1
  go_wp2_with fail
  refine hl2.mono ?_
  rintro e W7 ⟨m, qs, rs, ul, uo, rfl, hR⟩
  obtain ⟨hS, g0', g1', b06⟩ := HS.out
  have hs6 : w.heap.size + 5 ≤ W6.heap.size := by have := hS.on.size; rw [HC.out.2.2] at this; exact this
  have hsc := HC.out.2.2
  have hLx : Ly w (w.heap.size + 3) ps os vl vo W7 := hS.ly.keep2 (fun r hr => hR.on.block r (hS.ly.there r hr) (by
      simp only [pbs, List.mem_cons, List.mem_append, Option.mem_toList] at hr
      simp only [List.mem_singleton]
      rcases hr with rfl | hr | hr
      · omega
      · have := hS.gl r hr; omega
      · have := hS.go r hr; omega)) (fun o ho r hr => hR.on.block r (by
      obtain ⟨_, cur, hc⟩ := row_block (hS.ly.rw o ho) hr
      exact (Array.getElem?_eq_some_iff.1 hc).1) (by have := hS.gr o ho r hr; simp only [List.mem_singleton]; omega))
  obtain ⟨bx, cx, ox, kx, sax, sox, rfl, rfl, hX⟩ := vw_of hLx (by have := hS.len; omega) hS.le
  obtain ⟨by_, cy, oy, ky, say, soy, rfl, rfl, hY⟩ := vw_of hR.ly (by have := hR.len; omega) hR.le
  have b07 : Below w.heap.size w W7 := b06.trans (hR.on.below (by omega) (by simp))
  have g0 := cell_on hR.on (by simp) g0'
  have g1 := cell_on hR.on (by simp) g1'
  obtain ⟨X, eX⟩ : ∃ X, ps.map (·.1) = X := ⟨_, rfl⟩
  obtain ⟨Y, eY⟩ : ∃ Y, qs.map (·.1) = Y := ⟨_, rfl⟩
  obtain ⟨Ox, eOx⟩ : ∃ O, os.map (·.2) = O := ⟨_, rfl⟩
  obtain ⟨Oy, eOy⟩ : ∃ O, rs.map (·.2) = O := ⟨_, rfl⟩
  have lX : X.length = n + 1 := by rw [← eX]; simpa using hS.len
  have lY : Y.length = m + 1 := by rw [← eY]; simpa using hR.len
  have hxn : ∃ h : n < X.length, X[n] = x := by
    obtain ⟨h, e⟩ := hS.at_
    exact ⟨by omega, by subst eX; simpa using e⟩
  have hym : ∃ h : m < Y.length, Y[m] = y := by
    obtain ⟨h, e⟩ := hR.at_
    exact ⟨by omega, by subst eY; simpa using e⟩
  rw [eX, eOx] at hX
  rw [eY, eOy] at hY
  have k0 := hX.c0
  have k1 := hY.c0
  have hX8 := hX.le
  have hY8 := hY.le
  have HV : Hid (Vw w W7 (w.heap.size + 3) X Ox bx cx ox kx sax sox ∧ Vw w W7 (w.heap.size + 4) Y Oy by_ cy oy ky say soy ∧ Below w.heap.size w W7 ∧ SgAt w g (.slice an g.ns.length cn) (.slice aw g.ws.length cw)) := ⟨hX, hY, b07, HY.out.2.2⟩
  have HN : Hid (X.length = n + 1 ∧ Y.length = m + 1 ∧ (∃ h : n < X.length, X[n] = x) ∧ ∃ h : m < Y.length, Y[m] = y) := ⟨lX, lY, hxn, hym⟩
  have HG : Hid (W7.cell? ⟨w.heap.size, 0, none⟩ = some (.slice an g.ns.length cn) ∧ W7.cell? ⟨w.heap.size, 1, none⟩ = some (.slice aw g.ws.length cw) ∧ w.heap.size < W7.heap.size) := ⟨g0, g1, by have := hR.on.size; omega⟩
  have hmk1 := fun w' => run_make_row' (P := Tryz.prog) 147 103 (.slice none 0 0) 24 Tryz.underlying147 Tryz.info118f rfl .i64 .i64 X.length (by omega) (by omega) w'
  have hmk2 := fun w' => run_make_row' (P := Tryz.prog) 103 4 (.bool false) 1 Tryz.underlying103 Tryz.info4f rfl .i64 .i64 Y.length (by omega) (by omega) w'
  have HT0 : Hid (∃ rb, Tb W7 g X Y 0 0 0 W7.heap.size rb (W7.alloc (.cells (madeCells #[.slice none 0 0] X.length) 103))) := ⟨fun _ => 0, tb_made W7 g X Y _⟩
  clear hS hR hLx hX hY b07 g0 g1 eX eY eOx eOy lX lY hxn hym hs6 hsc HS HC HY b06 g0' g1' hl2 y0 y1 y2
  obtain ⟨W8, hW8⟩ : ∃ Z, W7.alloc (.cells (madeCells #[.slice none 0 0] X.length) 103) = Z := ⟨_, rfl⟩
  rw [hW8] at HT0
  go_wp2
  try rw [hW8]
  clear k0 k1
  go_loopw [12] (fun vi wr => ∃ i : Nat, vi = .int .i64 i ∧ i ≤ X.length ∧ Hid (∃ rb, Tb W7 g X Y i i 0 W7.heap.size rb wr)) (fun vi _ => X.length - (intOf vi).toNat)
  case atStart => exact ⟨0, rfl, Nat.zero_le _, HT0.out⟩
  case round =>
    obtain ⟨i, rfl, hi, HT⟩ := hrel
    obtain ⟨rb, hT⟩ := HT.out
    have b7 := hT.bel
    have VX := HV.out.1.below b7
    have VY := HV.out.2.1.below b7
    have k0 := VX.c0
    have k1 := VY.c0
    by_cases hlt : i < X.length
    · obtain ⟨v0, t0, tf⟩ := (hT.below (below_box wr (.cells (madeCells #[.bool false] Y.length) 4))).cellT hlt
      obtain ⟨rb2, hrb, hT2⟩ := hT.add hlt
      have hiI : (i : Int) < (X.length : Int) := by omega
      have HEi : Hid (i < X.length) := hlt
      obtain ⟨wz, hwz⟩ : ∃ Z, (wr.alloc (.cells (madeCells #[.bool false] Y.length) 4)).setCell ⟨W7.heap.size, i, none⟩ (.slice (some ⟨wr.heap.size, 0, none⟩) Y.length Y.length) = Z := ⟨_, rfl⟩
      rw [hwz] at hT2
      have HT2 : Hid (Tb W7 g X Y (i + 1) i 0 W7.heap.size rb2 wz) := hT2
      clear hT2 hT b7 VX VY hlt hrb
      go_wp2
      try rw [hwz]
      clear t0 tf k0 k1 hwz
      obtain ⟨wo, hwo⟩ : ∃ Z, Z = wr := ⟨_, rfl⟩
      subst hwo
      go_loopw [13] (fun vk wr => ∃ k : Nat, vk = .int .i64 k ∧ k ≤ Y.length ∧ Hid (Tb W7 g X Y (i + 1) i k W7.heap.size rb2 wr)) (fun vk _ => Y.length - (intOf vk).toNat)
      case atStart => exact ⟨0, rfl, Nat.zero_le _, HT2.out⟩
      case round =>
        obtain ⟨k, rfl, hk, HT3⟩ := hrel
        have b7 := HT3.out.bel
        have k1 := (HV.out.2.1.below b7).c0
        by_cases hkl : k < Y.length
        · have hkI : (k : Int) < (Y.length : Int) := by omega
          have hd : Below wr.heap.size wr wr.drew := (Below.refl _ wr).drew
          have hup := HT3.out.up i (by omega)
          have b7d : Below W7.heap.size W7 wr.drew := b7.drew
          have HTd : Hid (Tb W7 g X Y (i + 1) i k W7.heap.size rb2 wr.drew) := HT3.out.below hd
          have q1 : ∀ Z, Only [rb2 i] wr.drew Z → Z.cell? ⟨W7.heap.size, i, none⟩ = some (.slice (some ⟨rb2 i, 0, none⟩) Y.length Y.length) := fun Z hZ => cell_on hZ (by simp; omega) (HTd.out.row (by omega))
          have q2 : ∀ Z, Only [rb2 i] wr.drew Z → Z.cell? ⟨w.heap.size, 0, none⟩ = some (.slice an g.ns.length cn) ∧ Z.cell? ⟨w.heap.size, 1, none⟩ = some (.slice aw g.ws.length cw) := fun Z hZ => by
            have e := HG.out.2.2
            exact ⟨cell_on hZ (by simp; omega) (kc b7d e HG.out.1), cell_on hZ (by simp; omega) (kc b7d e HG.out.2.1)⟩
          have hone := one_any (ct := X.length) (HV.out.1.below b7d) (HV.out.2.1.below b7d) HTd.out.tab HEi.out hkl HV.out.2.2.2 (HV.out.2.2.1.trans (b7d.mono HV.out.2.2.1.size))
          clear HT3 b7 hd b7d
          go_wp2
          refine wp_region_held_drew (S := fun Z => Only [rb2 i] wr.drew Z) (by kernel_rfl) (Only.refl _ _) (fun hHeld => ?_)
          obtain ⟨wd, hwd⟩ : ∃ Z, wr.drew = Z := ⟨_, rfl⟩
          rw [hwd] at hHeld q1 q2 hone HTd ⊢
          clear hwd
          refine take_mk 0 (.slice (some ⟨W7.heap.size, 0, none⟩) X.length X.length) rfl (by kernel_rfl) (by kernel_rfl) (by kernel_rfl) (fun _ _ _ h => h) (Or.inl ⟨by rfl, fun Z hZ => by go_simp⟩) (by assumption) ?_
          try simp only [Act.put, List.setIfInBounds_toArray, List.set_cons_zero, List.set_cons_succ]
          refine take_mk 1 (.int .i64 (i : Int)) rfl (by kernel_rfl) (by kernel_rfl) (by kernel_rfl) (fun _ _ _ h => h) (Or.inl ⟨by rfl, fun Z hZ => by go_simp⟩) (by assumption) ?_
          try simp only [Act.put, List.setIfInBounds_toArray, List.set_cons_zero, List.set_cons_succ]
          refine take_mk 2 (.pointer (some ⟨W7.heap.size, i, none⟩)) rfl (by kernel_rfl) (by kernel_rfl) (by kernel_rfl) (fun _ _ _ h => h) (Or.inl ⟨by rfl, fun Z hZ => by go_simp; try (intro hh; exact absurd hh (by omega))⟩) (by assumption) ?_
          try simp only [Act.put, List.setIfInBounds_toArray, List.set_cons_zero, List.set_cons_succ]
          refine take_mk 3 (.slice (some ⟨rb2 i, 0, none⟩) Y.length Y.length) rfl (by kernel_rfl) (by kernel_rfl) (by kernel_rfl) (fun _ _ _ h => h) (Or.inl ⟨by rfl, fun Z hZ => by have := q1 Z hZ; go_simp⟩) (by assumption) ?_
          try simp only [Act.put, List.setIfInBounds_toArray, List.set_cons_zero, List.set_cons_succ]
          refine take_mk 4 (.int .i64 (k : Int)) rfl (by kernel_rfl) (by kernel_rfl) (by kernel_rfl) (fun _ _ _ h => h) (Or.inl ⟨by rfl, fun Z hZ => by go_simp⟩) (by assumption) ?_
          try simp only [Act.put, List.setIfInBounds_toArray, List.set_cons_zero, List.set_cons_succ]
          refine take_mk 5 (gval (.slice an g.ns.length cn) (.slice aw g.ws.length cw)) rfl (by kernel_rfl) (by kernel_rfl) (by kernel_rfl) (fun _ _ _ h => h) (Or.inl ⟨by rfl, fun Z hZ => by obtain ⟨y0, y1⟩ := q2 Z hZ; go_simp⟩) (by assumption) ?_
          try simp only [Act.put, List.setIfInBounds_toArray, List.set_cons_zero, List.set_cons_succ]
          refine take_mk 6 (.pointer (some ⟨w.heap.size + 3, 0, none⟩)) rfl (by kernel_rfl) (by kernel_rfl) (by kernel_rfl) (fun _ _ _ h => h) (Or.inl ⟨by rfl, fun Z hZ => by go_simp⟩) (by assumption) ?_
          try simp only [Act.put, List.setIfInBounds_toArray, List.set_cons_zero, List.set_cons_succ]
          refine take_mk 7 (.pointer (some ⟨w.heap.size + 4, 0, none⟩)) rfl (by kernel_rfl) (by kernel_rfl) (by kernel_rfl) (fun _ _ _ h => h) (Or.inl ⟨by rfl, fun Z hZ => by go_simp⟩) (by assumption) ?_
          try simp only [Act.put, List.setIfInBounds_toArray, List.set_cons_zero, List.set_cons_succ]
          refine take_mk 8 (.slice (some ⟨W7.heap.size, 0, none⟩) X.length X.length) rfl (by kernel_rfl) (by kernel_rfl) (by kernel_rfl) (fun _ _ _ h => h) (Or.inl ⟨by rfl, fun Z hZ => by go_simp⟩) (by assumption) ?_
          try simp only [Act.put, List.setIfInBounds_toArray, List.set_cons_zero, List.set_cons_succ]
          refine take_mk 9 (.int .i64 (i : Int)) rfl (by kernel_rfl) (by kernel_rfl) (by kernel_rfl) (fun _ _ _ h => h) (Or.inl ⟨by rfl, fun Z hZ => by go_simp⟩) (by assumption) ?_
          try simp only [Act.put, List.setIfInBounds_toArray, List.set_cons_zero, List.set_cons_succ]
          refine take_mk 10 (.int .i64 (k : Int)) rfl (by kernel_rfl) (by kernel_rfl) (by kernel_rfl) (fun _ _ _ h => h) (Or.inl ⟨by rfl, fun Z hZ => by go_simp⟩) (by assumption) ?_
          try simp only [Act.put, List.setIfInBounds_toArray, List.set_cons_zero, List.set_cons_succ]
          refine wpAnyH_ready (rs := [11]) (by kernel_rfl) (by simp) (AllReadyH.cons (o := ⟨_, _, _, _, _, _⟩) rfl (fun K hK => ?_) AllReadyH.nil)
          rw [if_pos (by rfl)]
          go_simp
          refine hone.mono ?_
          rintro e W2 ⟨rfl, hb2⟩
          refine hK.out _ _ (hHeld.trans (Only.of_below (B := []) hb2) (by simp)) (fun hHeld2 => ?_)
          clear hK K
          try simp only [Act.put, List.setIfInBounds_toArray, List.set_cons_zero, List.set_cons_succ]
          refine take_mk 12 (.pointer (some ⟨rb2 i, k, none⟩)) rfl (by kernel_rfl) (by kernel_rfl) (by kernel_rfl) (fun _ _ _ h => h) (Or.inl ⟨by rfl, fun Z hZ => by go_simp; try (intro hh; exact absurd hh (by omega))⟩) (by assumption) ?_
          try simp only [Act.put, List.setIfInBounds_toArray, List.set_cons_zero, List.set_cons_succ]
          obtain ⟨v0, z0, zf⟩ := (HTd.out.below hb2).cellR HEi.out hkl
          refine wpAnyH_ready (rs := [13]) (by kernel_rfl) (by simp) (AllReadyH.cons (o := ⟨_, _, _, _, _, _⟩) rfl (fun K hK => ?_) AllReadyH.nil)
          rw [if_pos (by rfl)]
          go_simp
          refine hK.out _ _ (hHeld2.trans (only_setCell W2 (rb2 i) k _) (fun r hr => .inl hr)) (fun _ => ?_)
          clear hK K
          refine wpAnyH_done (by kernel_rfl) ?_ _
          try simp only [Act.put]
          have HT3 : Hid (Tb W7 g X Y (i + 1) i (k + 1) W7.heap.size rb2 (W2.setCell ⟨rb2 i, k, none⟩ (.bool (lgB g (X[i]'(HEi.out)) (Y[k]'(hkl)))))) := HTd.out.put HEi.out hkl hb2
          obtain ⟨W3, hW3⟩ : ∃ Z, W2.setCell ⟨rb2 i, k, none⟩ (.bool (lgB g (X[i]'(HEi.out)) (Y[k]'(hkl)))) = Z := ⟨_, rfl⟩
          rw [hW3] at HT3 ⊢
          clear hW3 z0 zf hb2 hHeld2 hHeld q1 q2 hone
          go_wp2
          go_roundw
          case rel => exact ⟨k + 1, by go_num, by omega, HT3.out⟩
          case measure => simp [intOf]; omega
        · have HF : Hid (∃ rb, Tb W7 g X Y (i + 1) (i + 1) 0 W7.heap.size rb wr) := ⟨rb2, HT3.out.full (by omega)⟩
          clear HT3
          go_wp2
          go_roundw
          case rel => exact ⟨i + 1, by go_num, by have := HEi.out; omega, HF.out⟩
          case measure => simp [intOf]; have := HEi.out; omega
    · obtain ⟨e1, e2, ⟨hn, e3⟩, hm, e4⟩ := HN.out
      have r1 := hT.row (i' := n) (by omega)
      have r2 := hT.entry (i' := n) (k' := m) (by omega) hn hm (.inl (by omega))
      rw [e3, e4] at r2
      have hnI : (n : Int) < (X.length : Int) := by omega
      have hmI : (m : Int) < (Y.length : Int) := by omega
      have HB : Hid (Below w.heap.size w wr) := HV.out.2.2.1.trans (b7.mono HV.out.2.2.1.size)
      clear e1 e2 e3 e4 hT b7 VX VY
      go_wp2
      go_ret
      exact ⟨rfl, HB.out⟩
end Go.Proofs.YtglphfhlpobgcaaGreat
