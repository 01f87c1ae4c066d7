import Derived.Test.YtpahgmidofacaaaVU
import Derived.Test.YtpahgmidofacaaaVS

/-
  The document's table: what one reads.
-/
namespace Go.Proofs.Ytpahgmidofacaaa
open Go.RowKit Go.Maps

/-- The list of parts, as it is read. -/
structure Vw (w0 W : World) (pb : Nat) (X : List T) (O : List (List Nat)) (bl cl bo co : Nat) (sa so : Nat → Value) : Prop where
  n : O.length = X.length
  le : X.length ≤ 8000
  ltp : pb < W.heap.size
  ltl : bl < W.heap.size
  lto : bo < W.heap.size
  c0 : W.cell? ⟨pb, 0, none⟩ = some (.slice (some ⟨bl, 0, none⟩) X.length cl)
  c1 : W.cell? ⟨pb, 1, none⟩ = some (.slice (some ⟨bo, 0, none⟩) X.length co)
  t : ∀ i (h : i < X.length), W.cell? ⟨bl, i * 3, none⟩ = some (.int .i64 X[i].v) ∧ W.cell? ⟨bl, i * 3 + 1, none⟩ = some (.string X[i].fn) ∧ W.cell? ⟨bl, i * 3 + 2, none⟩ = some (sa i) ∧ ArgsAt w0 (sa i) X[i].args
  o : ∀ i, i < X.length → W.cell? ⟨bo, i, none⟩ = some (so i)
  r : ∀ i (h : i < O.length), ∃ a c, so i = .slice a O[i].length c ∧ ∀ j (hj : j < O[i].length), ∃ b, a = some ⟨b, 0, none⟩ ∧ b < W.heap.size ∧ W.cell? ⟨b, j, none⟩ = some (iI O[i][j])
  ix : ∀ i (h : i < X.length) (h' : i < O.length), Idx X O[i] X[i].args ∧ ∀ j ∈ O[i], j < i

theorem Vw.below {w0 W W' : World} {pb : Nat} {X : List T} {O : List (List Nat)} {bl cl bo co : Nat} {sa so : Nat → Value} (h : Vw w0 W pb X O bl cl bo co sa so) (hb : Below W.heap.size W W') : Vw w0 W' pb X O bl cl bo co sa so := by
  refine ⟨h.n, h.le, Nat.lt_of_lt_of_le h.ltp hb.size, Nat.lt_of_lt_of_le h.ltl hb.size, Nat.lt_of_lt_of_le h.lto hb.size, kc hb h.ltp h.c0, kc hb h.ltp h.c1, fun i hi => ?_, fun i hi => kc hb h.lto (h.o i hi), fun i hi => ?_, h.ix⟩
  · obtain ⟨a, b, c, d⟩ := h.t i hi
    exact ⟨kc hb h.ltl a, kc hb h.ltl b, kc hb h.ltl c, d⟩
  · obtain ⟨a, c, e, q⟩ := h.r i hi
    refine ⟨a, c, e, fun j hj => ?_⟩
    obtain ⟨b, e, l, k⟩ := q j hj
    exact ⟨b, e, Nat.lt_of_lt_of_le l hb.size, kc hb l k⟩

theorem row_num {W : World} {n0 : Nat} {v : Value} {l : List Nat} (h : W.ownsRow n0 3 1 v l.length (l.map iI)) : ∃ a c, v = .slice a l.length c ∧ ∀ j (hj : j < l.length), ∃ b, a = some ⟨b, 0, none⟩ ∧ b < W.heap.size ∧ W.cell? ⟨b, j, none⟩ = some (iI l[j]) := by
  obtain ⟨hl, ⟨e, h0⟩ | ⟨g, cap, cur, e, hb, hg, hc, hm, hsz, ht⟩⟩ := h
  · exact ⟨none, 0, by rw [e, h0], fun j hj => by omega⟩
  · refine ⟨_, cap, e, fun j hj => ⟨g, rfl, (Array.getElem?_eq_some_iff.1 hg).1, ?_⟩⟩
    have f : (l.map iI)[j]? = some (iI l[j]) := by simp [hj]
    rw [← ht, List.getElem?_take, if_pos (by omega)] at f
    rw [cell_of_row _ _ _ _ 3 (0, 0) hg, ← f]; simp

theorem vw_of {w0 W : World} {pb : Nat} {ps : List (T × Value)} {os : List (Value × List Nat)} {vl vo : Value} (h : Ly w0 pb ps os vl vo W) (h0 : 0 < ps.length) (h8 : ps.length ≤ 8000) :
    ∃ bl cl bo co sa so, vl = .slice (some ⟨bl, 0, none⟩) ps.length cl ∧ vo = .slice (some ⟨bo, 0, none⟩) ps.length co ∧ Vw w0 W pb (ps.map (·.1)) (os.map (·.2)) bl cl bo co sa so := by
  obtain ⟨c0, c1, _, _⟩ := h.cells
  have hlt := h.there
  have hlen := h.len
  obtain ⟨bl, cl, el, _⟩ := h.term (i := 0) h0
  obtain ⟨bo, co, eo, _⟩ := h.own (i := 0) (by omega)
  rw [hlen] at eo
  refine ⟨bl, cl, bo, co, fun i => (ps[i]?.map (·.2)).getD (.bool false), fun i => (os[i]?.map (·.1)).getD (.bool false), el, eo, by simp [hlen], by simpa using h8, hlt pb (by simp), hlt bl (by simp [pbs, el, Value.ownBlock]), hlt bo (by simp [pbs, eo, Value.ownBlock]), by rw [c0, el]; simp, by rw [c1, eo]; simp, fun i hi => ?_, fun i hi => ?_, fun i hi => ?_, fun i hi hi' => ?_⟩
  · have hi : i < ps.length := by simpa using hi
    obtain ⟨b, c, e, f1, f2, f3⟩ := h.term hi
    obtain ⟨rfl, _⟩ : b = bl ∧ c = cl := by rw [el] at e; injection e with e1 e2 e3; injection e1 with e1; injection e1 with e1; exact ⟨e1.symm, e3.symm⟩
    rw [Nat.zero_add] at f1 f2 f3
    simp only [List.getElem_map, List.getElem?_eq_getElem hi, Option.map_some, Option.getD_some]
    exact ⟨f1, f2, f3, h.ra _ (List.getElem_mem hi)⟩
  · have hi : i < os.length := by simpa [hlen] using hi
    obtain ⟨b, c, e, f⟩ := h.own hi
    obtain ⟨rfl, _⟩ : b = bo ∧ c = co := by rw [eo] at e; injection e with e1 e2 e3; injection e1 with e1; injection e1 with e1; exact ⟨e1.symm, e3.symm⟩
    rw [Nat.zero_add] at f
    simp only [List.getElem?_eq_getElem hi, Option.map_some, Option.getD_some]
    exact f
  · have hi : i < os.length := by simpa using hi
    simp only [List.getElem_map, List.getElem?_eq_getElem hi, Option.map_some, Option.getD_some]
    exact row_num (h.rw _ (List.getElem_mem hi))
  · have h1 : i < ps.length := by simpa using hi
    have h2 : i < os.length := by simpa using hi'
    simp only [List.getElem_map]
    exact h.ix i h1 h2

/-- The table, as far as it is known. -/
structure Tab (g : Sg) (X Y : List T) (i k bt : Nat) (W : World) : Prop where
  lt : bt < W.heap.size
  row : ∀ i' (h : i' < X.length), i' ≤ i → ∃ br cr, W.cell? ⟨bt, i', none⟩ = some (.slice (some ⟨br, 0, none⟩) Y.length cr) ∧ br < W.heap.size ∧ ∀ k' (h' : k' < Y.length), (i' < i ∨ k' < k) → W.cell? ⟨br, k', none⟩ = some (.bool (lgB g X[i'] Y[k']))
theorem Tab.below {g : Sg} {X Y : List T} {i k bt : Nat} {W W' : World} (h : Tab g X Y i k bt W) (hb : Below W.heap.size W W') : Tab g X Y i k bt W' := by
  refine ⟨Nat.lt_of_lt_of_le h.lt hb.size, fun i' hi hle => ?_⟩
  obtain ⟨br, cr, c, l, q⟩ := h.row i' hi hle
  exact ⟨br, cr, kc hb h.lt c, Nat.lt_of_lt_of_le l hb.size, fun k' hk hq => kc hb l (q k' hk hq)⟩

theorem Try.info28y : (Try.prog.info? 28).map (·.size) = some 3 := by kernel_rfl
/-- A term is stored into its box. -/
theorem store_term (Y : World) (bx : Nat) (z0 z1 z2 c0 c1 c2 : Value) (h : Y.heap[bx]? = some (.cells #[z0, z1, z2] 28 (0, 0))) (h1 : ∀ u ∈ [c0, c1, c2], u.oneCell' = true) :
    ∃ Y', (Instr.storeAt 28 (.pointer (some ⟨bx, 0, none⟩)) (.agg #[c0, c1, c2])).run Try.prog Y = .ok () Y' ∧ Y'.heap[bx]? = some (.cells #[c0, c1, c2] 28 (0, 0)) ∧ Only [bx] Y Y' := by
  refine ⟨_, run_storeAt_mid (P := Try.prog) Y bx 0 28 #[c0, c1, c2] (fun j hj => ?_) Try.info28y (all_oneCell_toArray h1), ?_, ?_⟩
  · have hj3 : j < 3 := hj
    have : j = 0 ∨ j = 1 ∨ j = 2 := by omega
    rcases this with rfl | rfl | rfl <;> simp [World.cell?, World.frozen?, h]
  · have q0 := Go.heap_setCell_same Y bx 0 _ 28 c0 h
    have q1 := Go.heap_setCell_same _ bx 1 _ 28 c1 q0
    have q2 := Go.heap_setCell_same _ bx 2 _ 28 c2 q1
    simpa [World.setCells] using q2
  · have := ((only_setCell Y bx 0 c0).trans (only_setCell (Y.setCell ⟨bx, 0, none⟩ c0) bx 1 c1) (by simp)).trans (only_setCell ((Y.setCell ⟨bx, 0, none⟩ c0).setCell ⟨bx, 1, none⟩ c1) bx 2 c2) (by simp)
    simpa [World.setCells] using this

/-- The boxes of both parts. -/
structure Bo (W1 : World) (s t : T) (ss st : Value) (b1 b2 : Nat) (Z : World) : Prop where
  bel : Below W1.heap.size W1 Z
  h1 : Z.heap[b1]? = some (.cells #[.int .i64 s.v, .string s.fn, ss] 28 (0, 0))
  h2 : Z.heap[b2]? = some (.cells #[.int .i64 t.v, .string t.fn, st] 28 (0, 0))
theorem Bo.below {W1 : World} {s t : T} {ss st : Value} {b1 b2 : Nat} {Z Z' : World} (h : Bo W1 s t ss st b1 b2 Z) (hb : Below Z.heap.size Z Z') : Bo W1 s t ss st b1 b2 Z' :=
  ⟨h.bel.trans (hb.mono h.bel.size), (hb.block _ (Array.getElem?_eq_some_iff.1 h.h1).1).trans h.h1, (hb.block _ (Array.getElem?_eq_some_iff.1 h.h2).1).trans h.h2⟩
theorem Bo.cells {W1 : World} {s t : T} {ss st : Value} {b1 b2 : Nat} {Z : World} (h : Bo W1 s t ss st b1 b2 Z) :
    (b1 < Z.heap.size ∧ Z.cell? ⟨b1, 0, none⟩ = some (.int .i64 s.v) ∧ Z.cell? ⟨b1, 1, none⟩ = some (.string s.fn) ∧ Z.cell? ⟨b1, 2, none⟩ = some ss) ∧ (b2 < Z.heap.size ∧ Z.cell? ⟨b2, 0, none⟩ = some (.int .i64 t.v) ∧ Z.cell? ⟨b2, 1, none⟩ = some (.string t.fn) ∧ Z.cell? ⟨b2, 2, none⟩ = some st) := by
  refine ⟨⟨(Array.getElem?_eq_some_iff.1 h.h1).1, ?_, ?_, ?_⟩, (Array.getElem?_eq_some_iff.1 h.h2).1, ?_, ?_, ?_⟩
  all_goals first
    | (rw [cell_of_row _ _ _ _ 28 (0, 0) h.h1]; rfl)
    | (rw [cell_of_row _ _ _ _ 28 (0, 0) h.h2]; rfl)

end Go.Proofs.Ytpahgmidofacaaa

/-
  one.
-/
namespace Go.Proofs.Ytpahgmidofacaaa
open Go.RowKit Go.Maps


section
variable {w0 w : World} {g : Sg} {vn vw : Value} {px bx cx ox kx py by_ cy oy ky bt ct i k : Nat} {X Y : List T} {Ox Oy : List (List Nat)} {sax sox say soy : Nat → Value}

set_option maxRecDepth 100000 in
set_option maxHeartbeats 4000000 in
theorem one_var (hX : Vw w0 w px X Ox bx cx ox kx sax sox) (hY : Vw w0 w py Y Oy by_ cy oy ky say soy) (hi : i < X.length) (hk : k < Y.length) (h0 : X[i].fn.size = 0) (hn : ∃ a n c, vn = .slice a n c) (hv : ∃ a n c, vw = .slice a n c) (vt : Value) :
    Calls Try.prog 52 #[gval vn vw, .pointer (some ⟨px, 0, none⟩), .pointer (some ⟨py, 0, none⟩), vt, .int .i64 (i : Int), .int .i64 (k : Int)] w fun e w' => e = .returned (.bool false) ∧ Below w.heap.size w w' := by
  obtain ⟨an, nn, cn, rfl⟩ := hn
  obtain ⟨aw, nw, cw, rfl⟩ := hv
  obtain ⟨s, hs⟩ : ∃ s, X[i] = s := ⟨_, rfl⟩
  obtain ⟨t, ht⟩ : ∃ t, Y[k] = t := ⟨_, rfl⟩
  obtain ⟨x0, x1, x2, xa⟩ := hX.t i hi
  obtain ⟨y0, y1, y2, ya⟩ := hY.t k hk
  obtain ⟨sa1, sc1, es1, _, _⟩ := xa.slice
  obtain ⟨sa2, sc2, es2, _, _⟩ := ya.slice
  obtain ⟨ss, hss⟩ : ∃ v, sax i = v := ⟨_, rfl⟩
  obtain ⟨st, hst⟩ : ∃ v, say k = v := ⟨_, rfl⟩
  rw [hs] at x0 x1 es1 xa
  rw [ht] at y0 y1 es2 ya
  rw [hss] at x2 es1 xa
  rw [hst] at y2 es2 ya
  obtain ⟨W1, hW1⟩ : ∃ W1, w.alloc (.cells #[.slice an nn cn, .slice aw nw cw] 25) = W1 := ⟨_, rfl⟩
  have hb1 : Below w.heap.size w W1 := by rw [← hW1]; exact below_box w _
  obtain ⟨Wd, hWd⟩ : ∃ X, W1.drew = X := ⟨_, rfl⟩
  have hbd : Below w.heap.size w Wd := by rw [← hWd]; exact hb1.drew
  obtain ⟨n0, hn0⟩ : ∃ n, Wd.heap.size = n := ⟨_, rfl⟩
  have hB0 : Below n0 W1.drew W1.drew := Below.refl _ _
  have HW : Hid (Below w.heap.size w Wd ∧ w.heap.size ≤ Wd.heap.size) := ⟨hbd, hbd.size⟩
  have qx0 : ∀ Z, Below n0 Wd Z → Z.cell? ⟨px, 0, none⟩ = some (.slice (some ⟨bx, 0, none⟩) X.length cx) := fun Z hZ => kc (hbd.trans (hZ.mono (by have := hbd.size; omega))) hX.ltp hX.c0
  have qy0 : ∀ Z, Below n0 Wd Z → Z.cell? ⟨py, 0, none⟩ = some (.slice (some ⟨by_, 0, none⟩) Y.length cy) := fun Z hZ => kc (hbd.trans (hZ.mono (by have := hbd.size; omega))) hY.ltp hY.c0
  have qx1 : ∀ Z, Below n0 Wd Z → Z.cell? ⟨bx, i * 3, none⟩ = some (.int .i64 s.v) ∧ Z.cell? ⟨bx, i * 3 + 1, none⟩ = some (.string s.fn) ∧ Z.cell? ⟨bx, i * 3 + 2, none⟩ = some ss := fun Z hZ => ⟨kc (hbd.trans (hZ.mono (by have := hbd.size; omega))) hX.ltl x0, kc (hbd.trans (hZ.mono (by have := hbd.size; omega))) hX.ltl x1, kc (hbd.trans (hZ.mono (by have := hbd.size; omega))) hX.ltl x2⟩
  have qy1 : ∀ Z, Below n0 Wd Z → Z.cell? ⟨by_, k * 3, none⟩ = some (.int .i64 t.v) ∧ Z.cell? ⟨by_, k * 3 + 1, none⟩ = some (.string t.fn) ∧ Z.cell? ⟨by_, k * 3 + 2, none⟩ = some st := fun Z hZ => ⟨kc (hbd.trans (hZ.mono (by have := hbd.size; omega))) hY.ltl y0, kc (hbd.trans (hZ.mono (by have := hbd.size; omega))) hY.ltl y1, kc (hbd.trans (hZ.mono (by have := hbd.size; omega))) hY.ltl y2⟩
  have HN : Hid (Wd.heap.size = n0) := hn0
  clear x0 x1 x2 y0 y1 y2 hb1 hbd hss hst hn0
  subst es1 es2
  have hdd : s.fn.toList.isEmpty = true := by rw [ba_isEmpty, ← hs]; simp [h0]
  clear h0 hX hY hs ht
  go_enter Try.func52, Try.ntmps52
  try rw [hW1]
  go_wp2
  try rw [hW1]
  refine wp_region_held_drew (S := fun X => Below n0 W1.drew X) (by kernel_rfl) hB0 (fun hHeld => ?_)
  rw [hWd] at hHeld hB0 ⊢
  refine take_mk 0 (.pointer (some ⟨px, 0, none⟩)) rfl (by kernel_rfl) (by kernel_rfl) (by kernel_rfl) (fun _ _ _ h => h) (Or.inl ⟨by rfl, fun X hX => by go_simp⟩) (by assumption) ?_
  try simp only [Act.put, List.setIfInBounds_toArray, List.set_cons_zero, List.set_cons_succ]
  refine take_mk 1 (.pointer (some ⟨px, 0, none⟩)) rfl (by kernel_rfl) (by kernel_rfl) (by kernel_rfl) (fun _ _ _ h => h) (Or.inl ⟨by rfl, fun X hX => by go_simp⟩) (by assumption) ?_
  try simp only [Act.put, List.setIfInBounds_toArray, List.set_cons_zero, List.set_cons_succ]
  refine take_mk 2 (.pointer (some ⟨px, 0, none⟩)) rfl (by kernel_rfl) (by kernel_rfl) (by kernel_rfl) (fun _ _ _ h => h) (Or.inl ⟨by rfl, fun X hX => by go_simp⟩) (by assumption) ?_
  try simp only [Act.put, List.setIfInBounds_toArray, List.set_cons_zero, List.set_cons_succ]
  refine take_mk 3 (.slice (some ⟨bx, 0, none⟩) X.length cx) rfl (by kernel_rfl) (by kernel_rfl) (by kernel_rfl) (fun _ _ _ h => h) (Or.inl ⟨by rfl, fun X hX => by have := qx0 X hX; go_simp⟩) (by assumption) ?_
  try simp only [Act.put, List.setIfInBounds_toArray, List.set_cons_zero, List.set_cons_succ]
  refine take_mk 4 (.int .i64 (i : Int)) rfl (by kernel_rfl) (by kernel_rfl) (by kernel_rfl) (fun _ _ _ h => h) (Or.inl ⟨by rfl, fun X hX => by go_simp⟩) (by assumption) ?_
  try simp only [Act.put, List.setIfInBounds_toArray, List.set_cons_zero, List.set_cons_succ]
  refine take_mk 5 (.pointer (some ⟨bx, i * 3, none⟩)) rfl (by kernel_rfl) (by kernel_rfl) (by kernel_rfl) (fun _ _ _ h => h) (Or.inl ⟨by rfl, fun X hX => by go_simp; try (intro hh; exact absurd hh (by omega))⟩) (by assumption) ?_
  try simp only [Act.put, List.setIfInBounds_toArray, List.set_cons_zero, List.set_cons_succ]
  refine take_mk 6 (tval s (.slice sa1 s.args.length sc1)) rfl (by kernel_rfl) (by kernel_rfl) (by kernel_rfl) (fun _ _ _ h => h) (Or.inl ⟨by rfl, fun X hX => by obtain ⟨y0, y1, y2⟩ := qx1 X hX; go_simp⟩) (by assumption) ?_
  try simp only [Act.put, List.setIfInBounds_toArray, List.set_cons_zero, List.set_cons_succ]
  refine take_mk 7 (.pointer (some ⟨py, 0, none⟩)) rfl (by kernel_rfl) (by kernel_rfl) (by kernel_rfl) (fun _ _ _ h => h) (Or.inl ⟨by rfl, fun X hX => by go_simp⟩) (by assumption) ?_
  try simp only [Act.put, List.setIfInBounds_toArray, List.set_cons_zero, List.set_cons_succ]
  refine take_mk 8 (.pointer (some ⟨py, 0, none⟩)) rfl (by kernel_rfl) (by kernel_rfl) (by kernel_rfl) (fun _ _ _ h => h) (Or.inl ⟨by rfl, fun X hX => by go_simp⟩) (by assumption) ?_
  try simp only [Act.put, List.setIfInBounds_toArray, List.set_cons_zero, List.set_cons_succ]
  refine take_mk 9 (.pointer (some ⟨py, 0, none⟩)) rfl (by kernel_rfl) (by kernel_rfl) (by kernel_rfl) (fun _ _ _ h => h) (Or.inl ⟨by rfl, fun X hX => by go_simp⟩) (by assumption) ?_
  try simp only [Act.put, List.setIfInBounds_toArray, List.set_cons_zero, List.set_cons_succ]
  refine take_mk 10 (.slice (some ⟨by_, 0, none⟩) Y.length cy) rfl (by kernel_rfl) (by kernel_rfl) (by kernel_rfl) (fun _ _ _ h => h) (Or.inl ⟨by rfl, fun X hX => by have := qy0 X hX; go_simp⟩) (by assumption) ?_
  try simp only [Act.put, List.setIfInBounds_toArray, List.set_cons_zero, List.set_cons_succ]
  refine take_mk 11 (.int .i64 (k : Int)) rfl (by kernel_rfl) (by kernel_rfl) (by kernel_rfl) (fun _ _ _ h => h) (Or.inl ⟨by rfl, fun X hX => by go_simp⟩) (by assumption) ?_
  try simp only [Act.put, List.setIfInBounds_toArray, List.set_cons_zero, List.set_cons_succ]
  refine take_mk 12 (.pointer (some ⟨by_, k * 3, none⟩)) rfl (by kernel_rfl) (by kernel_rfl) (by kernel_rfl) (fun _ _ _ h => h) (Or.inl ⟨by rfl, fun X hX => by go_simp; try (intro hh; exact absurd hh (by omega))⟩) (by assumption) ?_
  try simp only [Act.put, List.setIfInBounds_toArray, List.set_cons_zero, List.set_cons_succ]
  refine take_mk 13 (tval t (.slice sa2 t.args.length sc2)) rfl (by kernel_rfl) (by kernel_rfl) (by kernel_rfl) (fun _ _ _ h => h) (Or.inl ⟨by rfl, fun X hX => by obtain ⟨y0, y1, y2⟩ := qy1 X hX; go_simp⟩) (by assumption) ?_
  try simp only [Act.put, List.setIfInBounds_toArray, List.set_cons_zero, List.set_cons_succ]
  refine wpAnyH_ready (rs := [14, 15]) (by kernel_rfl) (by simp) (AllReadyH.cons (o := ⟨_, _, _, _, _, _⟩) rfl (fun K hK => ?aa) (AllReadyH.cons (o := ⟨_, _, _, _, _, _⟩) rfl (fun K hK => ?bb) AllReadyH.nil))
  case' aa =>
    rw [if_pos (by rfl)]
    go_simp
    obtain ⟨XA, eA⟩ : ∃ X, Wd.alloc (.cells #[.int .i64 0, .string ⟨#[]⟩, .slice none 0 0] 28) = X := ⟨_, rfl⟩
    have hbA : Below n0 Wd XA := by rw [← eA, ← HN.out]; exact below_box _ _
    have hxA : XA.heap[Wd.heap.size]? = some (.cells #[.int .i64 0, .string ⟨#[]⟩, .slice none 0 0] 28 (0, 0)) := by rw [← eA]; exact (MapKept.heap_alloc _ _).1
    obtain ⟨b1, hba⟩ : ∃ bx, Wd.heap.size = bx := ⟨_, rfl⟩
    refine hK.out _ _ (by rw [← HN.out]; exact below_box _ _) (fun hHeldA => ?_)
    rw [eA] at hHeldA ⊢
    rw [hba] at hxA ⊢
    clear hK K
    try simp only [Act.put, List.setIfInBounds_toArray, List.set_cons_zero, List.set_cons_succ]
    refine wpAnyH_ready (rs := [15]) (by kernel_rfl) (by simp) (AllReadyH.cons (o := ⟨_, _, _, _, _, _⟩) rfl (fun K hK => ?_) AllReadyH.nil)
    rw [if_pos (by rfl)]
    go_simp
    obtain ⟨XB, eB⟩ : ∃ X, XA.alloc (.cells #[.int .i64 0, .string ⟨#[]⟩, .slice none 0 0] 28) = X := ⟨_, rfl⟩
    have hbB : Below XA.heap.size XA XB := by rw [← eB]; exact below_box _ _
    have hxB : XB.heap[XA.heap.size]? = some (.cells #[.int .i64 0, .string ⟨#[]⟩, .slice none 0 0] 28 (0, 0)) := by rw [← eB]; exact (MapKept.heap_alloc _ _).1
    have hsA : XA.heap.size = Wd.heap.size + 1 := by rw [← eA]; simp
    obtain ⟨b2, hbb⟩ : ∃ bx, XA.heap.size = bx := ⟨_, rfl⟩
    refine hK.out _ _ (hHeldA.trans ((below_box _ _).mono (by have := hHeldA.size; have := HN.out; omega))) (fun hHeldB => ?_)
    rw [eB] at hHeldB ⊢
    rw [hbb] at hxB ⊢
    clear hK K
    try simp only [Act.put, List.setIfInBounds_toArray, List.set_cons_zero, List.set_cons_succ]
    have hxA' := (hbB.block b1 (by omega)).trans hxA
    obtain ⟨Y1, hr1, hy1, ho1⟩ := store_term XB b1 _ _ _ (.int .i64 s.v) (.string s.fn) (.slice sa1 s.args.length sc1) hxA' (by intro u hu; simp only [List.mem_cons, List.not_mem_nil, or_false] at hu; rcases hu with rfl | rfl | rfl <;> rfl)
    have hne : b1 ≠ b2 := by omega
    have hx2' := (ho1.block b2 (Array.getElem?_eq_some_iff.1 hxB).1 (by simpa using hne.symm)).trans hxB
    obtain ⟨Y2, hr2, hy2, ho2⟩ := store_term Y1 b2 _ _ _ (.int .i64 t.v) (.string t.fn) (.slice sa2 t.args.length sc2) hx2' (by intro u hu; simp only [List.mem_cons, List.not_mem_nil, or_false] at hu; rcases hu with rfl | rfl | rfl <;> rfl)
    have hN := HN.out
    have hS1 : Below n0 Wd Y1 := hHeldB.trans (ho1.below (by have := hHeldB.size; omega) (by simp; omega))
    have hS2 : Below n0 Wd Y2 := hS1.trans (ho2.below (by have := hS1.size; omega) (by simp; omega))
    refine wpAnyH_ready (rs := [16]) (by kernel_rfl) (by simp) (AllReadyH.cons (o := ⟨_, _, _, _, _, _⟩) rfl (fun K hK => ?_) AllReadyH.nil)
    rw [if_pos (by rfl)]
    refine wp_store_run 28 _ _ rfl (.pointer (some ⟨b1, 0, none⟩)) (tval s (.slice sa1 s.args.length sc1)) rfl rfl hr1 ?_
    refine hK.out _ _ hS1 (fun _ => ?_)
    clear hK K
    try simp only [Act.put]
    refine wpAnyH_ready (rs := [17]) (by kernel_rfl) (by simp) (AllReadyH.cons (o := ⟨_, _, _, _, _, _⟩) rfl (fun K hK => ?_) AllReadyH.nil)
    rw [if_pos (by rfl)]
    refine wp_store_run 28 _ _ rfl (.pointer (some ⟨b2, 0, none⟩)) (tval t (.slice sa2 t.args.length sc2)) rfl rfl hr2 ?_
    refine hK.out _ _ hS2 (fun _ => ?_)
    clear hK K
    refine wpAnyH_done (by kernel_rfl) ?_ _
    try simp only [Act.put]
    have HB : Hid (Bo Wd s t (.slice sa1 s.args.length sc1) (.slice sa2 t.args.length sc2) b1 b2 Y2) := ⟨by rw [hN]; exact hS2, (ho2.block b1 (Array.getElem?_eq_some_iff.1 hy1).1 (by simpa using hne)).trans hy1, hy2⟩
    clear hN hS1 hS2 hr1 hr2 hy1 hy2 ho1 ho2 hx2' hxA' hxA hxB hbA hbB eA eB hHeldA hHeldB hba hbb hsA hne
  case' bb =>
    rw [if_pos (by rfl)]
    go_simp
    obtain ⟨XA, eA⟩ : ∃ X, Wd.alloc (.cells #[.int .i64 0, .string ⟨#[]⟩, .slice none 0 0] 28) = X := ⟨_, rfl⟩
    have hbA : Below n0 Wd XA := by rw [← eA, ← HN.out]; exact below_box _ _
    have hxA : XA.heap[Wd.heap.size]? = some (.cells #[.int .i64 0, .string ⟨#[]⟩, .slice none 0 0] 28 (0, 0)) := by rw [← eA]; exact (MapKept.heap_alloc _ _).1
    obtain ⟨b2, hba⟩ : ∃ bx, Wd.heap.size = bx := ⟨_, rfl⟩
    refine hK.out _ _ (by rw [← HN.out]; exact below_box _ _) (fun hHeldA => ?_)
    rw [eA] at hHeldA ⊢
    rw [hba] at hxA ⊢
    clear hK K
    try simp only [Act.put, List.setIfInBounds_toArray, List.set_cons_zero, List.set_cons_succ]
    refine wpAnyH_ready (rs := [14]) (by kernel_rfl) (by simp) (AllReadyH.cons (o := ⟨_, _, _, _, _, _⟩) rfl (fun K hK => ?_) AllReadyH.nil)
    rw [if_pos (by rfl)]
    go_simp
    obtain ⟨XB, eB⟩ : ∃ X, XA.alloc (.cells #[.int .i64 0, .string ⟨#[]⟩, .slice none 0 0] 28) = X := ⟨_, rfl⟩
    have hbB : Below XA.heap.size XA XB := by rw [← eB]; exact below_box _ _
    have hxB : XB.heap[XA.heap.size]? = some (.cells #[.int .i64 0, .string ⟨#[]⟩, .slice none 0 0] 28 (0, 0)) := by rw [← eB]; exact (MapKept.heap_alloc _ _).1
    have hsA : XA.heap.size = Wd.heap.size + 1 := by rw [← eA]; simp
    obtain ⟨b1, hbb⟩ : ∃ bx, XA.heap.size = bx := ⟨_, rfl⟩
    refine hK.out _ _ (hHeldA.trans ((below_box _ _).mono (by have := hHeldA.size; have := HN.out; omega))) (fun hHeldB => ?_)
    rw [eB] at hHeldB ⊢
    rw [hbb] at hxB ⊢
    clear hK K
    try simp only [Act.put, List.setIfInBounds_toArray, List.set_cons_zero, List.set_cons_succ]
    have hxA' := (hbB.block b2 (by omega)).trans hxA
    obtain ⟨Y1, hr1, hy1, ho1⟩ := store_term XB b1 _ _ _ (.int .i64 s.v) (.string s.fn) (.slice sa1 s.args.length sc1) hxB (by intro u hu; simp only [List.mem_cons, List.not_mem_nil, or_false] at hu; rcases hu with rfl | rfl | rfl <;> rfl)
    have hne : b1 ≠ b2 := by omega
    have hx2' := (ho1.block b2 (Array.getElem?_eq_some_iff.1 hxA').1 (by simpa using hne.symm)).trans hxA'
    obtain ⟨Y2, hr2, hy2, ho2⟩ := store_term Y1 b2 _ _ _ (.int .i64 t.v) (.string t.fn) (.slice sa2 t.args.length sc2) hx2' (by intro u hu; simp only [List.mem_cons, List.not_mem_nil, or_false] at hu; rcases hu with rfl | rfl | rfl <;> rfl)
    have hN := HN.out
    have hS1 : Below n0 Wd Y1 := hHeldB.trans (ho1.below (by have := hHeldB.size; omega) (by simp; omega))
    have hS2 : Below n0 Wd Y2 := hS1.trans (ho2.below (by have := hS1.size; omega) (by simp; omega))
    refine wpAnyH_ready (rs := [16]) (by kernel_rfl) (by simp) (AllReadyH.cons (o := ⟨_, _, _, _, _, _⟩) rfl (fun K hK => ?_) AllReadyH.nil)
    rw [if_pos (by rfl)]
    refine wp_store_run 28 _ _ rfl (.pointer (some ⟨b1, 0, none⟩)) (tval s (.slice sa1 s.args.length sc1)) rfl rfl hr1 ?_
    refine hK.out _ _ hS1 (fun _ => ?_)
    clear hK K
    try simp only [Act.put]
    refine wpAnyH_ready (rs := [17]) (by kernel_rfl) (by simp) (AllReadyH.cons (o := ⟨_, _, _, _, _, _⟩) rfl (fun K hK => ?_) AllReadyH.nil)
    rw [if_pos (by rfl)]
    refine wp_store_run 28 _ _ rfl (.pointer (some ⟨b2, 0, none⟩)) (tval t (.slice sa2 t.args.length sc2)) rfl rfl hr2 ?_
    refine hK.out _ _ hS2 (fun _ => ?_)
    clear hK K
    refine wpAnyH_done (by kernel_rfl) ?_ _
    try simp only [Act.put]
    have HB : Hid (Bo Wd s t (.slice sa1 s.args.length sc1) (.slice sa2 t.args.length sc2) b1 b2 Y2) := ⟨by rw [hN]; exact hS2, (ho2.block b1 (Array.getElem?_eq_some_iff.1 hy1).1 (by simpa using hne)).trans hy1, hy2⟩
    clear hN hS1 hS2 hr1 hr2 hy1 hy2 ho1 ho2 hx2' hxA' hxA hxB hbA hbB eA eB hHeldA hHeldB hba hbb hsA hne
  all_goals (
    obtain ⟨⟨l1, r0, r1, r2⟩, l2, u0, u1, u2⟩ := HB.out.cells
    go_wp2
    go_ret
    exact ⟨rfl, HW.out.1.trans (HB.out.bel.mono HW.out.2)⟩)
end

end Go.Proofs.Ytpahgmidofacaaa
