/-
  graph.join, of two functions.
-/
import Derived.Test.YtblfbmdnkgebdaaGK
namespace Go.Proofs.Ytblfbmdnkgebdaa
open Go.RowKit Go.Maps

/-- Pairs of nodes. -/
def flatP (ps : List (Nat × Nat)) : List Value := ps.flatMap fun p => [.int .i64 (p.1 : Int), .int .i64 (p.2 : Int)]
theorem flatP_snoc (ps : List (Nat × Nat)) (p : Nat × Nat) : flatP (ps ++ [p]) = flatP ps ++ [.int .i64 (p.1 : Int), .int .i64 (p.2 : Int)] := by simp [flatP]
theorem flatP_append (ps qs : List (Nat × Nat)) : flatP (ps ++ qs) = flatP ps ++ flatP qs := by simp [flatP]
theorem flatP_len (ps : List (Nat × Nat)) : (flatP ps).length = ps.length * 2 := by
  unfold flatP
  induction ps with
  | nil => rfl
  | cons p r ih => simp only [List.flatMap_cons, List.length_append, ih, List.length_cons, List.length_nil]; omega
theorem flatP_get : ∀ (ps : List (Nat × Nat)) (i : Nat) (h : i < ps.length), (flatP ps)[i * 2]? = some (.int .i64 (ps[i].1 : Int)) ∧ (flatP ps)[i * 2 + 1]? = some (.int .i64 (ps[i].2 : Int))
  | p :: r, 0, _ => ⟨rfl, rfl⟩
  | p :: r, i + 1, h => by
    have e : ∀ k, (flatP (p :: r))[(i + 1) * 2 + k]? = (flatP r)[i * 2 + k]? := fun k => by
      have e1 : (i + 1) * 2 + k = (i * 2 + k) + 2 := by omega
      rw [e1]; rfl
    have h' : i < r.length := by simpa using h
    have := flatP_get r i h'
    exact ⟨(e 0).trans this.1, (e 1).trans this.2⟩
  | [], i, h => absurd h (by simp)
theorem one2 (ps : List (Nat × Nat)) : ∀ u ∈ flatP ps, u.oneCell' = true := by
  intro u hu
  unfold flatP at hu
  obtain ⟨p, _, hp⟩ := List.mem_flatMap.1 hu
  simp only [List.mem_cons, List.not_mem_nil, or_false] at hp
  rcases hp with rfl | rfl <;> rfl

/-- The pairs of two nodes' arguments. -/
def argPairs (f1 f2 n : Nat) : List (Nat × Nat) := (List.range n).map fun l => (f1 + l, f2 + l)
theorem argPairs_len (f1 f2 n : Nat) : (argPairs f1 f2 n).length = n := by simp [argPairs]

theorem Try.info90 : (Try.prog.info? 90).map (fun i => (i.zero, i.size, i.bytes)) = some (some (.agg #[.int .i64 0, .int .i64 0]), 2, 16) := by kernel_rfl

/-- A row of n pairs, the first i of which are told. -/
structure PrI (G n i f1 f2 : Nat) (W : World) : Prop where
  blk : ∃ arr, W.heap[G]? = some (.cells arr 90 (0, 0)) ∧ arr.size = n * 2
  el : ∀ j, j < i → W.cell? ⟨G, j * 2, none⟩ = some (.int .i64 ((f1 + j : Nat) : Int)) ∧ W.cell? ⟨G, j * 2 + 1, none⟩ = some (.int .i64 ((f2 + j : Nat) : Int))

theorem PrI.facts {G n i f1 f2 : Nat} {W : World} (h : PrI G n i f1 f2 W) (hi : i < n) : G < W.heap.size ∧ (∃ u v, W.cell? ⟨G, i * 2, none⟩ = some u ∧ W.cell? ⟨G, i * 2 + 1, none⟩ = some v) ∧ W.frozen? ⟨G, i * 2, none⟩ = false ∧ W.frozen? ⟨G, i * 2 + 1, none⟩ = false := by
  obtain ⟨arr, h1, h2⟩ := h.blk
  refine ⟨(Array.getElem?_eq_some_iff.1 h1).1, ⟨arr[i * 2]'(by omega), arr[i * 2 + 1]'(by omega), ?_, ?_⟩, ?_, ?_⟩
  · rw [cell_of_row _ _ _ _ 90 (0, 0) h1]; exact Array.getElem?_eq_getElem _
  · rw [cell_of_row _ _ _ _ 90 (0, 0) h1]; exact Array.getElem?_eq_getElem _
  · simp [World.frozen?, h1]
  · simp [World.frozen?, h1]


theorem PrI.step {G n i f1 f2 : Nat} {W : World} (h : PrI G n i f1 f2 W) (hi : i < n) : PrI G n (i + 1) f1 f2 ((W.setCell ⟨G, i * 2, none⟩ (.int .i64 ((f1 + i : Nat) : Int))).setCell ⟨G, i * 2 + 1, none⟩ (.int .i64 ((f2 + i : Nat) : Int))) := by
  obtain ⟨arr, h1, h2⟩ := h.blk
  obtain ⟨_, ⟨u, v, c0, c1⟩, _⟩ := h.facts hi
  refine ⟨?_, fun j hji => ?_⟩
  · have e1 := heap_setCell_same W G (i * 2) arr 90 (.int .i64 ((f1 + i : Nat) : Int)) h1
    have e2 := heap_setCell_same _ G (i * 2 + 1) _ 90 (.int .i64 ((f2 + i : Nat) : Int)) e1
    exact ⟨_, e2, by simp [h2]⟩
  · by_cases e : j = i
    · subst e
      refine ⟨?_, ?_⟩
      · rw [World.cell?_setCell_other _ _ _ _ (by simp)]
        exact World.cell?_setCell_same _ _ _ c0
      · exact World.cell?_setCell_same _ _ _ ((World.cell?_setCell_other _ _ _ _ (by simp)).trans c1)
    · obtain ⟨d0, d1⟩ := h.el j (by omega)
      refine ⟨?_, ?_⟩ <;> rw [World.cell?_setCell_other _ _ _ _ (by intro e; injection e with _ e2; omega), World.cell?_setCell_other _ _ _ _ (by intro e; injection e with _ e2; omega)] <;> assumption

theorem PrI.news {G n f1 f2 : Nat} {W : World} (h : PrI G n n f1 f2 W) : ∀ j u, (flatP (argPairs f1 f2 n))[j]? = some u → W.cell? ((⟨G, 0, none⟩ : Addr).add j) = some u := by
  intro j u hj
  have ea : (⟨G, 0, none⟩ : Addr).add j = ⟨G, j, none⟩ := by unfold Addr.add; split <;> simp_all
  rw [ea]
  have hl := (List.getElem?_eq_some_iff.1 hj).1
  rw [flatP_len, argPairs_len] at hl
  have hq : j / 2 < n := by omega
  obtain ⟨e0, e1⟩ := h.el (j / 2) hq
  obtain ⟨k0, k1⟩ := flatP_get (argPairs f1 f2 n) (j / 2) (by rw [argPairs_len]; exact hq)
  rcases Nat.mod_two_eq_zero_or_one j with m | m
  · have e : j / 2 * 2 = j := by omega
    rw [e] at e0 k0
    rw [k0] at hj
    rw [e0, ← hj]
    simp [argPairs]
  · have e : j / 2 * 2 + 1 = j := by omega
    rw [e] at e1 k1
    rw [k1] at hj
    rw [e1, ← hj]
    simp [argPairs]

/-- What join leaves of two functions that agree. -/
def JFns (w0 : World) (base g bv b c : Nat) (ns : List Nd) (ν : Nv) (n : Nat) (W : World) (X Y f1 f2 : Nat) (hX : X < ns.length) (hY : Y < ns.length) (e : Ending) (W' : World) : Prop :=
  ∃ G, e = .returned (.slice (some ⟨G, 0, none⟩) ns[X].t.args.length ns[X].t.args.length) ∧ PrI G ns[X].t.args.length ns[X].t.args.length f1 f2 W' ∧ GAt w0 base g bv (ns.set Y { ns[Y] with up := (X : Int) }) ν n (.slice (some ⟨b, 0, none⟩) ns.length c) W' ∧ Only [b] W W' ∧ W.heap.size ≤ G

set_option maxRecDepth 100000 in
set_option maxHeartbeats 4000000 in
theorem join_no (w0 : World) (base g bv b c : Nat) (ns : List Nd) (ν : Nv) (n : Nat) (W : World) (x y : Nat) (h : JPre w0 base g bv b c ns ν n W x y) (hx : x < ns.length) (hy : y < ns.length) (vx : uvar ns[x].t = false) (vy : uvar ns[y].t = false) (hf : ns[x].t.fn ≠ ns[y].t.fn ∨ (ns[x].t.fn = ns[y].t.fn ∧ ns[x].t.args.length ≠ ns[y].t.args.length)) :
    Calls Try.prog 55 #[.pointer (some ⟨g, 0, none⟩), .int .i64 x, .int .i64 y] W fun e W' => e = .panicked misfit ∧ Only [b] W W' := by
  obtain ⟨ax, cx, hslx, l1, l2⟩ := (h.gat.args ns[x] (List.getElem_mem h.hx)).slice
  obtain ⟨ay, cy, hsly, l3, l4⟩ := (h.gat.args ns[y] (List.getElem_mem h.hy)).slice
  obtain ⟨b1, c1, e1, hbl, fx⟩ := h.gat.field h.hx
  cases e1
  obtain ⟨b2, c2, e2, _, fy⟩ := h.gat.field h.hy
  cases e2
  have g0 : W.cell? ⟨g, 0, none⟩ = some (.slice (some ⟨b, 0, none⟩) ns.length c) := by simp [World.cell?, h.gat.box]
  have HL : Hid (x < ns.length ∧ y < ns.length) := ⟨h.hx, h.hy⟩
  have H : Hid (JPre w0 base g bv b c ns ν n W x y) := h
  have HM := hid (JBx.make W ns[x] ns[y])
  obtain ⟨mx, hmx⟩ : ∃ m, ns[x] = m := ⟨_, rfl⟩
  obtain ⟨my, hmy⟩ : ∃ m, ns[y] = m := ⟨_, rfl⟩
  have HMX := hid hmx
  have HMY := hid hmy
  obtain ⟨tx, slx, f1, u1, o1, s1, d1⟩ := mx
  obtain ⟨ty, sly, f2, u2, o2, s2, d2⟩ := my
  rw [hmx] at fx hslx l1
  rw [hmy] at fy hsly l3
  rw [hmx, hmy] at HM
  simp only at hslx hsly l1 l3
  subst hslx hsly
  have x0 := fx 0 _ rfl
  have x1 := fx 1 _ rfl
  have x2 := fx 2 _ rfl
  have x3 := fx 3 _ rfl
  have x4 := fx 4 _ rfl
  have x5 := fx 5 _ rfl
  have x6 := fx 6 _ rfl
  have x7 := fx 7 _ rfl
  have y0 := fy 0 _ rfl
  have y1 := fy 1 _ rfl
  have y2 := fy 2 _ rfl
  have y3 := fy 3 _ rfl
  have y4 := fy 4 _ rfl
  have y5 := fy 5 _ rfl
  have y6 := fy 6 _ rfl
  have y7 := fy 7 _ rfl
  rw [Nat.add_zero] at x0 y0
  simp only at x0 x1 x2 x3 x4 x5 x6 x7 y0 y1 y2 y3 y4 y5 y6 y7
  have i0 : (0 : Int) ≤ (x : Int) := Int.natCast_nonneg x
  have i1 : (x : Int) < (ns.length : Int) := by have := h.hx; omega
  have i2 : (0 : Int) ≤ (y : Int) := Int.natCast_nonneg y
  have i3 : (y : Int) < (ns.length : Int) := by have := h.hy; omega
  rw [hmx] at vx
  rw [hmy] at vy
  simp only at vx vy
  rw [hmx, hmy] at hf
  simp only at hf
  have HF := hid hf
  clear hf
  clear h fx fy hmx hmy
  go_enter Try.func55, Try.ntmps55
  go_upto_region 1 with fail
  go_cut [7, 8] from 11 (fun v7 v8 wx => ∃ B7 B8 : Nat, v7 = .pointer (some ⟨B7, 0, none⟩) ∧ v8 = .pointer (some ⟨B8, 0, none⟩) ∧ Hid (JBx W wx ⟨tx, .slice ax tx.args.length cx, f1, u1, o1, s1, d1⟩ ⟨ty, .slice ay ty.args.length cy, f2, u2, o2, s2, d2⟩ B7 B8))
  case first =>
    have ng0 := World.new_ne W _ g0
    have nx0 := World.new_ne W _ x0
    have nx1 := World.new_ne W _ x1
    have nx2 := World.new_ne W _ x2
    have nx3 := World.new_ne W _ x3
    have nx4 := World.new_ne W _ x4
    have nx5 := World.new_ne W _ x5
    have nx6 := World.new_ne W _ x6
    have nx7 := World.new_ne W _ x7
    have ny0 := World.new_ne W _ y0
    have ny1 := World.new_ne W _ y1
    have ny2 := World.new_ne W _ y2
    have ny3 := World.new_ne W _ y3
    have ny4 := World.new_ne W _ y4
    have ny5 := World.new_ne W _ y5
    have ny6 := World.new_ne W _ y6
    have ny7 := World.new_ne W _ y7
    go_region_held3 (fun X => X.cell? ⟨g, 0, none⟩ = some (.slice (some ⟨b, 0, none⟩) ns.length c) ∧ X.cell? ⟨b, x * 8, none⟩ = some (.int .i64 tx.v) ∧ X.cell? ⟨b, x * 8 + 1, none⟩ = some (.string tx.fn) ∧ X.cell? ⟨b, x * 8 + 2, none⟩ = some (.slice ax tx.args.length cx) ∧ X.cell? ⟨b, x * 8 + 3, none⟩ = some (.int .i64 f1) ∧ X.cell? ⟨b, x * 8 + 4, none⟩ = some (.int .i64 u1) ∧ X.cell? ⟨b, x * 8 + 5, none⟩ = some (.bool o1) ∧ X.cell? ⟨b, x * 8 + 6, none⟩ = some (.int .i64 s1) ∧ X.cell? ⟨b, x * 8 + 7, none⟩ = some (.int .i64 d1) ∧ X.cell? ⟨b, y * 8, none⟩ = some (.int .i64 ty.v) ∧ X.cell? ⟨b, y * 8 + 1, none⟩ = some (.string ty.fn) ∧ X.cell? ⟨b, y * 8 + 2, none⟩ = some (.slice ay ty.args.length cy) ∧ X.cell? ⟨b, y * 8 + 3, none⟩ = some (.int .i64 f2) ∧ X.cell? ⟨b, y * 8 + 4, none⟩ = some (.int .i64 u2) ∧ X.cell? ⟨b, y * 8 + 5, none⟩ = some (.bool o2) ∧ X.cell? ⟨b, y * 8 + 6, none⟩ = some (.int .i64 s2) ∧ X.cell? ⟨b, y * 8 + 7, none⟩ = some (.int .i64 d2)) (go_keep) (fail)
    · go_wp2
      go_meet
      exact ⟨_, _, rfl, rfl, HM.out.1⟩
    · go_wp2
      go_meet
      exact ⟨_, _, rfl, rfl, HM.out.2⟩
  case rest =>
    obtain ⟨B7, B8, rfl, rfl, HJ0⟩ := hcut
    obtain ⟨W0, hW0⟩ : ∃ X, X = wc := ⟨_, rfl⟩
    rw [← hW0] at HJ0 ⊢
    clear hW0 x0 x1 x2 x3 x5 x6 x7 y0 y1 y2 y3 y5 y6 y7
    obtain ⟨p0, p1, p2, p3⟩ := nbox_facts HJ0.out.b7
    obtain ⟨q0, q1, q2, q3⟩ := nbox_facts HJ0.out.b8
    have g1 : W0.cell? ⟨g, 0, none⟩ = some (.slice (some ⟨b, 0, none⟩) ns.length c) := kc HJ0.out.bel (World.block_lt_of_cell? W _ g0) g0
    have x4' := kc HJ0.out.bel (World.block_lt_of_cell? W _ x4) x4
    have y4' := kc HJ0.out.bel (World.block_lt_of_cell? W _ y4) y4
    simp only at p0 p1 p2 p3 q0 q1 q2 q3
    have hc0 := uvar_bel tx (.slice ax tx.args.length cx) ⟨_, _, _, rfl⟩ W0
    rw [vx] at hc0
    go_wp2_with fail
    refine hc0.mono ?_
    rintro e W1 ⟨rfl, hb1⟩
    have HJ1 := hid (HJ0.out.keep hb1)
    clear hc0 hb1
    clear p0 p1 p2 p3 q0 q1 q2 q3 g1 x4' y4'
    obtain ⟨p0, p1, p2, p3⟩ := nbox_facts HJ1.out.b7
    obtain ⟨q0, q1, q2, q3⟩ := nbox_facts HJ1.out.b8
    have g1 : W1.cell? ⟨g, 0, none⟩ = some (.slice (some ⟨b, 0, none⟩) ns.length c) := kc HJ1.out.bel (World.block_lt_of_cell? W _ g0) g0
    have x4' := kc HJ1.out.bel (World.block_lt_of_cell? W _ x4) x4
    have y4' := kc HJ1.out.bel (World.block_lt_of_cell? W _ y4) y4
    simp only at p0 p1 p2 p3 q0 q1 q2 q3
    have HA0 := hid (H.out.aft HJ1.out (X := x) hy)
    have fz := (H.out.gat.keep HJ1.out.bel).row.frozenAt (y * 8 + 4)
    go_upto_region 5 with fail
    obtain ⟨V0, hV0⟩ : ∃ V, W1.setCell ⟨b, y * 8 + 4, none⟩ (.int .i64 ((x : Nat) : Int)) = V := ⟨_, rfl⟩
    rw [hV0] at HA0 ⊢
    clear hV0
    clear p0 p1 p2 p3 q0 q1 q2 q3 g1 x4' y4' fz
    obtain ⟨p0, p1, p2, p3⟩ := nbox_facts HA0.out.b7
    obtain ⟨q0, q1, q2, q3⟩ := nbox_facts HA0.out.b8
    simp only at p0 p1 p2 p3 q0 q1 q2 q3
    have hc := uvar_bel tx (.slice ax tx.args.length cx) ⟨_, _, _, rfl⟩ V0
    rw [vx] at hc
    go_wp2_with fail
    refine hc.mono ?_
    rintro e V1 ⟨rfl, hb⟩
    have HA1 := hid (HA0.out.keep hb)
    clear hc hb
    clear p0 p1 p2 p3 q0 q1 q2 q3
    obtain ⟨p0, p1, p2, p3⟩ := nbox_facts HA1.out.b7
    obtain ⟨q0, q1, q2, q3⟩ := nbox_facts HA1.out.b8
    simp only at p0 p1 p2 p3 q0 q1 q2 q3
    have hc := uvar_bel ty (.slice ay ty.args.length cy) ⟨_, _, _, rfl⟩ V1
    rw [vy] at hc
    go_wp2_with fail
    refine hc.mono ?_
    rintro e V2 ⟨rfl, hb⟩
    have HA2 := hid (HA1.out.keep hb)
    clear hc hb
    clear p0 p1 p2 p3 q0 q1 q2 q3
    obtain ⟨p0, p1, p2, p3⟩ := nbox_facts HA2.out.b7
    obtain ⟨q0, q1, q2, q3⟩ := nbox_facts HA2.out.b8
    simp only at p0 p1 p2 p3 q0 q1 q2 q3
    go_wp2_with fail
    refine (must_no tx ty ax ay cx cy V2 HF.out).mono ?_
    rintro e V3 ⟨rfl, hb⟩
    exact ⟨rfl, rfl, (HA2.out.keep hb).bel⟩

set_option maxRecDepth 100000 in
set_option maxHeartbeats 4000000 in
theorem join_yes (w0 : World) (base g bv b c : Nat) (ns : List Nd) (ν : Nv) (n : Nat) (W : World) (x y : Nat) (h : JPre w0 base g bv b c ns ν n W x y) (hx : x < ns.length) (hy : y < ns.length) (vx : uvar ns[x].t = false) (vy : uvar ns[y].t = false) (hf : ns[x].t.fn = ns[y].t.fn) (hl : ns[x].t.args.length = ns[y].t.args.length) (h16 : ns[x].t.args.length ≤ 16) (g1n g2n : Nat) (hf1 : ns[x].first = (g1n : Int)) (hf2 : ns[y].first = (g2n : Int)) (hs1 : ∀ l, l < ns[x].t.args.length → g1n + l < 8000 ∧ g2n + l < 8000) :
    Calls Try.prog 55 #[.pointer (some ⟨g, 0, none⟩), .int .i64 x, .int .i64 y] W fun e W' => JFns w0 base g bv b c ns ν n W x y g1n g2n hx hy e W' := by
  obtain ⟨ax, cx, hslx, l1, l2⟩ := (h.gat.args ns[x] (List.getElem_mem h.hx)).slice
  obtain ⟨ay, cy, hsly, l3, l4⟩ := (h.gat.args ns[y] (List.getElem_mem h.hy)).slice
  obtain ⟨b1, c1, e1, hbl, fx⟩ := h.gat.field h.hx
  cases e1
  obtain ⟨b2, c2, e2, _, fy⟩ := h.gat.field h.hy
  cases e2
  have g0 : W.cell? ⟨g, 0, none⟩ = some (.slice (some ⟨b, 0, none⟩) ns.length c) := by simp [World.cell?, h.gat.box]
  have HL : Hid (x < ns.length ∧ y < ns.length) := ⟨h.hx, h.hy⟩
  have H : Hid (JPre w0 base g bv b c ns ν n W x y) := h
  have HM := hid (JBx.make W ns[x] ns[y])
  obtain ⟨mx, hmx⟩ : ∃ m, ns[x] = m := ⟨_, rfl⟩
  obtain ⟨my, hmy⟩ : ∃ m, ns[y] = m := ⟨_, rfl⟩
  have HMX := hid hmx
  have HMY := hid hmy
  obtain ⟨tx, slx, f1, u1, o1, s1, d1⟩ := mx
  obtain ⟨ty, sly, f2, u2, o2, s2, d2⟩ := my
  rw [hmx] at fx hslx l1
  rw [hmy] at fy hsly l3
  rw [hmx, hmy] at HM
  simp only at hslx hsly l1 l3
  subst hslx hsly
  have x0 := fx 0 _ rfl
  have x1 := fx 1 _ rfl
  have x2 := fx 2 _ rfl
  have x3 := fx 3 _ rfl
  have x4 := fx 4 _ rfl
  have x5 := fx 5 _ rfl
  have x6 := fx 6 _ rfl
  have x7 := fx 7 _ rfl
  have y0 := fy 0 _ rfl
  have y1 := fy 1 _ rfl
  have y2 := fy 2 _ rfl
  have y3 := fy 3 _ rfl
  have y4 := fy 4 _ rfl
  have y5 := fy 5 _ rfl
  have y6 := fy 6 _ rfl
  have y7 := fy 7 _ rfl
  rw [Nat.add_zero] at x0 y0
  simp only at x0 x1 x2 x3 x4 x5 x6 x7 y0 y1 y2 y3 y4 y5 y6 y7
  have i0 : (0 : Int) ≤ (x : Int) := Int.natCast_nonneg x
  have i1 : (x : Int) < (ns.length : Int) := by have := h.hx; omega
  have i2 : (0 : Int) ≤ (y : Int) := Int.natCast_nonneg y
  have i3 : (y : Int) < (ns.length : Int) := by have := h.hy; omega
  rw [hmx] at vx
  rw [hmy] at vy
  simp only at vx vy
  rw [hmx, hmy] at hf hl
  rw [hmx] at h16 hf1 hs1
  rw [hmy] at hf2
  simp only at hf hl h16 hf1 hf2 hs1
  have HF : Hid (tx.fn = ty.fn ∧ tx.args.length = ty.args.length ∧ f1 = (g1n : Int) ∧ f2 = (g2n : Int)) := ⟨hf, hl, hf1, hf2⟩
  have HTX : Hid (ns[x].t.args.length = tx.args.length) := by show _ = _; rw [hmx]
  have HS1 := hid hs1
  clear hf hl hs1 hf1 hf2
  clear h fx fy hmx hmy
  go_enter Try.func55, Try.ntmps55
  go_upto_region 1 with fail
  go_cut [7, 8] from 11 (fun v7 v8 wx => ∃ B7 B8 : Nat, v7 = .pointer (some ⟨B7, 0, none⟩) ∧ v8 = .pointer (some ⟨B8, 0, none⟩) ∧ Hid (JBx W wx ⟨tx, .slice ax tx.args.length cx, f1, u1, o1, s1, d1⟩ ⟨ty, .slice ay ty.args.length cy, f2, u2, o2, s2, d2⟩ B7 B8))
  case first =>
    have ng0 := World.new_ne W _ g0
    have nx0 := World.new_ne W _ x0
    have nx1 := World.new_ne W _ x1
    have nx2 := World.new_ne W _ x2
    have nx3 := World.new_ne W _ x3
    have nx4 := World.new_ne W _ x4
    have nx5 := World.new_ne W _ x5
    have nx6 := World.new_ne W _ x6
    have nx7 := World.new_ne W _ x7
    have ny0 := World.new_ne W _ y0
    have ny1 := World.new_ne W _ y1
    have ny2 := World.new_ne W _ y2
    have ny3 := World.new_ne W _ y3
    have ny4 := World.new_ne W _ y4
    have ny5 := World.new_ne W _ y5
    have ny6 := World.new_ne W _ y6
    have ny7 := World.new_ne W _ y7
    go_region_held3 (fun X => X.cell? ⟨g, 0, none⟩ = some (.slice (some ⟨b, 0, none⟩) ns.length c) ∧ X.cell? ⟨b, x * 8, none⟩ = some (.int .i64 tx.v) ∧ X.cell? ⟨b, x * 8 + 1, none⟩ = some (.string tx.fn) ∧ X.cell? ⟨b, x * 8 + 2, none⟩ = some (.slice ax tx.args.length cx) ∧ X.cell? ⟨b, x * 8 + 3, none⟩ = some (.int .i64 f1) ∧ X.cell? ⟨b, x * 8 + 4, none⟩ = some (.int .i64 u1) ∧ X.cell? ⟨b, x * 8 + 5, none⟩ = some (.bool o1) ∧ X.cell? ⟨b, x * 8 + 6, none⟩ = some (.int .i64 s1) ∧ X.cell? ⟨b, x * 8 + 7, none⟩ = some (.int .i64 d1) ∧ X.cell? ⟨b, y * 8, none⟩ = some (.int .i64 ty.v) ∧ X.cell? ⟨b, y * 8 + 1, none⟩ = some (.string ty.fn) ∧ X.cell? ⟨b, y * 8 + 2, none⟩ = some (.slice ay ty.args.length cy) ∧ X.cell? ⟨b, y * 8 + 3, none⟩ = some (.int .i64 f2) ∧ X.cell? ⟨b, y * 8 + 4, none⟩ = some (.int .i64 u2) ∧ X.cell? ⟨b, y * 8 + 5, none⟩ = some (.bool o2) ∧ X.cell? ⟨b, y * 8 + 6, none⟩ = some (.int .i64 s2) ∧ X.cell? ⟨b, y * 8 + 7, none⟩ = some (.int .i64 d2)) (go_keep) (fail)
    · go_wp2
      go_meet
      exact ⟨_, _, rfl, rfl, HM.out.1⟩
    · go_wp2
      go_meet
      exact ⟨_, _, rfl, rfl, HM.out.2⟩
  case rest =>
    obtain ⟨B7, B8, rfl, rfl, HJ0⟩ := hcut
    obtain ⟨W0, hW0⟩ : ∃ X, X = wc := ⟨_, rfl⟩
    rw [← hW0] at HJ0 ⊢
    clear hW0 x0 x1 x2 x3 x5 x6 x7 y0 y1 y2 y3 y5 y6 y7
    obtain ⟨p0, p1, p2, p3⟩ := nbox_facts HJ0.out.b7
    obtain ⟨q0, q1, q2, q3⟩ := nbox_facts HJ0.out.b8
    have g1 : W0.cell? ⟨g, 0, none⟩ = some (.slice (some ⟨b, 0, none⟩) ns.length c) := kc HJ0.out.bel (World.block_lt_of_cell? W _ g0) g0
    have x4' := kc HJ0.out.bel (World.block_lt_of_cell? W _ x4) x4
    have y4' := kc HJ0.out.bel (World.block_lt_of_cell? W _ y4) y4
    simp only at p0 p1 p2 p3 q0 q1 q2 q3
    have hc0 := uvar_bel tx (.slice ax tx.args.length cx) ⟨_, _, _, rfl⟩ W0
    rw [vx] at hc0
    go_wp2_with fail
    refine hc0.mono ?_
    rintro e W1 ⟨rfl, hb1⟩
    have HJ1 := hid (HJ0.out.keep hb1)
    clear hc0 hb1
    clear p0 p1 p2 p3 q0 q1 q2 q3 g1 x4' y4'
    obtain ⟨p0, p1, p2, p3⟩ := nbox_facts HJ1.out.b7
    obtain ⟨q0, q1, q2, q3⟩ := nbox_facts HJ1.out.b8
    have g1 : W1.cell? ⟨g, 0, none⟩ = some (.slice (some ⟨b, 0, none⟩) ns.length c) := kc HJ1.out.bel (World.block_lt_of_cell? W _ g0) g0
    have x4' := kc HJ1.out.bel (World.block_lt_of_cell? W _ x4) x4
    have y4' := kc HJ1.out.bel (World.block_lt_of_cell? W _ y4) y4
    simp only at p0 p1 p2 p3 q0 q1 q2 q3
    have HA0 := hid (H.out.aft HJ1.out (X := x) hy)
    have fz := (H.out.gat.keep HJ1.out.bel).row.frozenAt (y * 8 + 4)
    go_upto_region 5 with fail
    obtain ⟨V0, hV0⟩ : ∃ V, W1.setCell ⟨b, y * 8 + 4, none⟩ (.int .i64 ((x : Nat) : Int)) = V := ⟨_, rfl⟩
    rw [hV0] at HA0 ⊢
    clear hV0
    clear p0 p1 p2 p3 q0 q1 q2 q3 g1 x4' y4' fz
    obtain ⟨p0, p1, p2, p3⟩ := nbox_facts HA0.out.b7
    obtain ⟨q0, q1, q2, q3⟩ := nbox_facts HA0.out.b8
    simp only at p0 p1 p2 p3 q0 q1 q2 q3
    have hc := uvar_bel tx (.slice ax tx.args.length cx) ⟨_, _, _, rfl⟩ V0
    rw [vx] at hc
    go_wp2_with fail
    refine hc.mono ?_
    rintro e V1 ⟨rfl, hb⟩
    have HA1 := hid (HA0.out.keep hb)
    clear hc hb
    clear p0 p1 p2 p3 q0 q1 q2 q3
    obtain ⟨p0, p1, p2, p3⟩ := nbox_facts HA1.out.b7
    obtain ⟨q0, q1, q2, q3⟩ := nbox_facts HA1.out.b8
    simp only at p0 p1 p2 p3 q0 q1 q2 q3
    have hc := uvar_bel ty (.slice ay ty.args.length cy) ⟨_, _, _, rfl⟩ V1
    rw [vy] at hc
    go_wp2_with fail
    refine hc.mono ?_
    rintro e V2 ⟨rfl, hb⟩
    have HA2 := hid (HA1.out.keep hb)
    clear hc hb
    clear p0 p1 p2 p3 q0 q1 q2 q3
    obtain ⟨p0, p1, p2, p3⟩ := nbox_facts HA2.out.b7
    obtain ⟨q0, q1, q2, q3⟩ := nbox_facts HA2.out.b8
    simp only at p0 p1 p2 p3 q0 q1 q2 q3
    go_wp2_with fail
    refine (must_ok tx ty ax ay cx cy V2 HF.out.1 HF.out.2.1).mono ?_
    rintro e V3 ⟨rfl, hb⟩
    have HA3 := hid (HA2.out.keep hb)
    clear hb p0 p1 p2 p3 q0 q1 q2 q3
    obtain ⟨p0, p1, p2, p3⟩ := nbox_facts HA3.out.b7
    obtain ⟨q0, q1, q2, q3⟩ := nbox_facts HA3.out.b8
    simp only at p0 p1 p2 p3 q0 q1 q2 q3
    obtain ⟨N, hN⟩ : ∃ N, tx.args.length = N := ⟨_, rfl⟩
    have hN16 : N ≤ 16 := by omega
    obtain ⟨i0, hi, hz0, hz1, hz2⟩ := info_parts Try.info90
    obtain ⟨arr, harr⟩ : ∃ arr, madeCells (Value.agg #[.int .i64 0, .int .i64 0]).cells (N * 2) = arr := ⟨_, rfl⟩
    have hs : arr.size = N * 2 := by rw [← harr]; simp [madeCells]
    have hmk : ∀ W : World, (Instr.makeSlice 91 (.int .i64 N) (.int .i64 N)).run Try.prog W = .ok (.slice (some ⟨W.heap.size, 0, none⟩) N N) (W.alloc (.cells arr 90)) := by
      intro W
      have := run_make (P := Try.prog) W 91 90 i0 _ Try.underlying91 hi hz0 .i64 .i64 N N (by omega) (Int.le_refl _) (by rw [hz2]; omega) (by omega)
      rw [hz1] at this
      simp only [Int.toNat_natCast, harr] at this
      exact this
    rw [hN] at p2
    have HN := hid hN
    have HK0 : Hid (PrI V3.heap.size N 0 g1n g2n (V3.alloc (.cells arr 90)) ∧ Below V3.heap.size V3 (V3.alloc (.cells arr 90))) := ⟨⟨⟨arr, (MapKept.heap_alloc V3 (.cells arr 90)).1, hs⟩, fun j h => by omega⟩, below_box V3 _⟩
    have HSN : Hid (∀ l, l < N → g1n + l < 8000 ∧ g2n + l < 8000) := by show ∀ l, _ → _; rw [← hN]; exact HS1.out
    have HBB : Hid (V3.heap[B7]? = _ ∧ V3.heap[B8]? = _) := ⟨HA3.out.b7, HA3.out.b8⟩
    clear hN l1 l3 h16 harr hs
    go_wp2
    go_loopw [73] (fun vi wr => ∃ i : Nat, vi = .int .i64 i ∧ i ≤ N ∧ Hid (PrI V3.heap.size N i g1n g2n wr ∧ Below V3.heap.size V3 wr)) (fun vi _ => N - (intOf vi).toNat)
    case atStart => exact ⟨0, rfl, Nat.zero_le _, HK0.out⟩
    case round =>
      obtain ⟨i, rfl, hi', HP⟩ := hrel
      by_cases hlt : i < N
      · obtain ⟨hG, ⟨u, v, c0, c1⟩, z0, z1⟩ := HP.out.1.facts hlt
        obtain ⟨r0, r1, r2, r3⟩ := nbox_facts ((HP.out.2.block _ (Array.getElem?_eq_some_iff.1 HBB.out.1).1).trans HBB.out.1)
        obtain ⟨t0, t1, t2, t3⟩ := nbox_facts ((HP.out.2.block _ (Array.getElem?_eq_some_iff.1 HBB.out.2).1).trans HBB.out.2)
        simp only at r3 t3
        rw [HF.out.2.2.1] at r3
        rw [HF.out.2.2.2] at t3
        have j0 : (0 : Int) ≤ (i : Int) := Int.natCast_nonneg i
        have j1 : (i : Int) < (N : Int) := by omega
        obtain ⟨s1', s2'⟩ := HSN.out i hlt
        have HE : Hid (PrI V3.heap.size N (i + 1) g1n g2n ((wr.setCell ⟨V3.heap.size, i * 2, none⟩ (.int .i64 ((g1n : Int) + (i : Int)))).setCell ⟨V3.heap.size, i * 2 + 1, none⟩ (.int .i64 ((g2n : Int) + (i : Int)))) ∧ Below V3.heap.size V3 ((wr.setCell ⟨V3.heap.size, i * 2, none⟩ (.int .i64 ((g1n : Int) + (i : Int)))).setCell ⟨V3.heap.size, i * 2 + 1, none⟩ (.int .i64 ((g2n : Int) + (i : Int))))) := by
          have h1 := HP.out.1.step hlt
          rw [Int.natCast_add, Int.natCast_add] at h1
          exact ⟨h1, (HP.out.2.setCell (p := ⟨V3.heap.size, i * 2, none⟩) (Nat.le_refl _) _).setCell (p := ⟨V3.heap.size, i * 2 + 1, none⟩) (Nat.le_refl _) _⟩
        clear r0 r1 r2 t0 t1 t2
        go_wp2
        go_roundw
        case rel => exact ⟨i + 1, by go_num, by omega, HE.out⟩
        case measure => simp [intOf]; omega
      · obtain rfl : i = N := by omega
        go_wp2
        go_ret
        have hA := HA3.out.keep HP.out.2
        have hg := hA.gat
        rw [List.length_set] at hg
        have hsz : W.heap.size ≤ V3.heap.size := HA3.out.bel.size
        refine ⟨V3.heap.size, ?_, ?_, hg, hA.bel, hsz⟩
        · rw [HTX.out, HN.out]; rfl
        · rw [HTX.out, HN.out]; exact HP.out.1

end Go.Proofs.Ytblfbmdnkgebdaa
