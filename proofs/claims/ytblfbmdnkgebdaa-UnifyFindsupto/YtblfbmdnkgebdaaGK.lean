/-
  graph.join.
-/
import Derived.Test.YtblfbmdnkgebdaaGJ
import Derived.Deep.CutBlock
namespace Go.Proofs.Ytblfbmdnkgebdaa
open Go.RowKit Go.Maps

/-- The box of a node. -/
abbrev nbox (m : Nd) : Obj := .cells #[.int .i64 m.t.v, .string m.t.fn, m.sl, .int .i64 m.first, .int .i64 m.up, .bool m.op, .int .i64 m.size, .int .i64 m.depth] 89

theorem nbox_facts {X : World} {n : Nat} {m : Nd} (h : X.heap[n]? = some (nbox m)) : X.cell? ⟨n, 0, none⟩ = some (.int .i64 m.t.v) ∧ X.cell? ⟨n, 1, none⟩ = some (.string m.t.fn) ∧ X.cell? ⟨n, 2, none⟩ = some m.sl ∧ X.cell? ⟨n, 3, none⟩ = some (.int .i64 m.first) := by
  refine ⟨?_, ?_, ?_, ?_⟩ <;> simp [World.cell?, h]

/-- Both nodes, copied. -/
structure JBx (W wx : World) (mx my : Nd) (B7 B8 : Nat) : Prop where
  b7 : wx.heap[B7]? = some (nbox mx)
  b8 : wx.heap[B8]? = some (nbox my)
  bel : Below W.heap.size W wx
  l7 : W.heap.size ≤ B7
  l8 : W.heap.size ≤ B8

theorem JBx.keep {W wx wy : World} {mx my : Nd} {B7 B8 : Nat} (h : JBx W wx mx my B7 B8) (hb : Below wx.heap.size wx wy) : JBx W wy mx my B7 B8 :=
  ⟨(hb.block _ (Array.getElem?_eq_some_iff.1 h.b7).1).trans h.b7, (hb.block _ (Array.getElem?_eq_some_iff.1 h.b8).1).trans h.b8, h.bel.trans (hb.mono h.bel.size), h.l7, h.l8⟩

theorem JBx.make (W : World) (mx my : Nd) : JBx W ((W.alloc (nbox mx)).alloc (nbox my)).drew mx my W.heap.size (W.heap.size + 1) ∧ JBx W ((W.alloc (nbox my)).alloc (nbox mx)).drew mx my (W.heap.size + 1) W.heap.size := by
  have key : ∀ p q : Nd, ((W.alloc (nbox p)).alloc (nbox q)).drew.heap[W.heap.size]? = some (nbox p) ∧ ((W.alloc (nbox p)).alloc (nbox q)).drew.heap[W.heap.size + 1]? = some (nbox q) ∧ Below W.heap.size W ((W.alloc (nbox p)).alloc (nbox q)).drew := fun p q => by
    refine ⟨?_, ?_, (below_box2 W _ _).drew⟩
    · exact (below_box (W.alloc (nbox p)) (nbox q)).block _ (by simp) |>.trans (MapKept.heap_alloc W (nbox p)).1
    · have := (MapKept.heap_alloc (W.alloc (nbox p)) (nbox q)).1
      rw [World.size_alloc] at this
      exact this
  obtain ⟨a1, a2, a3⟩ := key mx my
  obtain ⟨b1, b2, b3⟩ := key my mx
  exact ⟨⟨a1, a2, a3, by omega, by omega⟩, ⟨b2, b1, b3, by omega, by omega⟩⟩

theorem uvar_bel (t : T) (sl : Value) (hs : ∃ a n c, sl = .slice a n c) (w : World) : Calls Try.prog 59 #[tval t sl] w fun e w' => e = .returned (.bool (uvar t)) ∧ Below w.heap.size w w' :=
  (uvar_any t sl w hs).mono fun e w' h => ⟨h.1, by rw [h.2]; exact below_box w _⟩

theorem Only.setB {W Z : World} (h : Below W.heap.size W Z) (b o : Nat) (u : Value) : Only [b] W (Z.setCell ⟨b, o, none⟩ u) :=
  ⟨h.os, h.tape, h.output, by simpa using h.size, fun k hk hn => (Below.heap_setCell _ _ _ k (by simpa using hn)).trans (h.block k hk)⟩

/-- Ahead of join: two heads. -/
structure JPre (w0 : World) (base g bv b c : Nat) (ns : List Nd) (ν : Nv) (n : Nat) (W : World) (x y : Nat) : Prop where
  gat : GAt w0 base g bv ns ν n (.slice (some ⟨b, 0, none⟩) ns.length c) W
  hx : x < ns.length
  hy : y < ns.length
  base : base ≤ W.heap.size
  small : ns.length ≤ 8000

/-- Node Y is hung on node X. -/
theorem JPre.hang {w0 : World} {base g bv b c : Nat} {ns : List Nd} {ν : Nv} {n : Nat} {W : World} {x y : Nat} (h : JPre w0 base g bv b c ns ν n W x y) {Z : World} (hZ : Below W.heap.size W Z) {X Y : Nat} (hY : Y < ns.length) : GAt w0 base g bv (ns.set Y { ns[Y] with up := (X : Int) }) ν n (.slice (some ⟨b, 0, none⟩) ns.length c) (Z.setCell ⟨b, Y * 8 + 4, none⟩ (.int .i64 (X : Int))) ∧ Only [b] W (Z.setCell ⟨b, Y * 8 + 4, none⟩ (.int .i64 (X : Int))) := by
  have hg := h.gat.keep hZ
  refine ⟨hg.write hY (j := 4) (by omega) (nd_up ns[Y] (X : Int)) (h.gat.args ns[Y] (List.getElem_mem hY)), ?_⟩
  exact Only.setB hZ b _ _

/-- Behind the store. -/
structure JAft (w0 : World) (base g bv b c : Nat) (ns : List Nd) (ν : Nv) (n : Nat) (W wx : World) (mx my : Nd) (B7 B8 : Nat) : Prop where
  b7 : wx.heap[B7]? = some (nbox mx)
  b8 : wx.heap[B8]? = some (nbox my)
  gat : GAt w0 base g bv ns ν n (.slice (some ⟨b, 0, none⟩) ns.length c) wx
  bel : Only [b] W wx

theorem JAft.keep {w0 : World} {base g bv b c : Nat} {ns : List Nd} {ν : Nv} {n : Nat} {W wx wy : World} {mx my : Nd} {B7 B8 : Nat} (h : JAft w0 base g bv b c ns ν n W wx mx my B7 B8) (hb : Below wx.heap.size wx wy) : JAft w0 base g bv b c ns ν n W wy mx my B7 B8 :=
  ⟨(hb.block _ (Array.getElem?_eq_some_iff.1 h.b7).1).trans h.b7, (hb.block _ (Array.getElem?_eq_some_iff.1 h.b8).1).trans h.b8, h.gat.keep hb, h.bel.trans (Only.of_below hb) (fun _r hr => .inl hr)⟩

theorem JPre.aft {w0 : World} {base g bv b c : Nat} {ns : List Nd} {ν : Nv} {n : Nat} {W : World} {x y : Nat} (h : JPre w0 base g bv b c ns ν n W x y) {wx : World} {mx my : Nd} {B7 B8 : Nat} (hj : JBx W wx mx my B7 B8) {X Y : Nat} (hY : Y < ns.length) : JAft w0 base g bv b c (ns.set Y { ns[Y] with up := (X : Int) }) ν n W (wx.setCell ⟨b, Y * 8 + 4, none⟩ (.int .i64 (X : Int))) mx my B7 B8 := by
  obtain ⟨h1, h2⟩ := h.hang hj.bel (X := X) hY
  have hbl : b < W.heap.size := (h.gat.row.lt b rfl).2
  refine ⟨(Below.heap_setCell _ _ _ B7 (by have := hj.l7; show B7 ≠ b; omega)).trans hj.b7, (Below.heap_setCell _ _ _ B8 (by have := hj.l8; show B8 ≠ b; omega)).trans hj.b8, ?_, h2⟩
  rw [List.length_set]
  exact h1

/-- What join leaves where one of both is a variable. -/
def JVar (w0 : World) (base g bv b c : Nat) (ns : List Nd) (ν : Nv) (n : Nat) (W : World) (X Y : Nat) (hY : Y < ns.length) (e : Ending) (W' : World) : Prop := e = .returned (.slice none 0 0) ∧ GAt w0 base g bv (ns.set Y { ns[Y] with up := (X : Int) }) ν n (.slice (some ⟨b, 0, none⟩) ns.length c) W' ∧ Only [b] W W'


set_option maxRecDepth 100000 in
set_option maxHeartbeats 4000000 in
theorem join_vf (w0 : World) (base g bv b c : Nat) (ns : List Nd) (ν : Nv) (n : Nat) (W : World) (x y : Nat) (h : JPre w0 base g bv b c ns ν n W x y) (hx : x < ns.length) (hy : y < ns.length) (vx : uvar ns[x].t = true) (vy : uvar ns[y].t = false) :
    Calls Try.prog 55 #[.pointer (some ⟨g, 0, none⟩), .int .i64 x, .int .i64 y] W fun e W' => JVar w0 base g bv b c ns ν n W y x hx e W' := by
  obtain ⟨ax, cx, hslx, l1, l2⟩ := (h.gat.args ns[x] (List.getElem_mem h.hx)).slice
  obtain ⟨ay, cy, hsly, l3, l4⟩ := (h.gat.args ns[y] (List.getElem_mem h.hy)).slice
  obtain ⟨b1, c1, e1, hbl, fx⟩ := h.gat.field h.hx
  cases e1
  obtain ⟨b2, c2, e2, _, fy⟩ := h.gat.field h.hy
  cases e2
  have g0 : W.cell? ⟨g, 0, none⟩ = some (.slice (some ⟨b, 0, none⟩) ns.length c) := by simp [World.cell?, h.gat.box]
  have HL : Hid (x < ns.length ∧ y < ns.length) := ⟨h.hx, h.hy⟩
  have H : Hid (JPre w0 base g bv b c ns ν n W x y) := h
  have HM := hid (JBx.make W ns[x] ns[y])
  obtain ⟨mx, hmx⟩ : ∃ m, ns[x] = m := ⟨_, rfl⟩
  obtain ⟨my, hmy⟩ : ∃ m, ns[y] = m := ⟨_, rfl⟩
  have HMX := hid hmx
  have HMY := hid hmy
  obtain ⟨tx, slx, f1, u1, o1, s1, d1⟩ := mx
  obtain ⟨ty, sly, f2, u2, o2, s2, d2⟩ := my
  rw [hmx] at fx hslx l1
  rw [hmy] at fy hsly l3
  rw [hmx, hmy] at HM
  simp only at hslx hsly l1 l3
  subst hslx hsly
  have x0 := fx 0 _ rfl
  have x1 := fx 1 _ rfl
  have x2 := fx 2 _ rfl
  have x3 := fx 3 _ rfl
  have x4 := fx 4 _ rfl
  have x5 := fx 5 _ rfl
  have x6 := fx 6 _ rfl
  have x7 := fx 7 _ rfl
  have y0 := fy 0 _ rfl
  have y1 := fy 1 _ rfl
  have y2 := fy 2 _ rfl
  have y3 := fy 3 _ rfl
  have y4 := fy 4 _ rfl
  have y5 := fy 5 _ rfl
  have y6 := fy 6 _ rfl
  have y7 := fy 7 _ rfl
  rw [Nat.add_zero] at x0 y0
  simp only at x0 x1 x2 x3 x4 x5 x6 x7 y0 y1 y2 y3 y4 y5 y6 y7
  have i0 : (0 : Int) ≤ (x : Int) := Int.natCast_nonneg x
  have i1 : (x : Int) < (ns.length : Int) := by have := h.hx; omega
  have i2 : (0 : Int) ≤ (y : Int) := Int.natCast_nonneg y
  have i3 : (y : Int) < (ns.length : Int) := by have := h.hy; omega
  rw [hmx] at vx
  rw [hmy] at vy
  simp only at vx vy
  clear h fx fy hmx hmy
  go_enter Try.func55, Try.ntmps55
  go_upto_region 1 with fail
  go_cut [7, 8] from 11 (fun v7 v8 wx => ∃ B7 B8 : Nat, v7 = .pointer (some ⟨B7, 0, none⟩) ∧ v8 = .pointer (some ⟨B8, 0, none⟩) ∧ Hid (JBx W wx ⟨tx, .slice ax tx.args.length cx, f1, u1, o1, s1, d1⟩ ⟨ty, .slice ay ty.args.length cy, f2, u2, o2, s2, d2⟩ B7 B8))
  case first =>
    have ng0 := World.new_ne W _ g0
    have nx0 := World.new_ne W _ x0
    have nx1 := World.new_ne W _ x1
    have nx2 := World.new_ne W _ x2
    have nx3 := World.new_ne W _ x3
    have nx4 := World.new_ne W _ x4
    have nx5 := World.new_ne W _ x5
    have nx6 := World.new_ne W _ x6
    have nx7 := World.new_ne W _ x7
    have ny0 := World.new_ne W _ y0
    have ny1 := World.new_ne W _ y1
    have ny2 := World.new_ne W _ y2
    have ny3 := World.new_ne W _ y3
    have ny4 := World.new_ne W _ y4
    have ny5 := World.new_ne W _ y5
    have ny6 := World.new_ne W _ y6
    have ny7 := World.new_ne W _ y7
    go_region_held3 (fun X => X.cell? ⟨g, 0, none⟩ = some (.slice (some ⟨b, 0, none⟩) ns.length c) ∧ X.cell? ⟨b, x * 8, none⟩ = some (.int .i64 tx.v) ∧ X.cell? ⟨b, x * 8 + 1, none⟩ = some (.string tx.fn) ∧ X.cell? ⟨b, x * 8 + 2, none⟩ = some (.slice ax tx.args.length cx) ∧ X.cell? ⟨b, x * 8 + 3, none⟩ = some (.int .i64 f1) ∧ X.cell? ⟨b, x * 8 + 4, none⟩ = some (.int .i64 u1) ∧ X.cell? ⟨b, x * 8 + 5, none⟩ = some (.bool o1) ∧ X.cell? ⟨b, x * 8 + 6, none⟩ = some (.int .i64 s1) ∧ X.cell? ⟨b, x * 8 + 7, none⟩ = some (.int .i64 d1) ∧ X.cell? ⟨b, y * 8, none⟩ = some (.int .i64 ty.v) ∧ X.cell? ⟨b, y * 8 + 1, none⟩ = some (.string ty.fn) ∧ X.cell? ⟨b, y * 8 + 2, none⟩ = some (.slice ay ty.args.length cy) ∧ X.cell? ⟨b, y * 8 + 3, none⟩ = some (.int .i64 f2) ∧ X.cell? ⟨b, y * 8 + 4, none⟩ = some (.int .i64 u2) ∧ X.cell? ⟨b, y * 8 + 5, none⟩ = some (.bool o2) ∧ X.cell? ⟨b, y * 8 + 6, none⟩ = some (.int .i64 s2) ∧ X.cell? ⟨b, y * 8 + 7, none⟩ = some (.int .i64 d2)) (go_keep) (fail)
    · go_wp2
      go_meet
      exact ⟨_, _, rfl, rfl, HM.out.1⟩
    · go_wp2
      go_meet
      exact ⟨_, _, rfl, rfl, HM.out.2⟩
  case rest =>
    obtain ⟨B7, B8, rfl, rfl, HJ0⟩ := hcut
    obtain ⟨W0, hW0⟩ : ∃ X, X = wc := ⟨_, rfl⟩
    rw [← hW0] at HJ0 ⊢
    clear hW0 x0 x1 x2 x3 x5 x6 x7 y0 y1 y2 y3 y5 y6 y7
    obtain ⟨p0, p1, p2, p3⟩ := nbox_facts HJ0.out.b7
    obtain ⟨q0, q1, q2, q3⟩ := nbox_facts HJ0.out.b8
    have g1 : W0.cell? ⟨g, 0, none⟩ = some (.slice (some ⟨b, 0, none⟩) ns.length c) := kc HJ0.out.bel (World.block_lt_of_cell? W _ g0) g0
    have x4' := kc HJ0.out.bel (World.block_lt_of_cell? W _ x4) x4
    have y4' := kc HJ0.out.bel (World.block_lt_of_cell? W _ y4) y4
    simp only at p0 p1 p2 p3 q0 q1 q2 q3
    have hc0 := uvar_bel tx (.slice ax tx.args.length cx) ⟨_, _, _, rfl⟩ W0
    rw [vx] at hc0
    go_wp2_with fail
    refine hc0.mono ?_
    rintro e W1 ⟨rfl, hb1⟩
    have HJ1 := hid (HJ0.out.keep hb1)
    clear hc0 hb1
    clear p0 p1 p2 p3 q0 q1 q2 q3 g1 x4' y4'
    obtain ⟨p0, p1, p2, p3⟩ := nbox_facts HJ1.out.b7
    obtain ⟨q0, q1, q2, q3⟩ := nbox_facts HJ1.out.b8
    have g1 : W1.cell? ⟨g, 0, none⟩ = some (.slice (some ⟨b, 0, none⟩) ns.length c) := kc HJ1.out.bel (World.block_lt_of_cell? W _ g0) g0
    have x4' := kc HJ1.out.bel (World.block_lt_of_cell? W _ x4) x4
    have y4' := kc HJ1.out.bel (World.block_lt_of_cell? W _ y4) y4
    simp only at p0 p1 p2 p3 q0 q1 q2 q3
    have hc1 := uvar_bel ty (.slice ay ty.args.length cy) ⟨_, _, _, rfl⟩ W1
    rw [vy] at hc1
    go_wp2_with fail
    refine hc1.mono ?_
    rintro e W2 ⟨rfl, hb2⟩
    have HJ2 := hid (HJ1.out.keep hb2)
    clear hc1 hb2
    clear p0 p1 p2 p3 q0 q1 q2 q3 g1 x4' y4'
    obtain ⟨p0, p1, p2, p3⟩ := nbox_facts HJ2.out.b7
    obtain ⟨q0, q1, q2, q3⟩ := nbox_facts HJ2.out.b8
    have g1 : W2.cell? ⟨g, 0, none⟩ = some (.slice (some ⟨b, 0, none⟩) ns.length c) := kc HJ2.out.bel (World.block_lt_of_cell? W _ g0) g0
    have x4' := kc HJ2.out.bel (World.block_lt_of_cell? W _ x4) x4
    have y4' := kc HJ2.out.bel (World.block_lt_of_cell? W _ y4) y4
    simp only at p0 p1 p2 p3 q0 q1 q2 q3
    have HA0 := hid (H.out.aft HJ2.out (X := y) hx)
    have fz := (H.out.gat.keep HJ2.out.bel).row.frozenAt (x * 8 + 4)
    go_upto_region 5 with fail
    obtain ⟨V0, hV0⟩ : ∃ V, W2.setCell ⟨b, x * 8 + 4, none⟩ (.int .i64 ((y : Nat) : Int)) = V := ⟨_, rfl⟩
    rw [hV0] at HA0 ⊢
    clear hV0
    clear p0 p1 p2 p3 q0 q1 q2 q3 g1 x4' y4' fz
    obtain ⟨p0, p1, p2, p3⟩ := nbox_facts HA0.out.b7
    obtain ⟨q0, q1, q2, q3⟩ := nbox_facts HA0.out.b8
    simp only at p0 p1 p2 p3 q0 q1 q2 q3
    have hc := uvar_bel tx (.slice ax tx.args.length cx) ⟨_, _, _, rfl⟩ V0
    rw [vx] at hc
    go_wp2_with fail
    refine hc.mono ?_
    rintro e V1 ⟨rfl, hb⟩
    have HA1 := hid (HA0.out.keep hb)
    clear hc hb
    clear p0 p1 p2 p3 q0 q1 q2 q3
    obtain ⟨p0, p1, p2, p3⟩ := nbox_facts HA1.out.b7
    obtain ⟨q0, q1, q2, q3⟩ := nbox_facts HA1.out.b8
    simp only at p0 p1 p2 p3 q0 q1 q2 q3
    go_wp2
    go_ret
    refine ⟨rfl, ?_, HA1.out.bel⟩
    have := HA1.out.gat
    rw [List.length_set] at this
    exact this

set_option maxRecDepth 100000 in
set_option maxHeartbeats 4000000 in
theorem join_vless (w0 : World) (base g bv b c : Nat) (ns : List Nd) (ν : Nv) (n : Nat) (W : World) (x y : Nat) (h : JPre w0 base g bv b c ns ν n W x y) (hx : x < ns.length) (hy : y < ns.length) (vx : uvar ns[x].t = true) (vy : uvar ns[y].t = true) (hlt : ns[y].t.v < ns[x].t.v) :
    Calls Try.prog 55 #[.pointer (some ⟨g, 0, none⟩), .int .i64 x, .int .i64 y] W fun e W' => JVar w0 base g bv b c ns ν n W y x hx e W' := by
  obtain ⟨ax, cx, hslx, l1, l2⟩ := (h.gat.args ns[x] (List.getElem_mem h.hx)).slice
  obtain ⟨ay, cy, hsly, l3, l4⟩ := (h.gat.args ns[y] (List.getElem_mem h.hy)).slice
  obtain ⟨b1, c1, e1, hbl, fx⟩ := h.gat.field h.hx
  cases e1
  obtain ⟨b2, c2, e2, _, fy⟩ := h.gat.field h.hy
  cases e2
  have g0 : W.cell? ⟨g, 0, none⟩ = some (.slice (some ⟨b, 0, none⟩) ns.length c) := by simp [World.cell?, h.gat.box]
  have HL : Hid (x < ns.length ∧ y < ns.length) := ⟨h.hx, h.hy⟩
  have H : Hid (JPre w0 base g bv b c ns ν n W x y) := h
  have HM := hid (JBx.make W ns[x] ns[y])
  obtain ⟨mx, hmx⟩ : ∃ m, ns[x] = m := ⟨_, rfl⟩
  obtain ⟨my, hmy⟩ : ∃ m, ns[y] = m := ⟨_, rfl⟩
  have HMX := hid hmx
  have HMY := hid hmy
  obtain ⟨tx, slx, f1, u1, o1, s1, d1⟩ := mx
  obtain ⟨ty, sly, f2, u2, o2, s2, d2⟩ := my
  rw [hmx] at fx hslx l1
  rw [hmy] at fy hsly l3
  rw [hmx, hmy] at HM
  simp only at hslx hsly l1 l3
  subst hslx hsly
  have x0 := fx 0 _ rfl
  have x1 := fx 1 _ rfl
  have x2 := fx 2 _ rfl
  have x3 := fx 3 _ rfl
  have x4 := fx 4 _ rfl
  have x5 := fx 5 _ rfl
  have x6 := fx 6 _ rfl
  have x7 := fx 7 _ rfl
  have y0 := fy 0 _ rfl
  have y1 := fy 1 _ rfl
  have y2 := fy 2 _ rfl
  have y3 := fy 3 _ rfl
  have y4 := fy 4 _ rfl
  have y5 := fy 5 _ rfl
  have y6 := fy 6 _ rfl
  have y7 := fy 7 _ rfl
  rw [Nat.add_zero] at x0 y0
  simp only at x0 x1 x2 x3 x4 x5 x6 x7 y0 y1 y2 y3 y4 y5 y6 y7
  have i0 : (0 : Int) ≤ (x : Int) := Int.natCast_nonneg x
  have i1 : (x : Int) < (ns.length : Int) := by have := h.hx; omega
  have i2 : (0 : Int) ≤ (y : Int) := Int.natCast_nonneg y
  have i3 : (y : Int) < (ns.length : Int) := by have := h.hy; omega
  rw [hmx] at vx
  rw [hmy] at vy
  simp only at vx vy
  rw [hmx, hmy] at hlt
  simp only at hlt
  clear h fx fy hmx hmy
  go_enter Try.func55, Try.ntmps55
  go_upto_region 1 with fail
  go_cut [7, 8] from 11 (fun v7 v8 wx => ∃ B7 B8 : Nat, v7 = .pointer (some ⟨B7, 0, none⟩) ∧ v8 = .pointer (some ⟨B8, 0, none⟩) ∧ Hid (JBx W wx ⟨tx, .slice ax tx.args.length cx, f1, u1, o1, s1, d1⟩ ⟨ty, .slice ay ty.args.length cy, f2, u2, o2, s2, d2⟩ B7 B8))
  case first =>
    have ng0 := World.new_ne W _ g0
    have nx0 := World.new_ne W _ x0
    have nx1 := World.new_ne W _ x1
    have nx2 := World.new_ne W _ x2
    have nx3 := World.new_ne W _ x3
    have nx4 := World.new_ne W _ x4
    have nx5 := World.new_ne W _ x5
    have nx6 := World.new_ne W _ x6
    have nx7 := World.new_ne W _ x7
    have ny0 := World.new_ne W _ y0
    have ny1 := World.new_ne W _ y1
    have ny2 := World.new_ne W _ y2
    have ny3 := World.new_ne W _ y3
    have ny4 := World.new_ne W _ y4
    have ny5 := World.new_ne W _ y5
    have ny6 := World.new_ne W _ y6
    have ny7 := World.new_ne W _ y7
    go_region_held3 (fun X => X.cell? ⟨g, 0, none⟩ = some (.slice (some ⟨b, 0, none⟩) ns.length c) ∧ X.cell? ⟨b, x * 8, none⟩ = some (.int .i64 tx.v) ∧ X.cell? ⟨b, x * 8 + 1, none⟩ = some (.string tx.fn) ∧ X.cell? ⟨b, x * 8 + 2, none⟩ = some (.slice ax tx.args.length cx) ∧ X.cell? ⟨b, x * 8 + 3, none⟩ = some (.int .i64 f1) ∧ X.cell? ⟨b, x * 8 + 4, none⟩ = some (.int .i64 u1) ∧ X.cell? ⟨b, x * 8 + 5, none⟩ = some (.bool o1) ∧ X.cell? ⟨b, x * 8 + 6, none⟩ = some (.int .i64 s1) ∧ X.cell? ⟨b, x * 8 + 7, none⟩ = some (.int .i64 d1) ∧ X.cell? ⟨b, y * 8, none⟩ = some (.int .i64 ty.v) ∧ X.cell? ⟨b, y * 8 + 1, none⟩ = some (.string ty.fn) ∧ X.cell? ⟨b, y * 8 + 2, none⟩ = some (.slice ay ty.args.length cy) ∧ X.cell? ⟨b, y * 8 + 3, none⟩ = some (.int .i64 f2) ∧ X.cell? ⟨b, y * 8 + 4, none⟩ = some (.int .i64 u2) ∧ X.cell? ⟨b, y * 8 + 5, none⟩ = some (.bool o2) ∧ X.cell? ⟨b, y * 8 + 6, none⟩ = some (.int .i64 s2) ∧ X.cell? ⟨b, y * 8 + 7, none⟩ = some (.int .i64 d2)) (go_keep) (fail)
    · go_wp2
      go_meet
      exact ⟨_, _, rfl, rfl, HM.out.1⟩
    · go_wp2
      go_meet
      exact ⟨_, _, rfl, rfl, HM.out.2⟩
  case rest =>
    obtain ⟨B7, B8, rfl, rfl, HJ0⟩ := hcut
    obtain ⟨W0, hW0⟩ : ∃ X, X = wc := ⟨_, rfl⟩
    rw [← hW0] at HJ0 ⊢
    clear hW0 x0 x1 x2 x3 x5 x6 x7 y0 y1 y2 y3 y5 y6 y7
    obtain ⟨p0, p1, p2, p3⟩ := nbox_facts HJ0.out.b7
    obtain ⟨q0, q1, q2, q3⟩ := nbox_facts HJ0.out.b8
    have g1 : W0.cell? ⟨g, 0, none⟩ = some (.slice (some ⟨b, 0, none⟩) ns.length c) := kc HJ0.out.bel (World.block_lt_of_cell? W _ g0) g0
    have x4' := kc HJ0.out.bel (World.block_lt_of_cell? W _ x4) x4
    have y4' := kc HJ0.out.bel (World.block_lt_of_cell? W _ y4) y4
    simp only at p0 p1 p2 p3 q0 q1 q2 q3
    have hc0 := uvar_bel tx (.slice ax tx.args.length cx) ⟨_, _, _, rfl⟩ W0
    rw [vx] at hc0
    go_wp2_with fail
    refine hc0.mono ?_
    rintro e W1 ⟨rfl, hb1⟩
    have HJ1 := hid (HJ0.out.keep hb1)
    clear hc0 hb1
    clear p0 p1 p2 p3 q0 q1 q2 q3 g1 x4' y4'
    obtain ⟨p0, p1, p2, p3⟩ := nbox_facts HJ1.out.b7
    obtain ⟨q0, q1, q2, q3⟩ := nbox_facts HJ1.out.b8
    have g1 : W1.cell? ⟨g, 0, none⟩ = some (.slice (some ⟨b, 0, none⟩) ns.length c) := kc HJ1.out.bel (World.block_lt_of_cell? W _ g0) g0
    have x4' := kc HJ1.out.bel (World.block_lt_of_cell? W _ x4) x4
    have y4' := kc HJ1.out.bel (World.block_lt_of_cell? W _ y4) y4
    simp only at p0 p1 p2 p3 q0 q1 q2 q3
    have hc1 := uvar_bel ty (.slice ay ty.args.length cy) ⟨_, _, _, rfl⟩ W1
    rw [vy] at hc1
    go_wp2_with fail
    refine hc1.mono ?_
    rintro e W2 ⟨rfl, hb2⟩
    have HJ2 := hid (HJ1.out.keep hb2)
    clear hc1 hb2
    clear p0 p1 p2 p3 q0 q1 q2 q3 g1 x4' y4'
    obtain ⟨p0, p1, p2, p3⟩ := nbox_facts HJ2.out.b7
    obtain ⟨q0, q1, q2, q3⟩ := nbox_facts HJ2.out.b8
    have g1 : W2.cell? ⟨g, 0, none⟩ = some (.slice (some ⟨b, 0, none⟩) ns.length c) := kc HJ2.out.bel (World.block_lt_of_cell? W _ g0) g0
    have x4' := kc HJ2.out.bel (World.block_lt_of_cell? W _ x4) x4
    have y4' := kc HJ2.out.bel (World.block_lt_of_cell? W _ y4) y4
    simp only at p0 p1 p2 p3 q0 q1 q2 q3
    have HA0 := hid (H.out.aft HJ2.out (X := y) hx)
    have fz := (H.out.gat.keep HJ2.out.bel).row.frozenAt (x * 8 + 4)
    go_upto_region 5 with fail
    obtain ⟨V0, hV0⟩ : ∃ V, W2.setCell ⟨b, x * 8 + 4, none⟩ (.int .i64 ((y : Nat) : Int)) = V := ⟨_, rfl⟩
    rw [hV0] at HA0 ⊢
    clear hV0
    clear p0 p1 p2 p3 q0 q1 q2 q3 g1 x4' y4' fz
    obtain ⟨p0, p1, p2, p3⟩ := nbox_facts HA0.out.b7
    obtain ⟨q0, q1, q2, q3⟩ := nbox_facts HA0.out.b8
    simp only at p0 p1 p2 p3 q0 q1 q2 q3
    have hc := uvar_bel tx (.slice ax tx.args.length cx) ⟨_, _, _, rfl⟩ V0
    rw [vx] at hc
    go_wp2_with fail
    refine hc.mono ?_
    rintro e V1 ⟨rfl, hb⟩
    have HA1 := hid (HA0.out.keep hb)
    clear hc hb
    clear p0 p1 p2 p3 q0 q1 q2 q3
    obtain ⟨p0, p1, p2, p3⟩ := nbox_facts HA1.out.b7
    obtain ⟨q0, q1, q2, q3⟩ := nbox_facts HA1.out.b8
    simp only at p0 p1 p2 p3 q0 q1 q2 q3
    go_wp2
    go_ret
    refine ⟨rfl, ?_, HA1.out.bel⟩
    have := HA1.out.gat
    rw [List.length_set] at this
    exact this

set_option maxRecDepth 100000 in
set_option maxHeartbeats 4000000 in
theorem join_vmore (w0 : World) (base g bv b c : Nat) (ns : List Nd) (ν : Nv) (n : Nat) (W : World) (x y : Nat) (h : JPre w0 base g bv b c ns ν n W x y) (hx : x < ns.length) (hy : y < ns.length) (vx : uvar ns[x].t = true) (vy : uvar ns[y].t = true) (hlt : ¬ ns[y].t.v < ns[x].t.v) :
    Calls Try.prog 55 #[.pointer (some ⟨g, 0, none⟩), .int .i64 x, .int .i64 y] W fun e W' => JVar w0 base g bv b c ns ν n W x y hy e W' := by
  obtain ⟨ax, cx, hslx, l1, l2⟩ := (h.gat.args ns[x] (List.getElem_mem h.hx)).slice
  obtain ⟨ay, cy, hsly, l3, l4⟩ := (h.gat.args ns[y] (List.getElem_mem h.hy)).slice
  obtain ⟨b1, c1, e1, hbl, fx⟩ := h.gat.field h.hx
  cases e1
  obtain ⟨b2, c2, e2, _, fy⟩ := h.gat.field h.hy
  cases e2
  have g0 : W.cell? ⟨g, 0, none⟩ = some (.slice (some ⟨b, 0, none⟩) ns.length c) := by simp [World.cell?, h.gat.box]
  have HL : Hid (x < ns.length ∧ y < ns.length) := ⟨h.hx, h.hy⟩
  have H : Hid (JPre w0 base g bv b c ns ν n W x y) := h
  have HM := hid (JBx.make W ns[x] ns[y])
  obtain ⟨mx, hmx⟩ : ∃ m, ns[x] = m := ⟨_, rfl⟩
  obtain ⟨my, hmy⟩ : ∃ m, ns[y] = m := ⟨_, rfl⟩
  have HMX := hid hmx
  have HMY := hid hmy
  obtain ⟨tx, slx, f1, u1, o1, s1, d1⟩ := mx
  obtain ⟨ty, sly, f2, u2, o2, s2, d2⟩ := my
  rw [hmx] at fx hslx l1
  rw [hmy] at fy hsly l3
  rw [hmx, hmy] at HM
  simp only at hslx hsly l1 l3
  subst hslx hsly
  have x0 := fx 0 _ rfl
  have x1 := fx 1 _ rfl
  have x2 := fx 2 _ rfl
  have x3 := fx 3 _ rfl
  have x4 := fx 4 _ rfl
  have x5 := fx 5 _ rfl
  have x6 := fx 6 _ rfl
  have x7 := fx 7 _ rfl
  have y0 := fy 0 _ rfl
  have y1 := fy 1 _ rfl
  have y2 := fy 2 _ rfl
  have y3 := fy 3 _ rfl
  have y4 := fy 4 _ rfl
  have y5 := fy 5 _ rfl
  have y6 := fy 6 _ rfl
  have y7 := fy 7 _ rfl
  rw [Nat.add_zero] at x0 y0
  simp only at x0 x1 x2 x3 x4 x5 x6 x7 y0 y1 y2 y3 y4 y5 y6 y7
  have i0 : (0 : Int) ≤ (x : Int) := Int.natCast_nonneg x
  have i1 : (x : Int) < (ns.length : Int) := by have := h.hx; omega
  have i2 : (0 : Int) ≤ (y : Int) := Int.natCast_nonneg y
  have i3 : (y : Int) < (ns.length : Int) := by have := h.hy; omega
  rw [hmx] at vx
  rw [hmy] at vy
  simp only at vx vy
  rw [hmx, hmy] at hlt
  simp only at hlt
  clear h fx fy hmx hmy
  go_enter Try.func55, Try.ntmps55
  go_upto_region 1 with fail
  go_cut [7, 8] from 11 (fun v7 v8 wx => ∃ B7 B8 : Nat, v7 = .pointer (some ⟨B7, 0, none⟩) ∧ v8 = .pointer (some ⟨B8, 0, none⟩) ∧ Hid (JBx W wx ⟨tx, .slice ax tx.args.length cx, f1, u1, o1, s1, d1⟩ ⟨ty, .slice ay ty.args.length cy, f2, u2, o2, s2, d2⟩ B7 B8))
  case first =>
    have ng0 := World.new_ne W _ g0
    have nx0 := World.new_ne W _ x0
    have nx1 := World.new_ne W _ x1
    have nx2 := World.new_ne W _ x2
    have nx3 := World.new_ne W _ x3
    have nx4 := World.new_ne W _ x4
    have nx5 := World.new_ne W _ x5
    have nx6 := World.new_ne W _ x6
    have nx7 := World.new_ne W _ x7
    have ny0 := World.new_ne W _ y0
    have ny1 := World.new_ne W _ y1
    have ny2 := World.new_ne W _ y2
    have ny3 := World.new_ne W _ y3
    have ny4 := World.new_ne W _ y4
    have ny5 := World.new_ne W _ y5
    have ny6 := World.new_ne W _ y6
    have ny7 := World.new_ne W _ y7
    go_region_held3 (fun X => X.cell? ⟨g, 0, none⟩ = some (.slice (some ⟨b, 0, none⟩) ns.length c) ∧ X.cell? ⟨b, x * 8, none⟩ = some (.int .i64 tx.v) ∧ X.cell? ⟨b, x * 8 + 1, none⟩ = some (.string tx.fn) ∧ X.cell? ⟨b, x * 8 + 2, none⟩ = some (.slice ax tx.args.length cx) ∧ X.cell? ⟨b, x * 8 + 3, none⟩ = some (.int .i64 f1) ∧ X.cell? ⟨b, x * 8 + 4, none⟩ = some (.int .i64 u1) ∧ X.cell? ⟨b, x * 8 + 5, none⟩ = some (.bool o1) ∧ X.cell? ⟨b, x * 8 + 6, none⟩ = some (.int .i64 s1) ∧ X.cell? ⟨b, x * 8 + 7, none⟩ = some (.int .i64 d1) ∧ X.cell? ⟨b, y * 8, none⟩ = some (.int .i64 ty.v) ∧ X.cell? ⟨b, y * 8 + 1, none⟩ = some (.string ty.fn) ∧ X.cell? ⟨b, y * 8 + 2, none⟩ = some (.slice ay ty.args.length cy) ∧ X.cell? ⟨b, y * 8 + 3, none⟩ = some (.int .i64 f2) ∧ X.cell? ⟨b, y * 8 + 4, none⟩ = some (.int .i64 u2) ∧ X.cell? ⟨b, y * 8 + 5, none⟩ = some (.bool o2) ∧ X.cell? ⟨b, y * 8 + 6, none⟩ = some (.int .i64 s2) ∧ X.cell? ⟨b, y * 8 + 7, none⟩ = some (.int .i64 d2)) (go_keep) (fail)
    · go_wp2
      go_meet
      exact ⟨_, _, rfl, rfl, HM.out.1⟩
    · go_wp2
      go_meet
      exact ⟨_, _, rfl, rfl, HM.out.2⟩
  case rest =>
    obtain ⟨B7, B8, rfl, rfl, HJ0⟩ := hcut
    obtain ⟨W0, hW0⟩ : ∃ X, X = wc := ⟨_, rfl⟩
    rw [← hW0] at HJ0 ⊢
    clear hW0 x0 x1 x2 x3 x5 x6 x7 y0 y1 y2 y3 y5 y6 y7
    obtain ⟨p0, p1, p2, p3⟩ := nbox_facts HJ0.out.b7
    obtain ⟨q0, q1, q2, q3⟩ := nbox_facts HJ0.out.b8
    have g1 : W0.cell? ⟨g, 0, none⟩ = some (.slice (some ⟨b, 0, none⟩) ns.length c) := kc HJ0.out.bel (World.block_lt_of_cell? W _ g0) g0
    have x4' := kc HJ0.out.bel (World.block_lt_of_cell? W _ x4) x4
    have y4' := kc HJ0.out.bel (World.block_lt_of_cell? W _ y4) y4
    simp only at p0 p1 p2 p3 q0 q1 q2 q3
    have hc0 := uvar_bel tx (.slice ax tx.args.length cx) ⟨_, _, _, rfl⟩ W0
    rw [vx] at hc0
    go_wp2_with fail
    refine hc0.mono ?_
    rintro e W1 ⟨rfl, hb1⟩
    have HJ1 := hid (HJ0.out.keep hb1)
    clear hc0 hb1
    clear p0 p1 p2 p3 q0 q1 q2 q3 g1 x4' y4'
    obtain ⟨p0, p1, p2, p3⟩ := nbox_facts HJ1.out.b7
    obtain ⟨q0, q1, q2, q3⟩ := nbox_facts HJ1.out.b8
    have g1 : W1.cell? ⟨g, 0, none⟩ = some (.slice (some ⟨b, 0, none⟩) ns.length c) := kc HJ1.out.bel (World.block_lt_of_cell? W _ g0) g0
    have x4' := kc HJ1.out.bel (World.block_lt_of_cell? W _ x4) x4
    have y4' := kc HJ1.out.bel (World.block_lt_of_cell? W _ y4) y4
    simp only at p0 p1 p2 p3 q0 q1 q2 q3
    have hc1 := uvar_bel ty (.slice ay ty.args.length cy) ⟨_, _, _, rfl⟩ W1
    rw [vy] at hc1
    go_wp2_with fail
    refine hc1.mono ?_
    rintro e W2 ⟨rfl, hb2⟩
    have HJ2 := hid (HJ1.out.keep hb2)
    clear hc1 hb2
    clear p0 p1 p2 p3 q0 q1 q2 q3 g1 x4' y4'
    obtain ⟨p0, p1, p2, p3⟩ := nbox_facts HJ2.out.b7
    obtain ⟨q0, q1, q2, q3⟩ := nbox_facts HJ2.out.b8
    have g1 : W2.cell? ⟨g, 0, none⟩ = some (.slice (some ⟨b, 0, none⟩) ns.length c) := kc HJ2.out.bel (World.block_lt_of_cell? W _ g0) g0
    have x4' := kc HJ2.out.bel (World.block_lt_of_cell? W _ x4) x4
    have y4' := kc HJ2.out.bel (World.block_lt_of_cell? W _ y4) y4
    simp only at p0 p1 p2 p3 q0 q1 q2 q3
    have HA0 := hid (H.out.aft HJ2.out (X := x) hy)
    have fz := (H.out.gat.keep HJ2.out.bel).row.frozenAt (y * 8 + 4)
    go_upto_region 5 with fail
    obtain ⟨V0, hV0⟩ : ∃ V, W2.setCell ⟨b, y * 8 + 4, none⟩ (.int .i64 ((x : Nat) : Int)) = V := ⟨_, rfl⟩
    rw [hV0] at HA0 ⊢
    clear hV0
    clear p0 p1 p2 p3 q0 q1 q2 q3 g1 x4' y4' fz
    obtain ⟨p0, p1, p2, p3⟩ := nbox_facts HA0.out.b7
    obtain ⟨q0, q1, q2, q3⟩ := nbox_facts HA0.out.b8
    simp only at p0 p1 p2 p3 q0 q1 q2 q3
    have hc := uvar_bel tx (.slice ax tx.args.length cx) ⟨_, _, _, rfl⟩ V0
    rw [vx] at hc
    go_wp2_with fail
    refine hc.mono ?_
    rintro e V1 ⟨rfl, hb⟩
    have HA1 := hid (HA0.out.keep hb)
    clear hc hb
    clear p0 p1 p2 p3 q0 q1 q2 q3
    obtain ⟨p0, p1, p2, p3⟩ := nbox_facts HA1.out.b7
    obtain ⟨q0, q1, q2, q3⟩ := nbox_facts HA1.out.b8
    simp only at p0 p1 p2 p3 q0 q1 q2 q3
    go_wp2
    go_ret
    refine ⟨rfl, ?_, HA1.out.bel⟩
    have := HA1.out.gat
    rw [List.length_set] at this
    exact this

set_option maxRecDepth 100000 in
set_option maxHeartbeats 4000000 in
theorem join_fv (w0 : World) (base g bv b c : Nat) (ns : List Nd) (ν : Nv) (n : Nat) (W : World) (x y : Nat) (h : JPre w0 base g bv b c ns ν n W x y) (hx : x < ns.length) (hy : y < ns.length) (vx : uvar ns[x].t = false) (vy : uvar ns[y].t = true) :
    Calls Try.prog 55 #[.pointer (some ⟨g, 0, none⟩), .int .i64 x, .int .i64 y] W fun e W' => JVar w0 base g bv b c ns ν n W x y hy e W' := by
  obtain ⟨ax, cx, hslx, l1, l2⟩ := (h.gat.args ns[x] (List.getElem_mem h.hx)).slice
  obtain ⟨ay, cy, hsly, l3, l4⟩ := (h.gat.args ns[y] (List.getElem_mem h.hy)).slice
  obtain ⟨b1, c1, e1, hbl, fx⟩ := h.gat.field h.hx
  cases e1
  obtain ⟨b2, c2, e2, _, fy⟩ := h.gat.field h.hy
  cases e2
  have g0 : W.cell? ⟨g, 0, none⟩ = some (.slice (some ⟨b, 0, none⟩) ns.length c) := by simp [World.cell?, h.gat.box]
  have HL : Hid (x < ns.length ∧ y < ns.length) := ⟨h.hx, h.hy⟩
  have H : Hid (JPre w0 base g bv b c ns ν n W x y) := h
  have HM := hid (JBx.make W ns[x] ns[y])
  obtain ⟨mx, hmx⟩ : ∃ m, ns[x] = m := ⟨_, rfl⟩
  obtain ⟨my, hmy⟩ : ∃ m, ns[y] = m := ⟨_, rfl⟩
  have HMX := hid hmx
  have HMY := hid hmy
  obtain ⟨tx, slx, f1, u1, o1, s1, d1⟩ := mx
  obtain ⟨ty, sly, f2, u2, o2, s2, d2⟩ := my
  rw [hmx] at fx hslx l1
  rw [hmy] at fy hsly l3
  rw [hmx, hmy] at HM
  simp only at hslx hsly l1 l3
  subst hslx hsly
  have x0 := fx 0 _ rfl
  have x1 := fx 1 _ rfl
  have x2 := fx 2 _ rfl
  have x3 := fx 3 _ rfl
  have x4 := fx 4 _ rfl
  have x5 := fx 5 _ rfl
  have x6 := fx 6 _ rfl
  have x7 := fx 7 _ rfl
  have y0 := fy 0 _ rfl
  have y1 := fy 1 _ rfl
  have y2 := fy 2 _ rfl
  have y3 := fy 3 _ rfl
  have y4 := fy 4 _ rfl
  have y5 := fy 5 _ rfl
  have y6 := fy 6 _ rfl
  have y7 := fy 7 _ rfl
  rw [Nat.add_zero] at x0 y0
  simp only at x0 x1 x2 x3 x4 x5 x6 x7 y0 y1 y2 y3 y4 y5 y6 y7
  have i0 : (0 : Int) ≤ (x : Int) := Int.natCast_nonneg x
  have i1 : (x : Int) < (ns.length : Int) := by have := h.hx; omega
  have i2 : (0 : Int) ≤ (y : Int) := Int.natCast_nonneg y
  have i3 : (y : Int) < (ns.length : Int) := by have := h.hy; omega
  rw [hmx] at vx
  rw [hmy] at vy
  simp only at vx vy
  clear h fx fy hmx hmy
  go_enter Try.func55, Try.ntmps55
  go_upto_region 1 with fail
  go_cut [7, 8] from 11 (fun v7 v8 wx => ∃ B7 B8 : Nat, v7 = .pointer (some ⟨B7, 0, none⟩) ∧ v8 = .pointer (some ⟨B8, 0, none⟩) ∧ Hid (JBx W wx ⟨tx, .slice ax tx.args.length cx, f1, u1, o1, s1, d1⟩ ⟨ty, .slice ay ty.args.length cy, f2, u2, o2, s2, d2⟩ B7 B8))
  case first =>
    have ng0 := World.new_ne W _ g0
    have nx0 := World.new_ne W _ x0
    have nx1 := World.new_ne W _ x1
    have nx2 := World.new_ne W _ x2
    have nx3 := World.new_ne W _ x3
    have nx4 := World.new_ne W _ x4
    have nx5 := World.new_ne W _ x5
    have nx6 := World.new_ne W _ x6
    have nx7 := World.new_ne W _ x7
    have ny0 := World.new_ne W _ y0
    have ny1 := World.new_ne W _ y1
    have ny2 := World.new_ne W _ y2
    have ny3 := World.new_ne W _ y3
    have ny4 := World.new_ne W _ y4
    have ny5 := World.new_ne W _ y5
    have ny6 := World.new_ne W _ y6
    have ny7 := World.new_ne W _ y7
    go_region_held3 (fun X => X.cell? ⟨g, 0, none⟩ = some (.slice (some ⟨b, 0, none⟩) ns.length c) ∧ X.cell? ⟨b, x * 8, none⟩ = some (.int .i64 tx.v) ∧ X.cell? ⟨b, x * 8 + 1, none⟩ = some (.string tx.fn) ∧ X.cell? ⟨b, x * 8 + 2, none⟩ = some (.slice ax tx.args.length cx) ∧ X.cell? ⟨b, x * 8 + 3, none⟩ = some (.int .i64 f1) ∧ X.cell? ⟨b, x * 8 + 4, none⟩ = some (.int .i64 u1) ∧ X.cell? ⟨b, x * 8 + 5, none⟩ = some (.bool o1) ∧ X.cell? ⟨b, x * 8 + 6, none⟩ = some (.int .i64 s1) ∧ X.cell? ⟨b, x * 8 + 7, none⟩ = some (.int .i64 d1) ∧ X.cell? ⟨b, y * 8, none⟩ = some (.int .i64 ty.v) ∧ X.cell? ⟨b, y * 8 + 1, none⟩ = some (.string ty.fn) ∧ X.cell? ⟨b, y * 8 + 2, none⟩ = some (.slice ay ty.args.length cy) ∧ X.cell? ⟨b, y * 8 + 3, none⟩ = some (.int .i64 f2) ∧ X.cell? ⟨b, y * 8 + 4, none⟩ = some (.int .i64 u2) ∧ X.cell? ⟨b, y * 8 + 5, none⟩ = some (.bool o2) ∧ X.cell? ⟨b, y * 8 + 6, none⟩ = some (.int .i64 s2) ∧ X.cell? ⟨b, y * 8 + 7, none⟩ = some (.int .i64 d2)) (go_keep) (fail)
    · go_wp2
      go_meet
      exact ⟨_, _, rfl, rfl, HM.out.1⟩
    · go_wp2
      go_meet
      exact ⟨_, _, rfl, rfl, HM.out.2⟩
  case rest =>
    obtain ⟨B7, B8, rfl, rfl, HJ0⟩ := hcut
    obtain ⟨W0, hW0⟩ : ∃ X, X = wc := ⟨_, rfl⟩
    rw [← hW0] at HJ0 ⊢
    clear hW0 x0 x1 x2 x3 x5 x6 x7 y0 y1 y2 y3 y5 y6 y7
    obtain ⟨p0, p1, p2, p3⟩ := nbox_facts HJ0.out.b7
    obtain ⟨q0, q1, q2, q3⟩ := nbox_facts HJ0.out.b8
    have g1 : W0.cell? ⟨g, 0, none⟩ = some (.slice (some ⟨b, 0, none⟩) ns.length c) := kc HJ0.out.bel (World.block_lt_of_cell? W _ g0) g0
    have x4' := kc HJ0.out.bel (World.block_lt_of_cell? W _ x4) x4
    have y4' := kc HJ0.out.bel (World.block_lt_of_cell? W _ y4) y4
    simp only at p0 p1 p2 p3 q0 q1 q2 q3
    have hc0 := uvar_bel tx (.slice ax tx.args.length cx) ⟨_, _, _, rfl⟩ W0
    rw [vx] at hc0
    go_wp2_with fail
    refine hc0.mono ?_
    rintro e W1 ⟨rfl, hb1⟩
    have HJ1 := hid (HJ0.out.keep hb1)
    clear hc0 hb1
    clear p0 p1 p2 p3 q0 q1 q2 q3 g1 x4' y4'
    obtain ⟨p0, p1, p2, p3⟩ := nbox_facts HJ1.out.b7
    obtain ⟨q0, q1, q2, q3⟩ := nbox_facts HJ1.out.b8
    have g1 : W1.cell? ⟨g, 0, none⟩ = some (.slice (some ⟨b, 0, none⟩) ns.length c) := kc HJ1.out.bel (World.block_lt_of_cell? W _ g0) g0
    have x4' := kc HJ1.out.bel (World.block_lt_of_cell? W _ x4) x4
    have y4' := kc HJ1.out.bel (World.block_lt_of_cell? W _ y4) y4
    simp only at p0 p1 p2 p3 q0 q1 q2 q3
    have HA0 := hid (H.out.aft HJ1.out (X := x) hy)
    have fz := (H.out.gat.keep HJ1.out.bel).row.frozenAt (y * 8 + 4)
    go_upto_region 5 with fail
    obtain ⟨V0, hV0⟩ : ∃ V, W1.setCell ⟨b, y * 8 + 4, none⟩ (.int .i64 ((x : Nat) : Int)) = V := ⟨_, rfl⟩
    rw [hV0] at HA0 ⊢
    clear hV0
    clear p0 p1 p2 p3 q0 q1 q2 q3 g1 x4' y4' fz
    obtain ⟨p0, p1, p2, p3⟩ := nbox_facts HA0.out.b7
    obtain ⟨q0, q1, q2, q3⟩ := nbox_facts HA0.out.b8
    simp only at p0 p1 p2 p3 q0 q1 q2 q3
    have hc := uvar_bel tx (.slice ax tx.args.length cx) ⟨_, _, _, rfl⟩ V0
    rw [vx] at hc
    go_wp2_with fail
    refine hc.mono ?_
    rintro e V1 ⟨rfl, hb⟩
    have HA1 := hid (HA0.out.keep hb)
    clear hc hb
    clear p0 p1 p2 p3 q0 q1 q2 q3
    obtain ⟨p0, p1, p2, p3⟩ := nbox_facts HA1.out.b7
    obtain ⟨q0, q1, q2, q3⟩ := nbox_facts HA1.out.b8
    simp only at p0 p1 p2 p3 q0 q1 q2 q3
    have hc := uvar_bel ty (.slice ay ty.args.length cy) ⟨_, _, _, rfl⟩ V1
    rw [vy] at hc
    go_wp2_with fail
    refine hc.mono ?_
    rintro e V2 ⟨rfl, hb⟩
    have HA2 := hid (HA1.out.keep hb)
    clear hc hb
    clear p0 p1 p2 p3 q0 q1 q2 q3
    obtain ⟨p0, p1, p2, p3⟩ := nbox_facts HA2.out.b7
    obtain ⟨q0, q1, q2, q3⟩ := nbox_facts HA2.out.b8
    simp only at p0 p1 p2 p3 q0 q1 q2 q3
    go_wp2
    go_ret
    refine ⟨rfl, ?_, HA2.out.bel⟩
    have := HA2.out.gat
    rw [List.length_set] at this
    exact this

end Go.Proofs.Ytblfbmdnkgebdaa
