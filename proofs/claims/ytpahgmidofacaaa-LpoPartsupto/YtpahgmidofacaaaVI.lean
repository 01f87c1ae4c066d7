/-
  LpoThrough: the law's walk.
-/
import Derived.Test.YtpahgmidofacaaaVH
namespace Go.Proofs.Ytpahgmidofacaaa
open Go.RowKit Go.Maps

theorem lcmp_turn (g : Sg) (x y : T) : (lcmp g x y = 2 ∧ lcmp g y x = 2) ∨ (lcmp g x y ≠ 2 ∧ lcmp g y x = - lcmp g x y) := by
  unfold lcmp
  by_cases h : g.Ok ∧ x.rightW = 0 ∧ y.rightW = 0
  · rw [if_pos h, if_pos ⟨h.1, h.2.2, h.2.1⟩]
    exact pcmp_turn g x y
  · rw [if_neg h, if_neg (fun k => h ⟨k.1, k.2.2, k.2.1⟩)]
    exact .inl ⟨rfl, rfl⟩
theorem lcmp_one {g : Sg} {x y : T} (h : lcmp g x y = 1) : g.Ok ∧ x.rightW = 0 ∧ y.rightW = 0 ∧ lg g x y := by
  unfold lcmp at h
  by_cases k : g.Ok ∧ x.rightW = 0 ∧ y.rightW = 0
  · rw [if_pos k] at h
    exact ⟨k.1, k.2.1, k.2.2, pcmp_gr.1 h⟩
  · rw [if_neg k] at h
    omega
theorem lcmp_mk {g : Sg} {x y : T} (h1 : g.Ok) (h2 : x.rightW = 0) (h3 : y.rightW = 0) (h : lg g x y) : lcmp g x y = 1 := by
  unfold lcmp
  rw [if_pos ⟨h1, h2, h3⟩]
  exact pcmp_gr.2 h
theorem lcmp_trans {g : Sg} {x y z : T} (h : lcmp g x y = 1) (k : lcmp g y z = 1) : lcmp g x z = 1 := by
  obtain ⟨h1, h2, h3, h4⟩ := lcmp_one h
  obtain ⟨_, _, k3, k4⟩ := lcmp_one k
  exact lcmp_mk h1 h2 k3 (lg_trans h4 k4)
theorem lcmp_rng (g : Sg) (x y : T) : lcmp g x y = 0 ∨ lcmp g x y = 1 ∨ lcmp g x y = -1 ∨ lcmp g x y = 2 := by
  unfold lcmp
  split
  · exact pcmp_rng g x y
  · omega

/-- Three terms in a row. -/
theorem args_three (W : World) (x y z : T) (sx sy sz : Value) (hx : ArgsAt W sx x.args) (hy : ArgsAt W sy y.args) (hz : ArgsAt W sz z.args) :
    ArgsAt (W.alloc (.cells #[.int .i64 x.v, .string x.fn, sx, .int .i64 y.v, .string y.fn, sy, .int .i64 z.v, .string z.fn, sz] 28)) (.slice (some ⟨W.heap.size, 0, none⟩) 3 3) [x, y, z] := by
  have hb := below_box W (.cells #[.int .i64 x.v, .string x.fn, sx, .int .i64 y.v, .string y.fn, sy, .int .i64 z.v, .string z.fn, sz] 28)
  have hc := (MapKept.heap_alloc W (.cells #[.int .i64 x.v, .string x.fn, sx, .int .i64 y.v, .string y.fn, sy, .int .i64 z.v, .string z.fn, sz] 28)).1
  generalize W.alloc (.cells #[.int .i64 x.v, .string x.fn, sx, .int .i64 y.v, .string y.fn, sy, .int .i64 z.v, .string z.fn, sz] 28) = W' at *
  refine ArgsAt.mk (some ⟨W.heap.size, 0, none⟩) 3 [x, y, z] (fun i => if i = 0 then sx else if i = 1 then sy else sz) (by simp) (by omega) (fun _ => ⟨W.heap.size, 0, (Array.getElem?_eq_some_iff.1 hc).1, rfl, fun i hi => ?_⟩) (fun i hi => ?_)
  · have : i = 0 ∨ i = 1 ∨ i = 2 := by simp at hi; omega
    rcases this with rfl | rfl | rfl <;> simp [World.cell?, hc]
  · have : i = 0 ∨ i = 1 ∨ i = 2 := by simp at hi; omega
    rcases this with rfl | rfl | rfl
    · exact ArgsAt.keep hb (Nat.le_refl _) hx
    · exact ArgsAt.keep hb (Nat.le_refl _) hy
    · exact ArgsAt.keep hb (Nat.le_refl _) hz

/-- The boxes of LpoThrough, in a world behind. -/
structure Quad (w : World) (q : Nat) (vn vw : Value) (x : T) (sx : Value) (y : T) (sy : Value) (z : T) (sz : Value) (X : World) : Prop where
  g0 : X.cell? ⟨q, 0, none⟩ = some vn
  g1 : X.cell? ⟨q, 1, none⟩ = some vw
  a0 : X.cell? ⟨w.heap.size + 1, 0, none⟩ = some (.int .i64 x.v)
  a1 : X.cell? ⟨w.heap.size + 1, 1, none⟩ = some (.string x.fn)
  a2 : X.cell? ⟨w.heap.size + 1, 2, none⟩ = some sx
  b0 : X.cell? ⟨w.heap.size + 1 + 1, 0, none⟩ = some (.int .i64 y.v)
  b1 : X.cell? ⟨w.heap.size + 1 + 1, 1, none⟩ = some (.string y.fn)
  b2 : X.cell? ⟨w.heap.size + 1 + 1, 2, none⟩ = some sy
  c0 : X.cell? ⟨w.heap.size + 1 + 1 + 1, 0, none⟩ = some (.int .i64 z.v)
  c1 : X.cell? ⟨w.heap.size + 1 + 1 + 1, 1, none⟩ = some (.string z.fn)
  c2 : X.cell? ⟨w.heap.size + 1 + 1 + 1, 2, none⟩ = some sz
  bel : Below w.heap.size w X
  siz : w.heap.size + 4 ≤ X.heap.size ∧ q < X.heap.size
section
variable {w : World} {q : Nat} {vn vw : Value} {x : T} {sx : Value} {y : T} {sy : Value} {z : T} {sz : Value} {X X' : World}
theorem Quad.keep (h : Quad w q vn vw x sx y sy z sz X) (hb : Below X.heap.size X X') : Quad w q vn vw x sx y sy z sz X' := by
  obtain ⟨hs, hq⟩ := h.siz
  have := hb.size
  exact ⟨kc hb hq h.g0, kc hb hq h.g1, kc hb (by omega) h.a0, kc hb (by omega) h.a1, kc hb (by omega) h.a2, kc hb (by omega) h.b0, kc hb (by omega) h.b1, kc hb (by omega) h.b2, kc hb (by omega) h.c0, kc hb (by omega) h.c1, kc hb (by omega) h.c2, h.bel.trans (hb.mono h.bel.size), by omega, by omega⟩
/-- The own signature's box is laid. -/
theorem Quad.own (h : Quad w q vn vw x sx y sy z sz X) (ty : TypeId) : Quad w X.heap.size vn vw x sx y sy z sz (X.alloc (.cells #[vn, vw] ty)) := by
  have k := h.keep (below_box X (.cells #[vn, vw] ty))
  obtain ⟨c0, c1⟩ := box2_cells X vn vw ty
  exact ⟨c0, c1, k.a0, k.a1, k.a2, k.b0, k.b1, k.b2, k.c0, k.c1, k.c2, k.bel, k.siz.1, by simp⟩
end
theorem quad_made (w : World) (vn vw : Value) (ty : TypeId) (x : T) (sx : Value) (y : T) (sy : Value) (z : T) (sz : Value) : Quad w w.heap.size vn vw x sx y sy z sz ((((w.alloc (.cells #[vn, vw] ty)).alloc (tbox x sx)).alloc (tbox y sy)).alloc (tbox z sz)) := by
  have h := tri_made w vn vw ty x sx y sy
  have hb := below_box (((w.alloc (.cells #[vn, vw] ty)).alloc (tbox x sx)).alloc (tbox y sy)) (tbox z sz)
  have k := h.keep hb
  obtain ⟨t0, t1, t2⟩ := tbox_cells (((w.alloc (.cells #[vn, vw] ty)).alloc (tbox x sx)).alloc (tbox y sy)) z sz
  simp only [World.size_alloc] at t0 t1 t2
  exact ⟨k.g0, k.g1, k.a0, k.a1, k.a2, k.b0, k.b1, k.b2, t0, t1, t2, k.bel, by simp, by have := k.siz; omega⟩

set_option maxRecDepth 100000 in
set_option maxHeartbeats 8000000 in
theorem through_any (g : Sg) (x y z : T) (vn vw sx sy sz : Value) (w : World) (hg : SgAt w g vn vw) (hax : ArgsAt w sx x.args) (hay : ArgsAt w sy y.args) (haz : ArgsAt w sz z.args) (hzx : x.size ≤ 1048576) (hzy : y.size ≤ 1048576) (hzz : z.size ≤ 1048576) :
    Calls Try.prog 4 #[gval vn vw, tval x sx, tval y sy, tval z sz] w fun e w' => e = .returned (.bool true) ∧ Below w.heap.size w w' := by
  obtain ⟨an, cn, rfl, _, _⟩ := hg.ns.slice
  obtain ⟨aw, cw, rfl, _, _⟩ := hg.ws.slice
  obtain ⟨a, ca, rfl, _, _⟩ := hax.slice
  obtain ⟨b, cb, rfl, _, _⟩ := hay.slice
  obtain ⟨d, cd, rfl, _, _⟩ := haz.slice
  have hT := quad_made w (.slice an g.ns.length cn) (.slice aw g.ws.length cw) 25 x (.slice a x.args.length ca) y (.slice b y.args.length cb) z (.slice d z.args.length cd)
  have hC : ∀ q X, Quad w q (.slice an g.ns.length cn) (.slice aw g.ws.length cw) x (.slice a x.args.length ca) y (.slice b y.args.length cb) z (.slice d z.args.length cd) X → (X.cell? ⟨q, 0, none⟩ = some (.slice an g.ns.length cn) ∧ X.cell? ⟨q, 1, none⟩ = some (.slice aw g.ws.length cw)) ∧ (X.cell? ⟨w.heap.size + 1, 0, none⟩ = some (.int .i64 x.v) ∧ X.cell? ⟨w.heap.size + 1, 1, none⟩ = some (.string x.fn) ∧ X.cell? ⟨w.heap.size + 1, 2, none⟩ = some (.slice a x.args.length ca)) ∧ (X.cell? ⟨w.heap.size + 1 + 1, 0, none⟩ = some (.int .i64 y.v) ∧ X.cell? ⟨w.heap.size + 1 + 1, 1, none⟩ = some (.string y.fn) ∧ X.cell? ⟨w.heap.size + 1 + 1, 2, none⟩ = some (.slice b y.args.length cb)) ∧ (X.cell? ⟨w.heap.size + 1 + 1 + 1, 0, none⟩ = some (.int .i64 z.v) ∧ X.cell? ⟨w.heap.size + 1 + 1 + 1, 1, none⟩ = some (.string z.fn) ∧ X.cell? ⟨w.heap.size + 1 + 1 + 1, 2, none⟩ = some (.slice d z.args.length cd)) := fun q X h => ⟨⟨h.g0, h.g1⟩, ⟨h.a0, h.a1, h.a2⟩, ⟨h.b0, h.b1, h.b2⟩, h.c0, h.c1, h.c2⟩
  have h9 : ∀ q X, Quad w q (.slice an g.ns.length cn) (.slice aw g.ws.length cw) x (.slice a x.args.length ca) y (.slice b y.args.length cb) z (.slice d z.args.length cd) X → Calls Try.prog 11 #[.agg #[.slice an g.ns.length cn, .slice aw g.ws.length cw]] X fun e X' => e = .returned (.agg #[.slice an g.ns.length cn, .slice aw g.ws.length cw]) ∧ Quad w X'.heap.size (.slice an g.ns.length cn) (.slice aw g.ws.length cw) x (.slice a x.args.length ca) y (.slice b y.args.length cb) z (.slice d z.args.length cd) (X'.alloc (.cells #[.slice an g.ns.length cn, .slice aw g.ws.length cw] 32)) := fun q X hX => (own_any _ _ ⟨_, _, _, rfl⟩ ⟨_, _, _, rfl⟩ X).mono fun e X' ⟨h1, h2⟩ => ⟨h1, (hX.keep h2).own 32⟩
  have h8 : ∀ q X n, Quad w q (.slice an g.ns.length cn) (.slice aw g.ws.length cw) x (.slice a x.args.length ca) y (.slice b y.args.length cb) z (.slice d z.args.length cd) X → X.heap.size = n → Calls Try.prog 8 #[.slice (some ⟨n, 0, none⟩) 3 3] (X.alloc (.cells #[.int .i64 x.v, .string x.fn, .slice a x.args.length ca, .int .i64 y.v, .string y.fn, .slice b y.args.length cb, .int .i64 z.v, .string z.fn, .slice d z.args.length cd] 28)) fun e X' => e = .returned (.bool (smallB [x, y, z])) ∧ Quad w q (.slice an g.ns.length cn) (.slice aw g.ws.length cw) x (.slice a x.args.length ca) y (.slice b y.args.length cb) z (.slice d z.args.length cd) X' := fun q X n hX hn => by
    subst hn
    have hX' := hX.keep (below_box X (.cells #[.int .i64 x.v, .string x.fn, .slice a x.args.length ca, .int .i64 y.v, .string y.fn, .slice b y.args.length cb, .int .i64 z.v, .string z.fn, .slice d z.args.length cd] 28))
    exact (small_any [x, y, z] _ _ (args_three X x y z _ _ _ (ArgsAt.keep hX.bel (Nat.le_refl _) hax) (ArgsAt.keep hX.bel (Nat.le_refl _) hay) (ArgsAt.keep hX.bel (Nat.le_refl _) haz))).mono fun e X' ⟨h1, h2⟩ => ⟨h1, hX'.keep h2⟩
  have gen : ∀ (s t : T) (ss st : Value), ArgsAt w ss s.args → ArgsAt w st t.args → s.size ≤ 1048576 → t.size ≤ 1048576 → ∀ q X, Quad w q (.slice an g.ns.length cn) (.slice aw g.ws.length cw) x (.slice a x.args.length ca) y (.slice b y.args.length cb) z (.slice d z.args.length cd) X → Calls Try.prog 10 #[.agg #[.slice an g.ns.length cn, .slice aw g.ws.length cw], tval s ss, tval t st] X fun e X' => e = .returned (.int .i64 (lcmp g s t)) ∧ Quad w q (.slice an g.ns.length cn) (.slice aw g.ws.length cw) x (.slice a x.args.length ca) y (.slice b y.args.length cb) z (.slice d z.args.length cd) X' := fun s t ss st hs ht zs zt q X hX => (lcompare_any g s t _ _ ss st X (hg.keep hX.bel (Nat.le_refl _)) (ArgsAt.keep hX.bel (Nat.le_refl _) hs) (ArgsAt.keep hX.bel (Nat.le_refl _) ht) zs zt).mono fun e X' ⟨h1, h2⟩ => ⟨h1, hX.keep h2⟩
  have hxy := gen x y _ _ hax hay hzx hzy
  have hyz := gen y z _ _ hay haz hzy hzz
  have hxz := gen x z _ _ hax haz hzx hzz
  have hyx := gen y x _ _ hay hax hzy hzx
  have h17 : ∀ q X, Quad w q (.slice an g.ns.length cn) (.slice aw g.ws.length cw) x (.slice a x.args.length ca) y (.slice b y.args.length cb) z (.slice d z.args.length cd) X → Calls Try.prog 9 #[] X fun e X' => e = .returned (.bool true) ∧ Quad w q (.slice an g.ns.length cn) (.slice aw g.ws.length cw) x (.slice a x.args.length ca) y (.slice b y.args.length cb) z (.slice d z.args.length cd) X' := fun q X hX => (alive_any X).mono fun e X' ⟨h1, h2⟩ => ⟨h1, hX.keep h2⟩
  have hB : ∀ q X, Quad w q (.slice an g.ns.length cn) (.slice aw g.ws.length cw) x (.slice a x.args.length ca) y (.slice b y.args.length cb) z (.slice d z.args.length cd) X → Below w.heap.size w X := fun q X h => h.bel
  have hdr : ∀ q X, Quad w q (.slice an g.ns.length cn) (.slice aw g.ws.length cw) x (.slice a x.args.length ca) y (.slice b y.args.length cb) z (.slice d z.args.length cd) X → Quad w q (.slice an g.ns.length cn) (.slice aw g.ws.length cw) x (.slice a x.args.length ca) y (.slice b y.args.length cb) z (.slice d z.args.length cd) X.drew := fun q X h => h.keep (Below.refl _ X).drew
  have m1 := lcmp_turn g x y
  have m2 := @lcmp_trans g x y z
  have m3 := lcmp_rng g x y
  obtain ⟨S, hS⟩ : ∃ S : Nat → World → Prop, (fun q => Quad w q (.slice an g.ns.length cn) (.slice aw g.ws.length cw) x (.slice a x.args.length ca) y (.slice b y.args.length cb) z (.slice d z.args.length cd)) = S := ⟨_, rfl⟩
  have hSe : ∀ q X, Quad w q (.slice an g.ns.length cn) (.slice aw g.ws.length cw) x (.slice a x.args.length ca) y (.slice b y.args.length cb) z (.slice d z.args.length cd) X = S q X := fun q X => by rw [← hS]
  simp only [hSe] at hT hC h8 h9 hxy hyz hxz hyx h17 hB hdr
  clear hS hSe hg hax hay haz hzx hzy hzz gen
  obtain ⟨kxy, e1⟩ : ∃ k, lcmp g x y = k := ⟨_, rfl⟩
  obtain ⟨kyz, e2⟩ : ∃ k, lcmp g y z = k := ⟨_, rfl⟩
  obtain ⟨kxz, e3⟩ : ∃ k, lcmp g x z = k := ⟨_, rfl⟩
  obtain ⟨kyx, e4⟩ : ∃ k, lcmp g y x = k := ⟨_, rfl⟩
  rw [e1] at hxy m1 m2 m3
  rw [e2] at hyz m2
  rw [e3] at hxz m2
  rw [e4] at hyx m1
  clear e1 e2 e3 e4
  have K0 := hC _ _ hT
  obtain ⟨⟨i0, i1⟩, ⟨i2, i3, i4⟩, ⟨i5, i6, i7⟩, i8, i9, i10⟩ := K0
  cases hsm : smallB [x, y, z]
  · rw [hsm] at h8
    clear hsm m1 m2 m3 hxy hyz hxz hyx h9 hdr
    go_enter Try.func4, Try.ntmps4
    go_wp2_with fail
    refine (h8 _ _ _ hT (by simp)).mono ?_
    rintro e W2 ⟨rfl, hT2⟩
    go_wp2_with fail
    refine (h17 _ _ hT2).mono ?_
    rintro e W3 ⟨rfl, hT3⟩
    go_wp2
    go_ret
    exact ⟨rfl, hB _ _ hT3⟩
  rw [hsm] at h8
  clear hsm
  have fin : (kxy = 2 ∧ kyx = 2) ∨ (kxy = 0 ∧ kyx = 0) ∨ (kxy = -1 ∧ kyx = 1) ∨ (kxy = 1 ∧ kyx = -1 ∧ kyz ≠ 1) ∨ (kxy = 1 ∧ kyx = -1 ∧ kyz = 1 ∧ kxz = 1) := by
    by_cases h : kxy = 1
    · by_cases h' : kyz = 1
      · have := m2 h h'
        omega
      · omega
    · omega
  clear m1 m2 m3
  rcases fin with ⟨rfl, rfl⟩ | ⟨rfl, rfl⟩ | ⟨rfl, rfl⟩ | ⟨rfl, rfl, hne⟩ | ⟨rfl, rfl, rfl, rfl⟩
  case' inr.inr.inr.inl => have ene : (kyz != 1) = true := by rw [bne_iff_ne]; exact hne
  all_goals (
    go_enter Try.func4, Try.ntmps4
    go_wp2_with fail
    refine (h8 _ _ _ hT (by simp)).mono ?_
    rintro e W1 ⟨rfl, hT1⟩
    obtain ⟨⟨p0, p1⟩, ⟨p2, p3, p4⟩, ⟨p5, p6, p7⟩, p8, p9, p10⟩ := hC _ _ hT1
    go_wp2_with fail
    refine (h9 _ _ hT1).mono ?_
    rintro e W2 ⟨rfl, hT2⟩
    have hT2d := hdr _ _ hT2
    have K2 := hC _ _ hT2d
    go_wp2
    go_region_held3 (fun X => (X.cell? ⟨W2.heap.size, 0, none⟩ = some (.slice an g.ns.length cn) ∧ X.cell? ⟨W2.heap.size, 1, none⟩ = some (.slice aw g.ws.length cw)) ∧ (X.cell? ⟨w.heap.size + 1, 0, none⟩ = some (.int .i64 x.v) ∧ X.cell? ⟨w.heap.size + 1, 1, none⟩ = some (.string x.fn) ∧ X.cell? ⟨w.heap.size + 1, 2, none⟩ = some (.slice a x.args.length ca)) ∧ (X.cell? ⟨w.heap.size + 1 + 1, 0, none⟩ = some (.int .i64 y.v) ∧ X.cell? ⟨w.heap.size + 1 + 1, 1, none⟩ = some (.string y.fn) ∧ X.cell? ⟨w.heap.size + 1 + 1, 2, none⟩ = some (.slice b y.args.length cb)) ∧ (X.cell? ⟨w.heap.size + 1 + 1 + 1, 0, none⟩ = some (.int .i64 z.v) ∧ X.cell? ⟨w.heap.size + 1 + 1 + 1, 1, none⟩ = some (.string z.fn) ∧ X.cell? ⟨w.heap.size + 1 + 1 + 1, 2, none⟩ = some (.slice d z.args.length cd))) (first | exact K2 | exact K3 | exact K4 | exact K5) (first
      | (go_at_call 10; refine (hxz _ _ hT4).mono ?_; rintro e W5 ⟨rfl, hT5⟩; have K5 := hC _ _ hT5)
      | (go_at_call 10; refine (hyz _ _ hT3).mono ?_; rintro e W4 ⟨rfl, hT4⟩; have K4 := hC _ _ hT4)
      | (go_at_call 10; refine (hxy _ _ hT2d).mono ?_; rintro e W3 ⟨rfl, hT3⟩; have K3 := hC _ _ hT3))
    obtain ⟨⟨n0, n1⟩, ⟨n2, n3, n4⟩, ⟨n5, n6, n7⟩, n8, n9, n10⟩ := K5
    clear K2 K3 K4
    go_wp2_with fail
    refine (hyx _ _ hT5).mono ?_
    rintro e W6 ⟨rfl, hT6⟩
    go_wp2_with fail
    refine (h17 _ _ hT6).mono ?_
    rintro e W7 ⟨rfl, hT7⟩
    go_wp2
    go_ret
    exact ⟨rfl, hB _ _ hT7⟩)

end Go.Proofs.Ytpahgmidofacaaa
