/-
  LitsOrder's walk.
-/
import Derived.Test.YtgnjgpplelakkaaLW
import Derived.Test.YtgnjgpplelakkaaLF
namespace Go.Proofs.Ytgnjgpplelakkaa
open Go.RowKit Go.Maps

theorem or2_neg (a b : Int) : or2 (-a) (-b) = - or2 a b := by
  unfold or2
  by_cases h : a = 0
  · rw [if_pos (by omega), if_pos h]
  · rw [if_neg (by omega), if_neg h]

theorem lcmp_anti (x y : Lt) : lcmp x y = - lcmp y x := by
  unfold lcmp
  by_cases h : x.neg = y.neg
  · rw [if_pos h, if_pos h.symm, cmp_anti x.l y.l, cmp_anti x.r y.r, or2_neg]
  · have h' : ¬ y.neg = x.neg := fun e => h e.symm
    simp only [if_neg h, if_neg h']
    cases hx : x.neg <;> cases hy : y.neg
    · exact absurd (hx.trans hy.symm) h
    · rfl
    · rfl
    · exact absurd (hx.trans hy.symm) h

theorem lcmp_rng (x y : Lt) : lcmp x y = -1 ∨ lcmp x y = 0 ∨ lcmp x y = 1 := by
  unfold lcmp
  have h1 := cmp_rng x.l y.l
  have h2 := cmp_rng x.r y.r
  split
  · unfold or2
    split <;> assumption
  · split <;> simp

theorem lcmp_trans (x y z : Lt) (h1 : lcmp x y ≤ 0) (h2 : lcmp y z ≤ 0) : lcmp x z ≤ 0 := by
  unfold lcmp at *
  by_cases e1 : x.neg = y.neg
  · rw [if_pos e1] at h1
    by_cases e2 : y.neg = z.neg
    · rw [if_pos e2] at h2
      rw [if_pos (e1.trans e2)]
      refine or2_trans (cmp_trans x.l y.l z.l) (fun h => ?_) (fun h => ?_) (fun h => ?_) (cmp_trans x.r y.r z.r) h1 h2
      · rw [(cmp_zero _ _).1 h]
      · rw [(cmp_zero _ _).1 h]
      · rw [(cmp_zero _ _).1 h, cmp_anti]
    · rw [if_neg e2] at h2
      rw [if_neg (fun e => e2 (e1.symm.trans e))]
      exact h2
  · rw [if_neg e1] at h1
    have hy : y.neg = true := by
      cases hy : y.neg
      · rw [hy] at h1; simp at h1
      · rfl
    have hx : x.neg = false := by
      cases hx : x.neg
      · rfl
      · exact absurd (hx.trans hy.symm) e1
    cases hz : z.neg
    · rw [hy, hz] at h2
      simp at h2
    · rw [hx]
      simp

theorem rightW_shape {t : T} (h : t.rightW = 0) : t.shape = true := by
  unfold T.rightW at h
  by_cases hs : t.shape = false
  · rw [if_pos hs] at h; cases h
  · simpa using hs

theorem rlcmp_eq (x y : Lt) (h1 : x.l.rightW = 0) (h2 : x.r.rightW = 0) (h3 : y.l.rightW = 0) (h4 : y.r.rightW = 0) : rlcmp x y = lcmp x y := by
  unfold rlcmp lcmp
  rw [rcmp_same x.l y.l (rightW_shape h1) (rightW_shape h3), rcmp_same x.r y.r (rightW_shape h2) (rightW_shape h4)]

theorem cright_each {l : List Lt} (h : crightW l = 0) : ∀ x ∈ l, x.l.rightW = 0 ∧ x.r.rightW = 0 := by
  unfold crightW at h
  by_cases h1 : 60 < l.length
  · rw [if_pos h1] at h; cases h
  · rw [if_neg h1] at h
    by_cases h2 : fe (sidesOf l) = 0
    · intro x hx
      have := fe_zero.1 h2
      exact ⟨this _ (List.mem_flatMap.2 ⟨x, hx, by simp⟩), this _ (List.mem_flatMap.2 ⟨x, hx, by simp⟩)⟩
    · rw [if_pos h2] at h
      exact absurd h h2

/-- Three literals in boxes. -/
structure ThreeL (w : World) (x : Lt) (a b : Value) (y : Lt) (c d : Value) (z : Lt) (g h : Value) (X : World) : Prop where
  lx : LitAt X w.heap.size 0 x a b
  ly : LitAt X (w.heap.size + 1) 0 y c d
  lz : LitAt X (w.heap.size + 1 + 1) 0 z g h
  bel : Below w.heap.size w X

theorem ThreeL.keep {w : World} {x y z : Lt} {a b c d g h : Value} {X X' : World} (t : ThreeL w x a b y c d z g h X) (hb : Below X.heap.size X X') : ThreeL w x a b y c d z g h X' :=
  ⟨t.lx.keep hb, t.ly.keep hb, t.lz.keep hb, t.bel.trans (hb.mono t.bel.size)⟩

theorem ThreeL.new {w : World} {x y z : Lt} {a b c d g h : Value} (hxl : ArgsAt w a x.l.args) (hxr : ArgsAt w b x.r.args) (hyl : ArgsAt w c y.l.args) (hyr : ArgsAt w d y.r.args) (hzl : ArgsAt w g z.l.args) (hzr : ArgsAt w h z.r.args) : ThreeL w x a b y c d z g h (((w.alloc (lbox x a b)).alloc (lbox y c d)).alloc (lbox z g h)) := by
  have b1 := below_box w (lbox x a b)
  have b2 := below_box2 w (lbox x a b) (lbox y c d)
  have b3 := below_box ((w.alloc (lbox x a b)).alloc (lbox y c d)) (lbox z g h)
  have h2 := lbox_at (w.alloc (lbox x a b)) y c d (ArgsAt.keep b1 (Nat.le_refl _) hyl) (ArgsAt.keep b1 (Nat.le_refl _) hyr)
  have h3 := lbox_at ((w.alloc (lbox x a b)).alloc (lbox y c d)) z g h (ArgsAt.keep b2 (Nat.le_refl _) hzl) (ArgsAt.keep b2 (Nat.le_refl _) hzr)
  rw [World.size_alloc] at h2
  rw [World.size_alloc, World.size_alloc] at h3
  exact ⟨((lbox_at w x a b hxl hxr).keep (below_box _ _)).keep b3, h2.keep b3, h3, b2.trans (b3.mono b2.size)⟩

theorem ThreeL.cells {w : World} {x y z : Lt} {a b c d g h : Value} {X : World} (t : ThreeL w x a b y c d z g h X) : (X.cell? ⟨w.heap.size, 0, none⟩ = some (.bool x.neg) ∧ X.cell? ⟨w.heap.size, 1, none⟩ = some (.int .i64 x.l.v) ∧ X.cell? ⟨w.heap.size, 2, none⟩ = some (.string x.l.fn) ∧ X.cell? ⟨w.heap.size, 3, none⟩ = some (a) ∧ X.cell? ⟨w.heap.size, 4, none⟩ = some (.int .i64 x.r.v) ∧ X.cell? ⟨w.heap.size, 5, none⟩ = some (.string x.r.fn) ∧ X.cell? ⟨w.heap.size, 6, none⟩ = some (b) ∧ X.cell? ⟨w.heap.size + 1, 0, none⟩ = some (.bool y.neg) ∧ X.cell? ⟨w.heap.size + 1, 1, none⟩ = some (.int .i64 y.l.v) ∧ X.cell? ⟨w.heap.size + 1, 2, none⟩ = some (.string y.l.fn) ∧ X.cell? ⟨w.heap.size + 1, 3, none⟩ = some (c) ∧ X.cell? ⟨w.heap.size + 1, 4, none⟩ = some (.int .i64 y.r.v) ∧ X.cell? ⟨w.heap.size + 1, 5, none⟩ = some (.string y.r.fn) ∧ X.cell? ⟨w.heap.size + 1, 6, none⟩ = some (d) ∧ X.cell? ⟨w.heap.size + 1 + 1, 0, none⟩ = some (.bool z.neg) ∧ X.cell? ⟨w.heap.size + 1 + 1, 1, none⟩ = some (.int .i64 z.l.v) ∧ X.cell? ⟨w.heap.size + 1 + 1, 2, none⟩ = some (.string z.l.fn) ∧ X.cell? ⟨w.heap.size + 1 + 1, 3, none⟩ = some (g) ∧ X.cell? ⟨w.heap.size + 1 + 1, 4, none⟩ = some (.int .i64 z.r.v) ∧ X.cell? ⟨w.heap.size + 1 + 1, 5, none⟩ = some (.string z.r.fn) ∧ X.cell? ⟨w.heap.size + 1 + 1, 6, none⟩ = some (h)) :=
  ⟨t.lx.c0, t.lx.c1, t.lx.c2, t.lx.c3, t.lx.c4, t.lx.c5, t.lx.c6, t.ly.c0, t.ly.c1, t.ly.c2, t.ly.c3, t.ly.c4, t.ly.c5, t.ly.c6, t.lz.c0, t.lz.c1, t.lz.c2, t.lz.c3, t.lz.c4, t.lz.c5, t.lz.c6⟩

/-- Three literals in a row. -/
theorem three_row (w : World) (x y z : Lt) (a b c d g h : Value) (hxl : ArgsAt w a x.l.args) (hxr : ArgsAt w b x.r.args) (hyl : ArgsAt w c y.l.args) (hyr : ArgsAt w d y.r.args) (hzl : ArgsAt w g z.l.args) (hzr : ArgsAt w h z.r.args) : ClauseAt (w.alloc (.cells #[.bool x.neg, .int .i64 x.l.v, .string x.l.fn, a, .int .i64 x.r.v, .string x.r.fn, b, .bool y.neg, .int .i64 y.l.v, .string y.l.fn, c, .int .i64 y.r.v, .string y.r.fn, d, .bool z.neg, .int .i64 z.l.v, .string z.l.fn, g, .int .i64 z.r.v, .string z.r.fn, h] 28)) (.slice (some ⟨w.heap.size, 0, none⟩) 3 3) [x, y, z] := by
  have hh : (w.alloc (.cells #[.bool x.neg, .int .i64 x.l.v, .string x.l.fn, a, .int .i64 x.r.v, .string x.r.fn, b, .bool y.neg, .int .i64 y.l.v, .string y.l.fn, c, .int .i64 y.r.v, .string y.r.fn, d, .bool z.neg, .int .i64 z.l.v, .string z.l.fn, g, .int .i64 z.r.v, .string z.r.fn, h] 28)).heap[w.heap.size]? = some (.cells [.bool x.neg, .int .i64 x.l.v, .string x.l.fn, a, .int .i64 x.r.v, .string x.r.fn, b, .bool y.neg, .int .i64 y.l.v, .string y.l.fn, c, .int .i64 y.r.v, .string y.r.fn, d, .bool z.neg, .int .i64 z.l.v, .string z.l.fn, g, .int .i64 z.r.v, .string z.r.fn, h].toArray 28 (0, 0)) := (MapKept.heap_alloc w _).1
  have kp := fun {s l} (t : ArgsAt w s l) => ArgsAt.keep (below_box w (.cells #[.bool x.neg, .int .i64 x.l.v, .string x.l.fn, a, .int .i64 x.r.v, .string x.r.fn, b, .bool y.neg, .int .i64 y.l.v, .string y.l.fn, c, .int .i64 y.r.v, .string y.r.fn, d, .bool z.neg, .int .i64 z.l.v, .string z.l.fn, g, .int .i64 z.r.v, .string z.r.fn, h] 28)) (Nat.le_refl _) t
  refine ⟨some ⟨w.heap.size, 0, none⟩, 3, rfl, Nat.le_refl _, by decide, fun _ => ⟨w.heap.size, 0, rfl, fun i hi => ?_⟩⟩
  have hi' : i < 3 := hi
  obtain rfl | rfl | rfl : i = 0 ∨ i = 1 ∨ i = 2 := by omega
  · refine ⟨a, b, by simp, ?_, ?_, ?_, ?_, ?_, ?_, ?_, kp hxl, kp hxr⟩ <;> rw [cell_of_row _ _ _ _ 28 (0, 0) hh] <;> rfl
  · refine ⟨c, d, by simp, ?_, ?_, ?_, ?_, ?_, ?_, ?_, kp hyl, kp hyr⟩ <;> rw [cell_of_row _ _ _ _ 28 (0, 0) hh] <;> rfl
  · refine ⟨g, h, by simp, ?_, ?_, ?_, ?_, ?_, ?_, ?_, kp hzl, kp hzr⟩ <;> rw [cell_of_row _ _ _ _ 28 (0, 0) hh] <;> rfl

set_option maxRecDepth 100000 in
set_option maxHeartbeats 4000000 in
theorem lorder_any (x y z : Lt) (a b c d g h : Value) (w : World) (hxl : ArgsAt w a x.l.args) (hxr : ArgsAt w b x.r.args) (hyl : ArgsAt w c y.l.args) (hyr : ArgsAt w d y.r.args) (hzl : ArgsAt w g z.l.args) (hzr : ArgsAt w h z.r.args) :
    Calls Try.prog 4 #[lval x a b, lval y c d, lval z g h] w fun e w' => e = .returned (.bool true) ∧ Below w.heap.size w w' := by
  have hS0 : ThreeL w x a b y c d z g h (((w.alloc (lbox x a b)).alloc (lbox y c d)).alloc (lbox z g h)) := ThreeL.new hxl hxr hyl hyr hzl hzr
  have hrt : ∀ X, ThreeL w x a b y c d z g h X → Calls Try.prog 9 #[.slice (some ⟨X.heap.size, 0, none⟩) 3 3] (X.alloc (.cells #[.bool x.neg, .int .i64 x.l.v, .string x.l.fn, a, .int .i64 x.r.v, .string x.r.fn, b, .bool y.neg, .int .i64 y.l.v, .string y.l.fn, c, .int .i64 y.r.v, .string y.r.fn, d, .bool z.neg, .int .i64 z.l.v, .string z.l.fn, g, .int .i64 z.r.v, .string z.r.fn, h] 28)) fun e X' => e = .returned (.int .i64 (crightW [x, y, z])) ∧ ThreeL w x a b y c d z g h X' := fun X hX => (rcright_any _ _ _ (three_row X x y z a b c d g h hX.lx.al hX.lx.ar hX.ly.al hX.ly.ar hX.lz.al hX.lz.ar)).mono fun e X' ⟨he, hb⟩ => ⟨he, (hX.keep (below_box X _)).keep hb⟩
  have hrt0 := hrt _ hS0
  simp only [World.size_alloc] at hrt0
  have hxy : Serves (ThreeL w x a b y c d z g h) 24 #[lval x a b, lval y c d] (.int .i64 (lcmp x y)) := fun X hX => (lcmp_any x y a b c d X hX.lx.al hX.lx.ar hX.ly.al hX.ly.ar).mono fun _ _ ⟨he, hb⟩ => ⟨he, hX.keep hb⟩
  have hyx : Serves (ThreeL w x a b y c d z g h) 24 #[lval y c d, lval x a b] (.int .i64 (lcmp y x)) := fun X hX => (lcmp_any y x c d a b X hX.ly.al hX.ly.ar hX.lx.al hX.lx.ar).mono fun _ _ ⟨he, hb⟩ => ⟨he, hX.keep hb⟩
  have hyz : Serves (ThreeL w x a b y c d z g h) 24 #[lval y c d, lval z g h] (.int .i64 (lcmp y z)) := fun X hX => (lcmp_any y z c d g h X hX.ly.al hX.ly.ar hX.lz.al hX.lz.ar).mono fun _ _ ⟨he, hb⟩ => ⟨he, hX.keep hb⟩
  have hxz : Serves (ThreeL w x a b y c d z g h) 24 #[lval x a b, lval z g h] (.int .i64 (lcmp x z)) := fun X hX => (lcmp_any x z a b g h X hX.lx.al hX.lx.ar hX.lz.al hX.lz.ar).mono fun _ _ ⟨he, hb⟩ => ⟨he, hX.keep hb⟩
  have hrf : Serves (ThreeL w x a b y c d z g h) 25 #[lval x a b, lval y c d] (.int .i64 (rlcmp x y)) := fun X hX => (rlcmp_any x y a b c d X hX.lx.al hX.lx.ar hX.ly.al hX.ly.ar).mono fun _ _ ⟨he, hb⟩ => ⟨he, hX.keep hb⟩
  have hal : Serves (ThreeL w x a b y c d z g h) 23 #[] (.bool true) := fun X hX => (alive_any X).mono fun _ _ ⟨he, hb⟩ => ⟨he, hX.keep hb⟩
  have hC := fun X (t : ThreeL w x a b y c d z g h X) => t.cells
  have hbl := fun X (t : ThreeL w x a b y c d z g h X) => t.bel
  have hdr := fun X (t : ThreeL w x a b y c d z g h X) => t.keep (Below.refl _ X).drew
  obtain ⟨xa, xb, rfl, _⟩ := hxl.slice
  obtain ⟨xc, xd, rfl, _⟩ := hxr.slice
  obtain ⟨ya, yb, rfl, _⟩ := hyl.slice
  obtain ⟨yc, yd, rfl, _⟩ := hyr.slice
  obtain ⟨za, zb, rfl, _⟩ := hzl.slice
  obtain ⟨zc, zd, rfl, _⟩ := hzr.slice
  generalize hS : ThreeL w x _ _ y _ _ z _ _ = S at *
  clear hS hxl hxr hyl hyr hzl hzr hrt
  have hanti := lcmp_anti x y
  have htr := lcmp_trans x y z
  have hrng := lcmp_rng x y
  have hreq : crightW [x, y, z] = 0 → rlcmp x y = lcmp x y := fun h0 => by
    have h1 := cright_each h0 x (by simp)
    have h2 := cright_each h0 y (by simp)
    exact rlcmp_eq x y h1.1 h1.2 h2.1 h2.2
  generalize crightW [x, y, z] = k at *
  generalize lcmp x y = p at *
  generalize lcmp y z = q at *
  generalize lcmp x z = r at *
  generalize lcmp y x = m at *
  generalize rlcmp x y = rp at *
  obtain ⟨t0, t1, t2, t3, t4, t5, t6, t7, t8, t9, t10, t11, t12, t13, t14, t15, t16, t17, t18, t19, t20⟩ := hC _ hS0
  by_cases hk : k = 0
  · subst hk
    obtain rfl := hreq rfl
    clear hreq
    go_enter Try.func4, Try.ntmps4
    go_wp2_with (go_at_call 9; refine hrt0.mono ?_; rintro e W1 ⟨rfl, H1⟩)
    have hSd := hdr _ H1
    clear t0 t1 t2 t3 t4 t5 t6 t7 t8 t9 t10 t11 t12 t13 t14 t15 t16 t17 t18 t19 t20 hrt0 hS0 hdr
    obtain ⟨n0, n1, n2, n3, n4, n5, n6, n7, n8, n9, n10, n11, n12, n13, n14, n15, n16, n17, n18, n19, n20⟩ := hC _ hSd
    have K1 := hC _ hSd
    go_region_held3 (fun X => X.cell? ⟨w.heap.size, 0, none⟩ = some (.bool x.neg) ∧ X.cell? ⟨w.heap.size, 1, none⟩ = some (.int .i64 x.l.v) ∧ X.cell? ⟨w.heap.size, 2, none⟩ = some (.string x.l.fn) ∧ X.cell? ⟨w.heap.size, 3, none⟩ = some (.slice xa x.l.args.length xb) ∧ X.cell? ⟨w.heap.size, 4, none⟩ = some (.int .i64 x.r.v) ∧ X.cell? ⟨w.heap.size, 5, none⟩ = some (.string x.r.fn) ∧ X.cell? ⟨w.heap.size, 6, none⟩ = some (.slice xc x.r.args.length xd) ∧ X.cell? ⟨w.heap.size + 1, 0, none⟩ = some (.bool y.neg) ∧ X.cell? ⟨w.heap.size + 1, 1, none⟩ = some (.int .i64 y.l.v) ∧ X.cell? ⟨w.heap.size + 1, 2, none⟩ = some (.string y.l.fn) ∧ X.cell? ⟨w.heap.size + 1, 3, none⟩ = some (.slice ya y.l.args.length yb) ∧ X.cell? ⟨w.heap.size + 1, 4, none⟩ = some (.int .i64 y.r.v) ∧ X.cell? ⟨w.heap.size + 1, 5, none⟩ = some (.string y.r.fn) ∧ X.cell? ⟨w.heap.size + 1, 6, none⟩ = some (.slice yc y.r.args.length yd) ∧ X.cell? ⟨w.heap.size + 1 + 1, 0, none⟩ = some (.bool z.neg) ∧ X.cell? ⟨w.heap.size + 1 + 1, 1, none⟩ = some (.int .i64 z.l.v) ∧ X.cell? ⟨w.heap.size + 1 + 1, 2, none⟩ = some (.string z.l.fn) ∧ X.cell? ⟨w.heap.size + 1 + 1, 3, none⟩ = some (.slice za z.l.args.length zb) ∧ X.cell? ⟨w.heap.size + 1 + 1, 4, none⟩ = some (.int .i64 z.r.v) ∧ X.cell? ⟨w.heap.size + 1 + 1, 5, none⟩ = some (.string z.r.fn) ∧ X.cell? ⟨w.heap.size + 1 + 1, 6, none⟩ = some (.slice zc z.r.args.length zd)) (first | exact K1 | exact K5 | exact K6 | exact K7) (first
      | (go_at_call 24; refine (hxz _ H6).mono ?_; rintro e W7 ⟨rfl, H7⟩; have K7 := hC _ H7)
      | (go_at_call 24; refine (hyz _ H5).mono ?_; rintro e W6 ⟨rfl, H6⟩; have K6 := hC _ H6)
      | (go_at_call 24; refine (hxy _ hSd).mono ?_; rintro e W5 ⟨rfl, H5⟩; have K5 := hC _ H5))
    clear n0 n1 n2 n3 n4 n5 n6 n7 n8 n9 n10 n11 n12 n13 n14 n15 n16 n17 n18 n19 n20 K1 K5 K6
    obtain ⟨g0, g1, g2, g3, g4, g5, g6, g7, g8, g9, g10, g11, g12, g13, g14, g15, g16, g17, g18, g19, g20⟩ := K7
    clear hxy hyz hxz
    rcases hrng with rfl | rfl | rfl
    · obtain rfl : m = 1 := by omega
      clear hanti
      by_cases hq : 0 < q
      · clear htr
        go_wp2_with (first
          | (go_at_call 23; refine (hal _ H9).mono ?_; rintro e W10 ⟨rfl, H10⟩)
          | (go_at_call 24; refine (hyx _ H8).mono ?_; rintro e W9 ⟨rfl, H9⟩)
          | (go_at_call 25; refine (hrf _ H7).mono ?_; rintro e W8 ⟨rfl, H8⟩; obtain ⟨l0, l1, l2, l3, l4, l5, l6, l7, l8, l9, l10, l11, l12, l13, l14, l15, l16, l17, l18, l19, l20⟩ := hC _ H8))
        go_ret
        exact ⟨rfl, hbl _ H10⟩
      · have hr : r ≤ 0 := htr (by omega) (by omega)
        clear htr
        go_wp2_with (first
          | (go_at_call 23; refine (hal _ H9).mono ?_; rintro e W10 ⟨rfl, H10⟩)
          | (go_at_call 24; refine (hyx _ H8).mono ?_; rintro e W9 ⟨rfl, H9⟩)
          | (go_at_call 25; refine (hrf _ H7).mono ?_; rintro e W8 ⟨rfl, H8⟩; obtain ⟨l0, l1, l2, l3, l4, l5, l6, l7, l8, l9, l10, l11, l12, l13, l14, l15, l16, l17, l18, l19, l20⟩ := hC _ H8))
        go_ret
        exact ⟨rfl, hbl _ H10⟩
    · obtain rfl : m = 0 := by omega
      clear hanti
      by_cases hq : 0 < q
      · clear htr
        go_wp2_with (first
          | (go_at_call 23; refine (hal _ H9).mono ?_; rintro e W10 ⟨rfl, H10⟩)
          | (go_at_call 24; refine (hyx _ H8).mono ?_; rintro e W9 ⟨rfl, H9⟩)
          | (go_at_call 25; refine (hrf _ H7).mono ?_; rintro e W8 ⟨rfl, H8⟩; obtain ⟨l0, l1, l2, l3, l4, l5, l6, l7, l8, l9, l10, l11, l12, l13, l14, l15, l16, l17, l18, l19, l20⟩ := hC _ H8))
        go_ret
        exact ⟨rfl, hbl _ H10⟩
      · have hr : r ≤ 0 := htr (by omega) (by omega)
        clear htr
        go_wp2_with (first
          | (go_at_call 23; refine (hal _ H9).mono ?_; rintro e W10 ⟨rfl, H10⟩)
          | (go_at_call 24; refine (hyx _ H8).mono ?_; rintro e W9 ⟨rfl, H9⟩)
          | (go_at_call 25; refine (hrf _ H7).mono ?_; rintro e W8 ⟨rfl, H8⟩; obtain ⟨l0, l1, l2, l3, l4, l5, l6, l7, l8, l9, l10, l11, l12, l13, l14, l15, l16, l17, l18, l19, l20⟩ := hC _ H8))
        go_ret
        exact ⟨rfl, hbl _ H10⟩
    · obtain rfl : m = -1 := by omega
      clear hanti htr
      go_wp2_with (first
        | (go_at_call 23; refine (hal _ H9).mono ?_; rintro e W10 ⟨rfl, H10⟩)
        | (go_at_call 24; refine (hyx _ H8).mono ?_; rintro e W9 ⟨rfl, H9⟩)
        | (go_at_call 25; refine (hrf _ H7).mono ?_; rintro e W8 ⟨rfl, H8⟩; obtain ⟨l0, l1, l2, l3, l4, l5, l6, l7, l8, l9, l10, l11, l12, l13, l14, l15, l16, l17, l18, l19, l20⟩ := hC _ H8))
      go_ret
      exact ⟨rfl, hbl _ H10⟩
  · have hkb : (k != 0) = true := by rw [bne_iff_ne]; exact hk
    go_enter Try.func4, Try.ntmps4
    go_wp2_with (first
      | (go_at_call 23; refine (hal _ H1).mono ?_; rintro e W2 ⟨rfl, H2⟩)
      | (go_at_call 9; refine hrt0.mono ?_; rintro e W1 ⟨rfl, H1⟩))
    go_ret
    exact ⟨rfl, hbl _ H2⟩

end Go.Proofs.Ytgnjgpplelakkaa
