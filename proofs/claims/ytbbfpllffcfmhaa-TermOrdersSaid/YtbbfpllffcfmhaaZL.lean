/-
  TermOrders' walk.
-/
import Derived.Test.YtbbfpllffcfmhaaZK
namespace Go.Proofs.Ytbbfpllffcfmhaa
open Go.RowKit Go.Maps

/-- Three terms in boxes. -/
structure Three (w : World) (x : T) (sx : Value) (y : T) (sy : Value) (z : T) (sz : Value) (X : World) : Prop where
  a0 : X.cell? ⟨w.heap.size, 0, none⟩ = some (.int .i64 x.v)
  a1 : X.cell? ⟨w.heap.size, 1, none⟩ = some (.string x.fn)
  a2 : X.cell? ⟨w.heap.size, 2, none⟩ = some sx
  b0 : X.cell? ⟨w.heap.size + 1, 0, none⟩ = some (.int .i64 y.v)
  b1 : X.cell? ⟨w.heap.size + 1, 1, none⟩ = some (.string y.fn)
  b2 : X.cell? ⟨w.heap.size + 1, 2, none⟩ = some sy
  c0 : X.cell? ⟨w.heap.size + 1 + 1, 0, none⟩ = some (.int .i64 z.v)
  c1 : X.cell? ⟨w.heap.size + 1 + 1, 1, none⟩ = some (.string z.fn)
  c2 : X.cell? ⟨w.heap.size + 1 + 1, 2, none⟩ = some sz
  ax : ArgsAt X sx x.args
  ay : ArgsAt X sy y.args
  az : ArgsAt X sz z.args
  bel : Below w.heap.size w X
  big : w.heap.size + 3 ≤ X.heap.size

theorem Three.keep {w : World} {x y z : T} {sx sy sz : Value} {X X' : World} (h : Three w x sx y sy z sz X) (hb : Below X.heap.size X X') : Three w x sx y sy z sz X' := by
  have hs := h.big
  exact ⟨kc hb (by omega) h.a0, kc hb (by omega) h.a1, kc hb (by omega) h.a2, kc hb (by omega) h.b0, kc hb (by omega) h.b1, kc hb (by omega) h.b2, kc hb (by omega) h.c0, kc hb (by omega) h.c1, kc hb (by omega) h.c2, ArgsAt.keep hb (Nat.le_refl _) h.ax, ArgsAt.keep hb (Nat.le_refl _) h.ay, ArgsAt.keep hb (Nat.le_refl _) h.az, h.bel.trans (hb.mono h.bel.size), Nat.le_trans hs hb.size⟩

theorem Three.serves {w : World} {x y z : T} {sx sy sz : Value} {f : Nat} {args : Array Value} {r : Value} (h : ∀ X, Three w x sx y sy z sz X → Calls Try.prog f args X fun e X' => e = .returned r ∧ Below X.heap.size X X') : Serves (Three w x sx y sy z sz) f args r :=
  fun X hX => (h X hX).mono fun _ _ ⟨he, hb⟩ => ⟨he, hX.keep hb⟩

abbrev tbox3 (w : World) (x : T) (sx : Value) (y : T) (sy : Value) (z : T) (sz : Value) : World := (tbox2 w x sx y sy).alloc (tbox z sz)

theorem tbox3_three (w : World) (x : T) (sx : Value) (y : T) (sy : Value) (z : T) (sz : Value) (hx : ArgsAt w sx x.args) (hy : ArgsAt w sy y.args) (hz : ArgsAt w sz z.args) : Three w x sx y sy z sz (tbox3 w x sx y sy z sz) := by
  obtain ⟨⟨t0, t1, t2⟩, u0, u1, u2⟩ := tbox2_cells w x sx y sy
  have hv := tbox_cells (tbox2 w x sx y sy) z sz
  rw [World.size_alloc, World.size_alloc] at hv
  obtain ⟨v0, v1, v2⟩ := hv
  have hb := below_box (tbox2 w x sx y sy) (tbox z sz)
  have hb3 : Below w.heap.size w (tbox3 w x sx y sy z sz) := (below_box2 w _ _).trans (hb.mono (by simp; omega))
  exact ⟨kc hb (by simp; omega) t0, kc hb (by simp; omega) t1, kc hb (by simp; omega) t2, kc hb (by simp) u0, kc hb (by simp) u1, kc hb (by simp) u2, v0, v1, v2, ArgsAt.keep hb3 (Nat.le_refl _) hx, ArgsAt.keep hb3 (Nat.le_refl _) hy, ArgsAt.keep hb3 (Nat.le_refl _) hz, hb3, by simp⟩

set_option maxRecDepth 100000 in
set_option maxHeartbeats 2000000 in
theorem orders_any (x y z : T) (a b a' : Option Addr) (c d c' : Nat) (w : World) (hx : ArgsAt w (.slice a x.args.length c) x.args) (hy : ArgsAt w (.slice b y.args.length d) y.args) (hz : ArgsAt w (.slice a' z.args.length c') z.args) :
    Calls Try.prog 5 #[tval x (.slice a x.args.length c), tval y (.slice b y.args.length d), tval z (.slice a' z.args.length c')] w fun e w' => e = .returned (.bool true) ∧ Below w.heap.size w w' := by
  have hS0 : Three w x (.slice a x.args.length c) y (.slice b y.args.length d) z (.slice a' z.args.length c') (tbox3 w x (.slice a x.args.length c) y (.slice b y.args.length d) z (.slice a' z.args.length c')) := tbox3_three w x _ y _ z _ hx hy hz
  have h9x : Serves (Three w x (.slice a x.args.length c) y (.slice b y.args.length d) z (.slice a' z.args.length c')) 9 #[tval x (.slice a x.args.length c)] (.int .i64 x.rightW) := Three.serves fun X hX => rright_any x _ X hX.ax
  have h9y : Serves (Three w x (.slice a x.args.length c) y (.slice b y.args.length d) z (.slice a' z.args.length c')) 9 #[tval y (.slice b y.args.length d)] (.int .i64 y.rightW) := Three.serves fun X hX => rright_any y _ X hX.ay
  have h9z : Serves (Three w x (.slice a x.args.length c) y (.slice b y.args.length d) z (.slice a' z.args.length c')) 9 #[tval z (.slice a' z.args.length c')] (.int .i64 z.rightW) := Three.serves fun X hX => rright_any z _ X hX.az
  have h18 : Serves (Three w x (.slice a x.args.length c) y (.slice b y.args.length d) z (.slice a' z.args.length c')) 18 #[tval x (.slice a x.args.length c), tval y (.slice b y.args.length d)] (.bool (same x y)) := Three.serves fun X hX => tsame_any x y _ _ X hX.ax hX.ay
  have h17 : Serves (Three w x (.slice a x.args.length c) y (.slice b y.args.length d) z (.slice a' z.args.length c')) 17 #[] (.bool true) := Three.serves fun X _ => alive_any X
  have hxy : Serves (Three w x (.slice a x.args.length c) y (.slice b y.args.length d) z (.slice a' z.args.length c')) 20 #[tval x (.slice a x.args.length c), tval y (.slice b y.args.length d)] (.int .i64 (T.cmp x y)) := Three.serves fun X hX => tcmp_any x y _ _ X hX.ax hX.ay
  have hyz : Serves (Three w x (.slice a x.args.length c) y (.slice b y.args.length d) z (.slice a' z.args.length c')) 20 #[tval y (.slice b y.args.length d), tval z (.slice a' z.args.length c')] (.int .i64 (T.cmp y z)) := Three.serves fun X hX => tcmp_any y z _ _ X hX.ay hX.az
  have hxz : Serves (Three w x (.slice a x.args.length c) y (.slice b y.args.length d) z (.slice a' z.args.length c')) 20 #[tval x (.slice a x.args.length c), tval z (.slice a' z.args.length c')] (.int .i64 (T.cmp x z)) := Three.serves fun X hX => tcmp_any x z _ _ X hX.ax hX.az
  have hyx : Serves (Three w x (.slice a x.args.length c) y (.slice b y.args.length d) z (.slice a' z.args.length c')) 20 #[tval y (.slice b y.args.length d), tval x (.slice a x.args.length c)] (.int .i64 (T.cmp y x)) := Three.serves fun X hX => tcmp_any y x _ _ X hX.ay hX.ax
  have hC : ∀ X, Three w x (.slice a x.args.length c) y (.slice b y.args.length d) z (.slice a' z.args.length c') X → X.cell? ⟨w.heap.size, 0, none⟩ = some (.int .i64 x.v) ∧ X.cell? ⟨w.heap.size, 1, none⟩ = some (.string x.fn) ∧ X.cell? ⟨w.heap.size, 2, none⟩ = some (.slice a x.args.length c) ∧ X.cell? ⟨w.heap.size + 1, 0, none⟩ = some (.int .i64 y.v) ∧ X.cell? ⟨w.heap.size + 1, 1, none⟩ = some (.string y.fn) ∧ X.cell? ⟨w.heap.size + 1, 2, none⟩ = some (.slice b y.args.length d) ∧ X.cell? ⟨w.heap.size + 1 + 1, 0, none⟩ = some (.int .i64 z.v) ∧ X.cell? ⟨w.heap.size + 1 + 1, 1, none⟩ = some (.string z.fn) ∧ X.cell? ⟨w.heap.size + 1 + 1, 2, none⟩ = some (.slice a' z.args.length c') :=
    fun X h => ⟨h.a0, h.a1, h.a2, h.b0, h.b1, h.b2, h.c0, h.c1, h.c2⟩
  have hdr : ∀ X, Three w x (.slice a x.args.length c) y (.slice b y.args.length d) z (.slice a' z.args.length c') X → Three w x (.slice a x.args.length c) y (.slice b y.args.length d) z (.slice a' z.args.length c') X.drew := fun X h => h.keep (Below.refl _ X).drew
  have hbl : ∀ X, Three w x (.slice a x.args.length c) y (.slice b y.args.length d) z (.slice a' z.args.length c') X → Below w.heap.size w X := fun X h => h.bel
  clear hx hy hz
  obtain ⟨S, hS⟩ : ∃ S, Three w x (.slice a x.args.length c) y (.slice b y.args.length d) z (.slice a' z.args.length c') = S := ⟨_, rfl⟩
  rw [hS] at hS0 h9x h9y h9z h18 h17 hxy hyz hxz hyx hC hdr hbl
  clear hS
  obtain ⟨t0, t1, t2, u0, u1, u2, v0, v1, v2⟩ := hC _ hS0
  have hanti := cmp_anti x y
  have hzero := cmp_zero x y
  have htr := cmp_trans x y z
  have hrng := cmp_rng x y
  have hsm : same x y = decide (T.cmp x y = 0) := by
    unfold same
    exact decide_eq_decide.2 hzero.symm
  rw [hsm] at h18
  obtain ⟨p, hp⟩ : ∃ r, T.cmp x y = r := ⟨_, rfl⟩
  obtain ⟨q, hq⟩ : ∃ r, T.cmp y z = r := ⟨_, rfl⟩
  obtain ⟨r, hr⟩ : ∃ r, T.cmp x z = r := ⟨_, rfl⟩
  obtain ⟨s, hs⟩ : ∃ r, T.cmp y x = r := ⟨_, rfl⟩
  rw [hp] at h18 hxy hanti htr hrng
  rw [hq] at hyz htr
  rw [hr] at hxz htr
  rw [hs] at hyx hanti
  clear hzero hsm hp hq hr hs
  obtain ⟨rx, hrx⟩ : ∃ r, x.rightW = r := ⟨_, rfl⟩
  obtain ⟨ry, hry⟩ : ∃ r, y.rightW = r := ⟨_, rfl⟩
  obtain ⟨rz, hrz⟩ : ∃ r, z.rightW = r := ⟨_, rfl⟩
  rw [hrx] at h9x
  rw [hry] at h9y
  rw [hrz] at h9z
  clear hrx hry hrz
  by_cases e1 : rx = 0
  · subst e1
    by_cases e2 : ry = 0
    · subst e2
      by_cases e3 : rz = 0
      · subst e3
        go_enter Try.func5, Try.ntmps5
        go_wp2_with (first
          | (go_at_call 9; refine (h9z _ HW3).mono ?_; rintro e W4 ⟨rfl, HW4⟩)
          | (go_at_call 9; refine (h9y _ HW2).mono ?_; rintro e W3 ⟨rfl, HW3⟩; obtain ⟨m0, m1, m2, m3, m4, m5, m6, m7, m8⟩ := hC _ HW3)
          | (go_at_call 9; refine (h9x _ hS0).mono ?_; rintro e W2 ⟨rfl, HW2⟩; obtain ⟨k0, k1, k2, k3, k4, k5, k6, k7, k8⟩ := hC _ HW2))
        have hSd := hdr _ HW4
        clear t0 t1 t2 u0 u1 u2 v0 v1 v2 k0 k1 k2 k3 k4 k5 k6 k7 k8 m0 m1 m2 m3 m4 m5 m6 m7 m8 h9x h9y h9z hdr
        obtain ⟨n0, n1, n2, n3, n4, n5, n6, n7, n8⟩ := hC _ hSd
        go_region_held3 (fun X => X.cell? ⟨w.heap.size, 0, none⟩ = some (.int .i64 x.v) ∧ X.cell? ⟨w.heap.size, 1, none⟩ = some (.string x.fn) ∧ X.cell? ⟨w.heap.size, 2, none⟩ = some (.slice a x.args.length c) ∧ X.cell? ⟨w.heap.size + 1, 0, none⟩ = some (.int .i64 y.v) ∧ X.cell? ⟨w.heap.size + 1, 1, none⟩ = some (.string y.fn) ∧ X.cell? ⟨w.heap.size + 1, 2, none⟩ = some (.slice b y.args.length d) ∧ X.cell? ⟨w.heap.size + 1 + 1, 0, none⟩ = some (.int .i64 z.v) ∧ X.cell? ⟨w.heap.size + 1 + 1, 1, none⟩ = some (.string z.fn) ∧ X.cell? ⟨w.heap.size + 1 + 1, 2, none⟩ = some (.slice a' z.args.length c')) (first | exact ⟨n0, n1, n2, n3, n4, n5, n6, n7, n8⟩ | exact K5 | exact K6 | exact K7) (first
          | (go_at_call 20; refine (hxz _ HW6).mono ?_; rintro e W7 ⟨rfl, HW7⟩; have K7 := hC _ HW7)
          | (go_at_call 20; refine (hyz _ HW5).mono ?_; rintro e W6 ⟨rfl, HW6⟩; have K6 := hC _ HW6)
          | (go_at_call 20; refine (hxy _ hSd).mono ?_; rintro e W5 ⟨rfl, HW5⟩; have K5 := hC _ HW5))
        obtain ⟨g0, g1, g2, g3, g4, g5, g6, g7, g8⟩ := hC _ HW7
        clear n0 n1 n2 n3 n4 n5 n6 n7 n8 K5 K6 K7 hxy hyz hxz
        rcases hrng with rfl | rfl | rfl
        · obtain rfl : s = 1 := by omega
          have h18' : Serves S 18 #[tval x (.slice a x.args.length c), tval y (.slice b y.args.length d)] (.bool false) := h18
          clear h18 hanti
          rename Serves S 18 _ _ => h18
          by_cases hq : 0 < q
          · clear htr
            go_wp2_with (first
              | (go_at_call 17; refine (h17 _ HW9).mono ?_; rintro e W10 ⟨rfl, HW10⟩)
              | (go_at_call 18; refine (h18 _ HW8).mono ?_; rintro e W9 ⟨rfl, HW9⟩)
              | (go_at_call 20; refine (hyx _ HW7).mono ?_; rintro e W8 ⟨rfl, HW8⟩; obtain ⟨l0, l1, l2, l3, l4, l5, l6, l7, l8⟩ := hC _ HW8))
            go_ret
            exact ⟨rfl, hbl _ HW10⟩
          · have hr : r ≤ 0 := htr (by omega) (by omega)
            clear htr
            go_wp2_with (first
              | (go_at_call 17; refine (h17 _ HW9).mono ?_; rintro e W10 ⟨rfl, HW10⟩)
              | (go_at_call 18; refine (h18 _ HW8).mono ?_; rintro e W9 ⟨rfl, HW9⟩)
              | (go_at_call 20; refine (hyx _ HW7).mono ?_; rintro e W8 ⟨rfl, HW8⟩; obtain ⟨l0, l1, l2, l3, l4, l5, l6, l7, l8⟩ := hC _ HW8))
            go_ret
            exact ⟨rfl, hbl _ HW10⟩
        · obtain rfl : s = 0 := by omega
          have h18' : Serves S 18 #[tval x (.slice a x.args.length c), tval y (.slice b y.args.length d)] (.bool true) := h18
          clear h18 hanti
          rename Serves S 18 _ _ => h18
          by_cases hq : 0 < q
          · clear htr
            go_wp2_with (first
              | (go_at_call 17; refine (h17 _ HW9).mono ?_; rintro e W10 ⟨rfl, HW10⟩)
              | (go_at_call 18; refine (h18 _ HW8).mono ?_; rintro e W9 ⟨rfl, HW9⟩)
              | (go_at_call 20; refine (hyx _ HW7).mono ?_; rintro e W8 ⟨rfl, HW8⟩; obtain ⟨l0, l1, l2, l3, l4, l5, l6, l7, l8⟩ := hC _ HW8))
            go_ret
            exact ⟨rfl, hbl _ HW10⟩
          · have hr : r ≤ 0 := htr (by omega) (by omega)
            clear htr
            go_wp2_with (first
              | (go_at_call 17; refine (h17 _ HW9).mono ?_; rintro e W10 ⟨rfl, HW10⟩)
              | (go_at_call 18; refine (h18 _ HW8).mono ?_; rintro e W9 ⟨rfl, HW9⟩)
              | (go_at_call 20; refine (hyx _ HW7).mono ?_; rintro e W8 ⟨rfl, HW8⟩; obtain ⟨l0, l1, l2, l3, l4, l5, l6, l7, l8⟩ := hC _ HW8))
            go_ret
            exact ⟨rfl, hbl _ HW10⟩
        · obtain rfl : s = -1 := by omega
          have h18' : Serves S 18 #[tval x (.slice a x.args.length c), tval y (.slice b y.args.length d)] (.bool false) := h18
          clear h18 hanti
          rename Serves S 18 _ _ => h18
          clear htr
          go_wp2_with (first
            | (go_at_call 17; refine (h17 _ HW9).mono ?_; rintro e W10 ⟨rfl, HW10⟩)
            | (go_at_call 18; refine (h18 _ HW8).mono ?_; rintro e W9 ⟨rfl, HW9⟩)
            | (go_at_call 20; refine (hyx _ HW7).mono ?_; rintro e W8 ⟨rfl, HW8⟩; obtain ⟨l0, l1, l2, l3, l4, l5, l6, l7, l8⟩ := hC _ HW8))
          go_ret
          exact ⟨rfl, hbl _ HW10⟩
      · have hd3 : decide (rz = 0) = false := by simp [e3]
        go_enter Try.func5, Try.ntmps5
        go_wp2_with (first
          | (go_at_call 17; refine (h17 _ HW4).mono ?_; rintro e W5 ⟨rfl, HW5⟩)
          | (go_at_call 9; refine (h9z _ HW3).mono ?_; rintro e W4 ⟨rfl, HW4⟩)
          | (go_at_call 9; refine (h9y _ HW2).mono ?_; rintro e W3 ⟨rfl, HW3⟩; obtain ⟨m0, m1, m2, m3, m4, m5, m6, m7, m8⟩ := hC _ HW3)
          | (go_at_call 9; refine (h9x _ hS0).mono ?_; rintro e W2 ⟨rfl, HW2⟩; obtain ⟨k0, k1, k2, k3, k4, k5, k6, k7, k8⟩ := hC _ HW2))
        go_ret
        exact ⟨rfl, hbl _ HW5⟩
    · have hd2 : decide (ry = 0) = false := by simp [e2]
      go_enter Try.func5, Try.ntmps5
      go_wp2_with (first
        | (go_at_call 17; refine (h17 _ HW3).mono ?_; rintro e W4 ⟨rfl, HW4⟩)
        | (go_at_call 9; refine (h9y _ HW2).mono ?_; rintro e W3 ⟨rfl, HW3⟩; obtain ⟨m0, m1, m2, m3, m4, m5, m6, m7, m8⟩ := hC _ HW3)
        | (go_at_call 9; refine (h9x _ hS0).mono ?_; rintro e W2 ⟨rfl, HW2⟩; obtain ⟨k0, k1, k2, k3, k4, k5, k6, k7, k8⟩ := hC _ HW2))
      go_ret
      exact ⟨rfl, hbl _ HW4⟩
  · have hd1 : decide (rx = 0) = false := by simp [e1]
    go_enter Try.func5, Try.ntmps5
    go_wp2_with (first
      | (go_at_call 17; refine (h17 _ HW2).mono ?_; rintro e W3 ⟨rfl, HW3⟩)
      | (go_at_call 9; refine (h9x _ hS0).mono ?_; rintro e W2 ⟨rfl, HW2⟩))
    go_ret
    exact ⟨rfl, hbl _ HW3⟩

end Go.Proofs.Ytbbfpllffcfmhaa
