/-
  TermOrder's walk.
-/
import Derived.Test.YtbbfpllffcfmhaaZJ
import Derived.Test.YtbbfpllffcfmhaaG
import Derived.Deep.RegionHeld3
namespace Go.Proofs.Ytbbfpllffcfmhaa
open Go.RowKit Go.Maps

/-- Two terms in boxes. -/
structure Two (w : World) (x : T) (sx : Value) (y : T) (sy : Value) (X : World) : Prop where
  a0 : X.cell? ⟨w.heap.size, 0, none⟩ = some (.int .i64 x.v)
  a1 : X.cell? ⟨w.heap.size, 1, none⟩ = some (.string x.fn)
  a2 : X.cell? ⟨w.heap.size, 2, none⟩ = some sx
  b0 : X.cell? ⟨w.heap.size + 1, 0, none⟩ = some (.int .i64 y.v)
  b1 : X.cell? ⟨w.heap.size + 1, 1, none⟩ = some (.string y.fn)
  b2 : X.cell? ⟨w.heap.size + 1, 2, none⟩ = some sy
  ax : ArgsAt X sx x.args
  ay : ArgsAt X sy y.args
  bel : Below w.heap.size w X
  sz : w.heap.size + 2 ≤ X.heap.size

theorem Two.keep {w : World} {x y : T} {sx sy : Value} {X X' : World} (h : Two w x sx y sy X) (hb : Below X.heap.size X X') : Two w x sx y sy X' := by
  have hs := h.sz
  exact ⟨kc hb (by omega) h.a0, kc hb (by omega) h.a1, kc hb (by omega) h.a2, kc hb (by omega) h.b0, kc hb (by omega) h.b1, kc hb (by omega) h.b2, ArgsAt.keep hb (Nat.le_refl _) h.ax, ArgsAt.keep hb (Nat.le_refl _) h.ay, h.bel.trans (hb.mono h.bel.size), Nat.le_trans hs hb.size⟩

/-- A call that answers r and keeps S. -/
def Serves (S : World → Prop) (f : Nat) (args : Array Value) (r : Value) : Prop :=
  ∀ X, S X → Calls Try.prog f args X fun e X' => e = .returned r ∧ S X'

theorem Two.serves {w : World} {x y : T} {sx sy : Value} {f : Nat} {args : Array Value} {r : Value} (h : ∀ X, Two w x sx y sy X → Calls Try.prog f args X fun e X' => e = .returned r ∧ Below X.heap.size X X') : Serves (Two w x sx y sy) f args r :=
  fun X hX => (h X hX).mono fun _ _ ⟨he, hb⟩ => ⟨he, hX.keep hb⟩

set_option maxRecDepth 100000 in
set_option maxHeartbeats 2000000 in
theorem order_any (x y : T) (a b : Option Addr) (c d : Nat) (w : World) (hx : ArgsAt w (.slice a x.args.length c) x.args) (hy : ArgsAt w (.slice b y.args.length d) y.args) :
    Calls Try.prog 4 #[tval x (.slice a x.args.length c), tval y (.slice b y.args.length d)] w fun e w' => e = .returned (.bool true) ∧ Below w.heap.size w w' := by
  have hb0 := below_box2 w (tbox x (.slice a x.args.length c)) (tbox y (.slice b y.args.length d))
  obtain ⟨⟨t0, t1, t2⟩, u0, u1, u2⟩ := tbox2_cells w x (.slice a x.args.length c) y (.slice b y.args.length d)
  have hS0 : Two w x (.slice a x.args.length c) y (.slice b y.args.length d) (tbox2 w x (.slice a x.args.length c) y (.slice b y.args.length d)) :=
    ⟨t0, t1, t2, u0, u1, u2, ArgsAt.keep hb0 (Nat.le_refl _) hx, ArgsAt.keep hb0 (Nat.le_refl _) hy, hb0, by simp⟩
  have h9x : Serves (Two w x (.slice a x.args.length c) y (.slice b y.args.length d)) 9 #[tval x (.slice a x.args.length c)] (.int .i64 x.rightW) := Two.serves fun X hX => rright_any x _ X hX.ax
  have h9y : Serves (Two w x (.slice a x.args.length c) y (.slice b y.args.length d)) 9 #[tval y (.slice b y.args.length d)] (.int .i64 y.rightW) := Two.serves fun X hX => rright_any y _ X hX.ay
  have h18 : Serves (Two w x (.slice a x.args.length c) y (.slice b y.args.length d)) 18 #[tval x (.slice a x.args.length c), tval y (.slice b y.args.length d)] (.bool (same x y)) := Two.serves fun X hX => tsame_any x y _ _ X hX.ax hX.ay
  have h19 : Serves (Two w x (.slice a x.args.length c) y (.slice b y.args.length d)) 19 #[tval x (.slice a x.args.length c), tval y (.slice b y.args.length d)] (.bool (same x y)) := Two.serves fun X hX => rsame_any x y _ _ X hX.ax hX.ay
  have h17 : Serves (Two w x (.slice a x.args.length c) y (.slice b y.args.length d)) 17 #[] (.bool true) := Two.serves fun X _ => alive_any X
  have h20 : Serves (Two w x (.slice a x.args.length c) y (.slice b y.args.length d)) 20 #[tval x (.slice a x.args.length c), tval y (.slice b y.args.length d)] (.int .i64 (T.cmp x y)) := Two.serves fun X hX => tcmp_any x y _ _ X hX.ax hX.ay
  have h21 : Serves (Two w x (.slice a x.args.length c) y (.slice b y.args.length d)) 21 #[tval x (.slice a x.args.length c), tval y (.slice b y.args.length d)] (.int .i64 (T.rcmp x y)) := Two.serves fun X hX => rcmp_any x y _ _ X hX.ax hX.ay
  have hC : ∀ X, Two w x (.slice a x.args.length c) y (.slice b y.args.length d) X → X.cell? ⟨w.heap.size, 0, none⟩ = some (.int .i64 x.v) ∧ X.cell? ⟨w.heap.size, 1, none⟩ = some (.string x.fn) ∧ X.cell? ⟨w.heap.size, 2, none⟩ = some (.slice a x.args.length c) ∧ X.cell? ⟨w.heap.size + 1, 0, none⟩ = some (.int .i64 y.v) ∧ X.cell? ⟨w.heap.size + 1, 1, none⟩ = some (.string y.fn) ∧ X.cell? ⟨w.heap.size + 1, 2, none⟩ = some (.slice b y.args.length d) :=
    fun X h => ⟨h.a0, h.a1, h.a2, h.b0, h.b1, h.b2⟩
  have hdr : ∀ X, Two w x (.slice a x.args.length c) y (.slice b y.args.length d) X → Two w x (.slice a x.args.length c) y (.slice b y.args.length d) X.drew := fun X h => h.keep (Below.refl _ X).drew
  have hbl : ∀ X, Two w x (.slice a x.args.length c) y (.slice b y.args.length d) X → Below w.heap.size w X := fun X h => h.bel
  have hcs : x.rightW = 0 → y.rightW = 0 → T.rcmp x y = T.cmp x y := by
    intro h1 h2
    refine rcmp_same x y ?_ ?_
    · unfold T.rightW at h1; by_cases hs : x.shape = false
      · rw [if_pos hs] at h1; cases h1
      · simpa using hs
    · unfold T.rightW at h2; by_cases hs : y.shape = false
      · rw [if_pos hs] at h2; cases h2
      · simpa using hs
  clear hx hy hb0 t0 t1 t2 u0 u1 u2
  obtain ⟨S, hS⟩ : ∃ S, Two w x (.slice a x.args.length c) y (.slice b y.args.length d) = S := ⟨_, rfl⟩
  rw [hS] at hS0 h9x h9y h18 h19 h17 h20 h21 hC hdr hbl
  clear hS
  obtain ⟨t0, t1, t2, u0, u1, u2⟩ := hC _ hS0
  obtain ⟨sm, hsm⟩ : ∃ sm, same x y = sm := ⟨_, rfl⟩
  rw [hsm] at h18 h19
  clear hsm
  obtain ⟨rx, hrx⟩ : ∃ r, x.rightW = r := ⟨_, rfl⟩
  obtain ⟨ry, hry⟩ : ∃ r, y.rightW = r := ⟨_, rfl⟩
  rw [hrx] at h9x hcs
  rw [hry] at h9y hcs
  clear hrx hry
  obtain ⟨cm, hcm⟩ : ∃ r, T.cmp x y = r := ⟨_, rfl⟩
  obtain ⟨rc, hrc⟩ : ∃ r, T.rcmp x y = r := ⟨_, rfl⟩
  rw [hcm] at h20 hcs
  rw [hrc] at h21 hcs
  clear hcm hrc
  by_cases e1 : rx = 0
  · subst e1
    by_cases e2 : ry = 0
    · subst e2
      obtain rfl := hcs rfl rfl
      go_enter Try.func4, Try.ntmps4
      go_wp2_with (first
        | (go_at_call 9; refine (h9y _ HW2).mono ?_; rintro e W3 ⟨rfl, HW3⟩)
        | (go_at_call 9; refine (h9x _ hS0).mono ?_; rintro e W2 ⟨rfl, HW2⟩; obtain ⟨k0, k1, k2, k3, k4, k5⟩ := hC _ HW2))
      have hSd := hdr _ HW3
      clear t0 t1 t2 u0 u1 u2 k0 k1 k2 k3 k4 k5
      obtain ⟨n0, n1, n2, n3, n4, n5⟩ := hC _ hSd
      clear h9x h9y hdr
      go_region_held3 (fun X => X.cell? ⟨w.heap.size, 0, none⟩ = some (.int .i64 x.v) ∧ X.cell? ⟨w.heap.size, 1, none⟩ = some (.string x.fn) ∧ X.cell? ⟨w.heap.size, 2, none⟩ = some (.slice a x.args.length c) ∧ X.cell? ⟨w.heap.size + 1, 0, none⟩ = some (.int .i64 y.v) ∧ X.cell? ⟨w.heap.size + 1, 1, none⟩ = some (.string y.fn) ∧ X.cell? ⟨w.heap.size + 1, 2, none⟩ = some (.slice b y.args.length d)) (first | exact ⟨n0, n1, n2, n3, n4, n5⟩ | exact K4 | exact K5 | exact K6 | exact K7 | exact K8) (first
      | (go_at_call 18; refine (h18 _ hSd).mono ?_; rintro e W4 ⟨rfl, HW4⟩; have K4 := hC _ HW4)
      | (go_at_call 19; refine (h19 _ HW4).mono ?_; rintro e W5 ⟨rfl, HW5⟩; have K5 := hC _ HW5)
      | (go_at_call 20; refine (h20 _ HW5).mono ?_; rintro e W6 ⟨rfl, HW6⟩; have K6 := hC _ HW6)
      | (go_at_call 21; refine (h21 _ HW6).mono ?_; rintro e W7 ⟨rfl, HW7⟩; have K7 := hC _ HW7)
      | (go_at_call 17; refine (h17 _ HW7).mono ?_; rintro e W8 ⟨rfl, HW8⟩; have K8 := hC _ HW8))
      go_wp2
      go_ret
      exact ⟨rfl, hbl _ HW8⟩
    · have hd2 : decide (ry = 0) = false := by simp [e2]
      go_enter Try.func4, Try.ntmps4
      go_wp2_with (first
        | (go_at_call 9; refine (h9y _ HW2).mono ?_; rintro e W3 ⟨rfl, HW3⟩)
        | (go_at_call 9; refine (h9x _ hS0).mono ?_; rintro e W2 ⟨rfl, HW2⟩; obtain ⟨k0, k1, k2, k3, k4, k5⟩ := hC _ HW2))
      have hSd := hdr _ HW3
      clear t0 t1 t2 u0 u1 u2 k0 k1 k2 k3 k4 k5
      obtain ⟨n0, n1, n2, n3, n4, n5⟩ := hC _ hSd
      clear h9x h9y h20 h21 hcs hdr
      go_region_held3 (fun X => X.cell? ⟨w.heap.size, 0, none⟩ = some (.int .i64 x.v) ∧ X.cell? ⟨w.heap.size, 1, none⟩ = some (.string x.fn) ∧ X.cell? ⟨w.heap.size, 2, none⟩ = some (.slice a x.args.length c) ∧ X.cell? ⟨w.heap.size + 1, 0, none⟩ = some (.int .i64 y.v) ∧ X.cell? ⟨w.heap.size + 1, 1, none⟩ = some (.string y.fn) ∧ X.cell? ⟨w.heap.size + 1, 2, none⟩ = some (.slice b y.args.length d)) (first | exact ⟨n0, n1, n2, n3, n4, n5⟩ | exact K4 | exact K5 | exact K6) (first
      | (go_at_call 18; refine (h18 _ hSd).mono ?_; rintro e W4 ⟨rfl, HW4⟩; have K4 := hC _ HW4)
      | (go_at_call 19; refine (h19 _ HW4).mono ?_; rintro e W5 ⟨rfl, HW5⟩; have K5 := hC _ HW5)
      | (go_at_call 17; refine (h17 _ HW5).mono ?_; rintro e W6 ⟨rfl, HW6⟩; have K6 := hC _ HW6))
      go_wp2
      go_ret
      exact ⟨rfl, hbl _ HW6⟩
  · have hd1 : decide (rx = 0) = false := by simp [e1]
    go_enter Try.func4, Try.ntmps4
    go_wp2_with (first | (go_at_call 9; refine (h9x _ hS0).mono ?_; rintro e W2 ⟨rfl, HW2⟩))
    have hSd := hdr _ HW2
    obtain ⟨n0, n1, n2, n3, n4, n5⟩ := hC _ hSd
    clear h9x h9y h20 h21 hcs hdr
    go_region_held3 (fun X => X.cell? ⟨w.heap.size, 0, none⟩ = some (.int .i64 x.v) ∧ X.cell? ⟨w.heap.size, 1, none⟩ = some (.string x.fn) ∧ X.cell? ⟨w.heap.size, 2, none⟩ = some (.slice a x.args.length c) ∧ X.cell? ⟨w.heap.size + 1, 0, none⟩ = some (.int .i64 y.v) ∧ X.cell? ⟨w.heap.size + 1, 1, none⟩ = some (.string y.fn) ∧ X.cell? ⟨w.heap.size + 1, 2, none⟩ = some (.slice b y.args.length d)) (first | exact ⟨n0, n1, n2, n3, n4, n5⟩ | exact K3 | exact K4 | exact K5) (first
      | (go_at_call 18; refine (h18 _ hSd).mono ?_; rintro e W3 ⟨rfl, HW3⟩; have K3 := hC _ HW3)
      | (go_at_call 19; refine (h19 _ HW3).mono ?_; rintro e W4 ⟨rfl, HW4⟩; have K4 := hC _ HW4)
      | (go_at_call 17; refine (h17 _ HW4).mono ?_; rintro e W5 ⟨rfl, HW5⟩; have K5 := hC _ HW5))
    go_wp2
    go_ret
    exact ⟨rfl, hbl _ HW5⟩

end Go.Proofs.Ytbbfpllffcfmhaa
