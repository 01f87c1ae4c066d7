/-
  Sorting what is sorted.
-/
import Derived.Test.YthinbkpjggihdaaSO
import Derived.Test.YthinbkpjggihdaaSC
import Derived.Test.YthinbkpjggihdaaShelf
namespace Go.Proofs.Ythinbkpjggihdaa
open Go.RowKit

set_option maxHeartbeats 1000000 in
theorem rcmp_any (x y : Bd) (sx sy : Value) (w : World) (hx : ∃ a m c, sx = .slice a m c) (hy : ∃ a m c, sy = .slice a m c) :
    Calls Try.prog 66 #[bval x sx, bval y sy] w fun e w' => e = .returned (.int .i64 (Lib.compareInt x.1 y.1)) ∧ Below w.heap.size w w' := by
  obtain ⟨a, n, c, rfl⟩ := hx
  obtain ⟨b, m, d, rfl⟩ := hy
  obtain ⟨⟨t0, t1, t2, t3⟩, u0, u1, u2, u3⟩ := bbox2_cells w x (.slice a n c) y (.slice b m d)
  go_enter Try.func66, Try.ntmps66
  go_wp2_with (go_at_call 67; refine (cmpInt_any _ _ _).mono ?_; rintro e w' ⟨rfl, rfl⟩)
  go_ret
  exact ⟨rfl, below_box2 w _ _⟩

set_option maxRecDepth 100000 in
set_option maxHeartbeats 4000000 in
theorem insert_any (l : List Bd) (v : Value) (w : World) (hl : BindsAt w v l) (hr : Rising l) (hlen : l.length ≤ 12) :
    Calls Try.prog 80 #[v, .int .i64 0, .int .i64 l.length, .func (.func 66) #[] #[]] w fun e w' => e = .returned (.tuple #[]) ∧ Below w.heap.size w w' := by
  obtain ⟨a, c, rfl⟩ := hl.slice
  have HL : Hid (BindsAt w (.slice a l.length c) l ∧ Rising l) := ⟨hl, hr⟩
  clear hl hr
  go_enter Try.func80, Try.ntmps80
  go_wp2
  go_loopw [8] (fun vi wr => ∃ i : Nat, vi = .int .i64 (i + 1 : Nat) ∧ Below w.heap.size w wr) (fun vi _ => l.length + 1 - (intOf vi).toNat)
  case atStart => exact ⟨0, rfl, Below.refl _ _⟩
  case round =>
    obtain ⟨i, rfl, hb⟩ := hrel
    by_cases hlt : i + 1 < l.length
    · go_wp2
      go_loopw [9] (fun vj wr' => vj = .int .i64 (i + 1 : Nat) ∧ Below w.heap.size w wr') (fun _ _ => 0)
      case atStart => exact ⟨rfl, hb⟩
      case round =>
        obtain ⟨rfl, hb'⟩ := hrel
        obtain ⟨b, o, s, e', hX0⟩ := HL.out.1.nth hlt
        cases e'
        obtain ⟨b', o', s', e', hY0⟩ := HL.out.1.nth (i := i) (by omega)
        cases e'
        have hX := hX0.keep hb'
        have hY := hY0.keep hb'
        have hxy := HL.out.2 i (i + 1) hlt (by omega)
        obtain ⟨x, hx⟩ : ∃ x, l[i + 1] = x := ⟨_, rfl⟩
        obtain ⟨y, hy⟩ : ∃ y, l[i] = y := ⟨_, rfl⟩
        rw [hx] at hX hxy
        rw [hy] at hY hxy
        obtain ⟨sa, sc, rfl, _, _⟩ := hX.sub.slice
        obtain ⟨ta, tc, rfl, _, _⟩ := hY.sub.slice
        have hcv : Lib.compareInt x.1 y.1 = 1 := by unfold Lib.compareInt; rw [if_neg (by omega), if_pos (by omega)]
        have hc : ∀ W, Below wr.heap.size wr W → Calls Try.prog 66 #[bval x (.slice sa x.2.args.length sc), bval y (.slice ta y.2.args.length tc)] W fun e w' => e = .returned (.int .i64 1) ∧ Below W.heap.size W w' := fun W _ => by
          have := rcmp_any x y (.slice sa x.2.args.length sc) (.slice ta y.2.args.length tc) W ⟨_, _, _, rfl⟩ ⟨_, _, _, rfl⟩
          rwa [hcv] at this
        have f0 := fun p => cell_far hX.lt hX.c0 p
        have f1 := fun p => cell_far hX.lt hX.c1 p
        have f2 := fun p => cell_far hX.lt hX.c2 p
        have f3 := fun p => cell_far hX.lt hX.c3 p
        have g0 := fun p => cell_far hY.lt hY.c0 p
        have g1 := fun p => cell_far hY.lt hY.c1 p
        have g2 := fun p => cell_far hY.lt hY.c2 p
        have g3 := fun p => cell_far hY.lt hY.c3 p
        have i0 : (i : Int) + 1 < (l.length : Int) := by omega
        have i1 : (0 : Int) ≤ (i : Int) + 1 := by omega
        have i2 : (i : Int) < (l.length : Int) := by omega
        have i3 : (0 : Int) ≤ (i : Int) := by omega
        have i4 : IntKind.i64.wrap ((i : Int) + 1 - 1) = i := by rw [show (i : Int) + 1 - 1 = i by omega]; exact wrap_small _ (by omega) (by omega)
        have i5 : (0 : Int) < (i : Int) + 1 := by omega
        have i6 : decide ((0 : Int) < (i : Int) + 1) = true := decide_eq_true i5
        have HB : Hid (Below w.heap.size w wr) := hb'
        clear hX hY hX0 hY0 hb' hb hx hy hxy hcv
        go_wp2
        refine wp_region_far (by kernel_rfl) ?_
        repeat (first | go_big_quiet_step (exact calls_far hc _) | quiet_step (exact calls_far hc _))
        refine wpQuiet_nil ?_
        intro _ hw'
        obtain ⟨pf, rfl⟩ := hw'
        go_wp2
        go_roundw
        case rel => exact ⟨i + 1, by go_num, HB.out.trans ((below_far _ pf).mono HB.out.size)⟩
        case measure => simp [intOf]; omega
    · go_wp2
      (try simp only [Exit.inBlock, Exit.then])
      refine bodyPost_end (results_none rfl _ _ _) rfl ?_
      exact ⟨rfl, hb⟩

set_option maxRecDepth 100000 in
set_option maxHeartbeats 4000000 in
theorem pdq_any (l : List Bd) (v : Value) (q : Int) (w : World) (hl : BindsAt w v l) (hr : Rising l) (hlen : l.length ≤ 12) :
    Calls Try.prog 77 #[v, .int .i64 0, .int .i64 l.length, .int .i64 q, .func (.func 66) #[] #[]] w fun e w' => e = .returned (.tuple #[]) ∧ Below w.heap.size w w' := by
  have hi := insert_any l v w hl hr hlen
  obtain ⟨a, c, rfl⟩ := hl.slice
  clear hl hr
  go_enter Try.func77, Try.ntmps77
  go_wp2
  go_loopw [1, 2] (fun v1 v2 wr => v1 = .int .i64 0 ∧ v2 = .int .i64 l.length ∧ wr = w) (fun _ _ _ => 0)
  case atStart => exact ⟨rfl, rfl, rfl⟩
  case round =>
    obtain ⟨rfl, rfl, rfl⟩ := hrel
    go_wp2_with (first | (go_at_call 80; refine hi.mono ?_; rintro e w2 ⟨rfl, hb2⟩))
    (try simp only [Exit.inBlock, Exit.then])
    refine bodyPost_ret (results_none rfl _ _ _) rfl ?_
    exact ⟨rfl, hb2⟩

set_option maxHeartbeats 2000000 in
theorem sort_any (l : List Bd) (v : Value) (w : World) (hl : BindsAt w v l) (hr : Rising l) (hlen : l.length ≤ 12) :
    Calls Try.prog 65 #[v, .func (.func 66) #[] #[]] w fun e w' => e = .returned (.tuple #[]) ∧ Below w.heap.size w w' := by
  have hp := fun q => pdq_any l v q w hl hr hlen
  obtain ⟨a, c, rfl⟩ := hl.slice
  clear hl hr
  go_enter Try.func65, Try.ntmps65
  go_wp2_with (first | (go_at_call 78; refine (Try.bits_Len _ _ (by omega) (by omega)).mono ?_; rintro e w' ⟨rfl, rfl⟩) | (go_at_call 77; refine (hp _).mono ?_; rintro e w2 ⟨rfl, hb2⟩))
  (try simp only [Exit.inBlock, Exit.then])
  refine bodyPost_end (results_none rfl _ _ _) rfl ?_
  exact ⟨rfl, hb2⟩

set_option maxHeartbeats 1000000 in
theorem rising_any (l : List Bd) (v : Value) (w : World) (hl : BindsAt w v l) (hr : Rising l) (hlen : l.length ≤ 12) :
    Calls Try.prog 37 #[v] w fun e w' => e = .returned v ∧ Below w.heap.size w w' := by
  have hp := sort_any l v w hl hr hlen
  obtain ⟨a, c, rfl⟩ := hl.slice
  clear hl hr
  go_enter Try.func37, Try.ntmps37
  go_wp2_with (first | (go_at_call 65; refine hp.mono ?_; rintro e w2 ⟨rfl, hb2⟩))
  go_ret
  exact ⟨rfl, hb2⟩

end Go.Proofs.Ythinbkpjggihdaa
