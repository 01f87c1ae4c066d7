/-
  Binds, of one list twice.
-/
import Derived.Test.YtijihmncbaoklaaSB
namespace Go.Proofs.Ytijihmncbaoklaa
open Go.RowKit

set_option maxRecDepth 100000 in
set_option maxHeartbeats 4000000 in
theorem binds_same (l : List Bd) (sl sm : Value) (w : World) (ha : BindsAt w sl l) (hb : BindsAt w sm l) :
    Calls Try.prog 12 #[sl, sm] w fun e w' => e = .returned (.bool true) ∧ Below w.heap.size w w' := by
  have hlen := ha.len
  obtain ⟨a, c, rfl⟩ := ha.slice
  obtain ⟨b, d, rfl⟩ := hb.slice
  have HA : Hid (BindsAt w (.slice a l.length c) l ∧ BindsAt w (.slice b l.length d) l) := ⟨ha, hb⟩
  clear ha hb
  go_enter Try.func12, Try.ntmps12
  go_wp2
  go_loopw [5] (fun vi wr => ∃ i : Nat, vi = .int .i64 i ∧ i ≤ l.length ∧ Below w.heap.size w wr) (fun vi _ => l.length - (intOf vi).toNat)
  case atStart => exact ⟨0, rfl, Nat.zero_le _, Below.refl _ _⟩
  case round =>
    obtain ⟨i, rfl, hi, hw⟩ := hrel
    by_cases hlt : i < l.length
    · obtain ⟨ba, oa, s, e', hX0⟩ := HA.out.1.nth hlt
      cases e'
      obtain ⟨bb, ob, s', e', hY0⟩ := HA.out.2.nth hlt
      cases e'
      have hX := hX0.keep hw
      have hY := hY0.keep hw
      obtain ⟨x, hx⟩ : ∃ x, l[i] = x := ⟨_, rfl⟩
      rw [hx] at hX hY
      obtain ⟨sa, sc, rfl, _, _⟩ := hX.sub.slice
      obtain ⟨ta, tc, rfl, _, _⟩ := hY.sub.slice
      have hc : ∀ W, Below wr.heap.size wr W → Calls Try.prog 26 #[tval x.2 (.slice sa x.2.args.length sc), tval x.2 (.slice ta x.2.args.length tc)] W fun e w' => e = .returned (.bool true) ∧ Below W.heap.size W w' := fun W hW => (rsame_any x.2 x.2 _ _ W (ArgsAt.keep hW (Nat.le_refl _) hX.sub) (ArgsAt.keep hW (Nat.le_refl _) hY.sub)).mono fun e X' ⟨he, h⟩ => ⟨by rw [he, same_iff.2 rfl], h⟩
      have f0 := fun p => cell_far hX.lt hX.c0 p
      have f1 := fun p => cell_far hX.lt hX.c1 p
      have f2 := fun p => cell_far hX.lt hX.c2 p
      have f3 := fun p => cell_far hX.lt hX.c3 p
      have g0 := fun p => cell_far hY.lt hY.c0 p
      have g1 := fun p => cell_far hY.lt hY.c1 p
      have g2 := fun p => cell_far hY.lt hY.c2 p
      have g3 := fun p => cell_far hY.lt hY.c3 p
      have i0 : (i : Int) < (l.length : Int) := by omega
      have i1 : (0 : Int) ≤ (i : Int) := by omega
      have hd1 : (x.1 != x.1) = false := by rw [bne_eq_false_iff_eq]
      have hd2 : decide (x.1 = x.1) = true := decide_eq_true rfl
      have HB : Hid (Below w.heap.size w wr) := hw
      clear hX hY hX0 hY0 hw hx
      go_wp2
      refine wp_region_far (by kernel_rfl) ?_
      repeat (first | go_big_quiet_step (exact calls_far hc _) | quiet_step (exact calls_far hc _))
      refine wpQuiet_nil ?_
      intro _ hw'
      obtain ⟨pf, rfl⟩ := hw'
      go_wp2
      go_roundw
      case rel => exact ⟨i + 1, by go_num, by omega, HB.out.trans ((below_far _ pf).mono HB.out.size)⟩
      case measure => simp [intOf]; omega
    · go_wp2
      go_ret
      exact ⟨rfl, hw⟩

end Go.Proofs.Ytijihmncbaoklaa
