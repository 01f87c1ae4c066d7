/-
  slices.Grow of a nil slice of terms.
-/
import Derived.Test.YtgnjgpplelakkaaLV
import Derived.Lib.AppendZerosOnto
import Derived.Lib.SliceRun
namespace Go.Proofs.Ytgnjgpplelakkaa
open Go.RowKit Go.Maps

set_option maxHeartbeats 1000000 in
theorem grow_zero (w : World) : Calls Try.prog 86 #[.slice none 0 0, .int .i64 0] w fun e w' => e = .returned (.slice none 0 0) ∧ w' = w := by
  go_enter Try.func86, Try.ntmps86
  go_wp2
  go_ret
  exact ⟨rfl, rfl⟩

set_option maxRecDepth 100000 in
set_option maxHeartbeats 2000000 in
theorem grow_some (n : Nat) (w : World) (h0 : 0 < n) (hn : n ≤ 1048576) (base : Nat) (hb : base ≤ w.heap.size) : Calls Try.prog 86 #[.slice none 0 0, .int .i64 n] w fun e w' => ∃ c, e = .returned (.slice (some ⟨w.heap.size, 0, none⟩) 0 c) ∧ w'.ownsRow base 26 3 (.slice (some ⟨w.heap.size, 0, none⟩) 0 c) 0 [] ∧ Below w.heap.size w w' := by
  obtain ⟨i0, hi, hz0, hz1, hz2⟩ := info_parts Try.info26
  have hrz : ∀ ty, (Builtin.append_ #[24, 3] ty #[.slice none 0 0, .int .i64 n]).run Try.prog w = .ok (.slice (some ⟨w.heap.size, 0, none⟩) n (grownCap w n 0 26)) (w.drew.alloc (.cells (([] : List Value).toArray ++ Builtin.zeroCells (Value.agg #[.int .i64 0, .string ⟨#[]⟩, .slice none 0 0]).cells n ++ Builtin.zeroCells (Value.agg #[.int .i64 0, .string ⟨#[]⟩, .slice none 0 0]).cells (grownCap w n 0 26 - n)) 26)) := fun ty => by
    have h := Lib.run_append_grow_zeros w 24 3 ty 26 i0 _ .i64 .i64 Try.underlying24 Try.underlying3 hi hz0 none 0 0 [] (run_firstCells_none w.drew i0.size 0 0 0) n h0 (by rw [hz1]; decide) (by omega) (by omega) (by rw [hz2]; omega) (by rw [Nat.zero_add]; exact growslice_fits h0 (by rw [hz2]; omega))
    simp only [Nat.zero_add] at h
    exact h
  obtain ⟨G, W1, hrun, hown, hbel, hg⟩ : ∃ G W1, (∀ ty, (Builtin.append_ #[24, 3] ty #[.slice none 0 0, .int .i64 n]).run Try.prog w = .ok (.slice (some ⟨w.heap.size, 0, none⟩) n G) W1) ∧ W1.ownsRow base 26 3 (.slice (some ⟨w.heap.size, 0, none⟩) 0 G) 0 [] ∧ Below w.heap.size w W1 ∧ n ≤ G ∧ G ≤ 9223372036854775807 := by
    have hG1 : n ≤ grownCap w n 0 26 := grownCap_ge w _ _ _
    have hG2 : grownCap w n 0 26 ≤ maxLen := grownCap_le_maxLen w n 0 26 (by unfold maxLen; omega)
    refine ⟨_, _, hrz, ⟨rfl, .inr ⟨w.heap.size, grownCap w n 0 26, _, rfl, hb, (MapKept.heap_alloc w.drew _).1, Nat.zero_le _, hG2, ?_, by simp⟩⟩, (Below.refl _ w).drew.trans (below_box w.drew _), hG1, by unfold maxLen at hG2; omega⟩
    have e : (Value.agg #[.int .i64 0, .string ⟨#[]⟩, .slice none 0 0]).cells.size = 3 := rfl
    simp only [Array.size_append, List.size_toArray, List.length_nil, Builtin.zeroCells, Array.size_map, Array.size_range, e]
    omega
  have HO : Hid (W1.ownsRow base 26 3 (.slice (some ⟨w.heap.size, 0, none⟩) 0 G) 0 [] ∧ Below w.heap.size w W1) := ⟨hown, hbel⟩
  obtain ⟨hg1, hg2⟩ := hg
  have hp : (n : Int) > 0 := by omega
  have hp0 : ¬ ((n : Int) < 0) := by omega
  clear hown hbel hrz hi hz0 hz1 hz2
  go_enter Try.func86, Try.ntmps86
  go_wp2_with (at_builtin; refine Lib.wpList_append_run _ rfl _ _ _ _ rfl _ _ rfl rfl _ _ (hrun _) ?_)
  all_goals first | (exfalso; omega) | skip
  go_ret
  exact ⟨G, rfl, HO.out⟩

end Go.Proofs.Ytgnjgpplelakkaa
