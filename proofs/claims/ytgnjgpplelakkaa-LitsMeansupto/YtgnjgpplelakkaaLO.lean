import Derived.Test.YtgnjgpplelakkaaLM
import Derived.Test.YtgnjgpplelakkaaLV
import Derived.Lib.AppendZerosOnto
import Derived.Lib.SliceRun

/-
  The names that variables get: lits.renamer's closure name.
-/
namespace Go.Proofs.Ytgnjgpplelakkaa
open Go.RowKit Go.Maps

/-- Where a number was met first. -/
def idx (met : List Int) (n : Int) : Option Nat := met.findIdx? (· == n)
/-- The map of names. -/
def mm (met : List Int) : Value → Option Value
  | .int .i64 n => (idx met n).map fun (j : Nat) => Value.int .i64 (j : Int)
  | _ => none

theorem idx_snoc (met : List Int) (n : Int) (h : idx met n = none) (m : Int) : idx (met ++ [n]) m = if m = n then some met.length else idx met m := by
  unfold idx at *
  rw [List.findIdx?_append]
  by_cases e : m = n
  · subst e
    rw [h]
    simp
  · rw [if_neg e]
    have : List.findIdx? (fun x => x == m) [n] = none := by simp [List.findIdx?_cons]; omega
    rw [this]
    simp

theorem upd_mm (met : List Int) (n : Int) (h : idx met n = none) : upd (mm met) (.int .i64 n) (.int .i64 (met.length : Int)) = mm (met ++ [n]) := by
  funext v
  unfold upd
  by_cases e : v = .int .i64 n
  · subst e
    rw [if_pos rfl]
    simp only [mm, idx_snoc met n h, if_true, Option.map_some]
  · rw [if_neg e]
    cases v with
    | int k m =>
      cases k <;> try rfl
      simp only [mm, idx_snoc met n h]
      rw [if_neg (fun hmn => e (by rw [hmn]))]
    | _ => rfl

/-- The names behind a number, and the number's name. -/
def nm (met : List Int) (n : Int) : List Int × Int :=
  if n < 0 ∨ 1000000 ≤ n then (met, n) else match idx met n with
    | some j => (met, (j : Int))
    | none => (met ++ [n], (met.length : Int))

theorem nm_len (met : List Int) (n : Int) : (nm met n).1.length ≤ met.length + 1 := by
  unfold nm
  split
  · simp
  · split <;> simp

theorem zero3 (w : World) : (zeroValue 3).run Try.prog w = .ok (.int .i64 0) w := Try.zeroValue3 w

set_option maxRecDepth 100000 in
set_option maxHeartbeats 2000000 in
theorem name_any (b C : Nat) (met : List Int) (n : Int) (W : World) (hC : W.cell? ⟨C, 0, none⟩ = some (.map (some b))) (hCb : C ≠ b) (hm : MapIs W 3 b (mm met) met.length) (hlen : met.length ≤ 1073741824) :
    Calls Try.prog 84 #[.int .i64 n, .pointer (some ⟨C, 0, none⟩)] W fun e W' => e = .returned (.int .i64 (nm met n).2) ∧ MapIs W' 3 b (mm (nm met n).1) (nm met n).1.length ∧ Only [b] W W' := by
  by_cases hr : n < 0 ∨ 1000000 ≤ n
  · have HE : Hid (nm met n = (met, n)) := by show _ = _; unfold nm; rw [if_pos hr]
    have HR : Hid (True ∧ MapIs W 3 b (mm met) met.length) := ⟨trivial, hm⟩
    clear hm
    rcases hr with hr | hr
    · go_enter Try.func84, Try.ntmps84
      go_wp2
      go_ret
      exact ⟨ret_i64 (by rw [HE.out]), by rw [HE.out]; exact HR.out.2, Only.refl _ _⟩
    · have hr0 : ¬ n < 0 := by omega
      go_enter Try.func84, Try.ntmps84
      go_wp2
      all_goals first | (exfalso; omega) | skip
      go_ret
      exact ⟨ret_i64 (by rw [HE.out]), by rw [HE.out]; exact HR.out.2, Only.refl _ _⟩
  · have hk := key3 (a := n) ⟨by omega, by omega⟩
    have h0 : ¬ n < 0 := by omega
    have h1 : ¬ 1000000 ≤ n := by omega
    cases hi : idx met n with
    | some j =>
      have HE : Hid (nm met n = (met, (j : Int))) := by show _ = _; unfold nm; rw [if_neg hr, hi]
      obtain ⟨hl1, hl2⟩ := (hm.look keyed3 Try.underlying89 (zero3 W) hk).1 (.int .i64 (j : Int)) (by simp [mm, hi])
      have HR : Hid (MapIs W 3 b (mm met) met.length) := hm
      clear hm hi hk hr
      go_enter Try.func84, Try.ntmps84
      go_wp2
      all_goals first | (exfalso; omega) | skip
      go_ret
      exact ⟨ret_i64 (by rw [HE.out]), by rw [HE.out]; exact HR.out, Only.refl _ _⟩
    | none =>
      have HE : Hid (nm met n = (met ++ [n], (met.length : Int))) := by show _ = _; unfold nm; rw [if_neg hr, hi]
      have hno : mm met (.int .i64 n) = none := by simp [mm, hi]
      obtain ⟨hl1, hl2⟩ := (hm.look keyed3 Try.underlying89 (zero3 W) hk).2 hno
      have hln := hm.len Try.underlying89 3
      obtain ⟨W2, hrun, hM2, hg2⟩ := hm.put keyed3 Try.underlying89 (by unfold maxLen; omega) hk (.int .i64 (met.length : Int))
      rw [hno, upd_mm met n hi] at hM2
      simp only at hM2
      have hC2 : W2.cell? ⟨C, 0, none⟩ = some (.map (some b)) := hg2.cell (a := ⟨C, 0, none⟩) hC (fun e => hCb (Option.some.inj e))
      have hl3 := ((hM2.look keyed3 Try.underlying89 (zero3 W2) hk).1 (.int .i64 (met.length : Int)) (by simp only [mm, idx_snoc met n hi, if_true, Option.map_some])).2
      have HO : Hid (MapIs W2 3 b (mm (met ++ [n])) (met.length + 1) ∧ Only [b] W W2) := ⟨hM2, Only.of_grown hg2 (fun r e => by cases e; simp)⟩
      clear hm hM2 hg2 hi hk hr hno
      go_enter Try.func84, Try.ntmps84
      go_wp2_with (first | (refine wpList_mapUpdate_run rfl 89 _ _ _ rfl (.map (some b)) (.int .i64 n) (.int .i64 (met.length : Int)) rfl rfl rfl hrun ?_))
      all_goals first | (exfalso; omega) | skip
      go_ret
      exact ⟨ret_i64 (by rw [HE.out]), by rw [HE.out]; simpa using HO.out.1, HO.out.2⟩

end Go.Proofs.Ytgnjgpplelakkaa

/-
  slices.Grow of a nil slice of terms.
-/
namespace Go.Proofs.Ytgnjgpplelakkaa
open Go.RowKit Go.Maps

set_option maxHeartbeats 1000000 in
theorem grow_zero (w : World) : Calls Try.prog 86 #[.slice none 0 0, .int .i64 0] w fun e w' => e = .returned (.slice none 0 0) ∧ w' = w := by
  go_enter Try.func86, Try.ntmps86
  go_wp2
  go_ret
  exact ⟨rfl, rfl⟩

set_option maxRecDepth 100000 in
set_option maxHeartbeats 2000000 in
theorem grow_some (n : Nat) (w : World) (h0 : 0 < n) (hn : n ≤ 1048576) (base : Nat) (hb : base ≤ w.heap.size) : Calls Try.prog 86 #[.slice none 0 0, .int .i64 n] w fun e w' => ∃ c, e = .returned (.slice (some ⟨w.heap.size, 0, none⟩) 0 c) ∧ w'.ownsRow base 26 3 (.slice (some ⟨w.heap.size, 0, none⟩) 0 c) 0 [] ∧ Below w.heap.size w w' := by
  obtain ⟨i0, hi, hz0, hz1, hz2⟩ := info_parts Try.info26
  have hrz : ∀ ty, (Builtin.append_ #[24, 3] ty #[.slice none 0 0, .int .i64 n]).run Try.prog w = .ok (.slice (some ⟨w.heap.size, 0, none⟩) n (grownCap w n 0 26)) (w.drew.alloc (.cells (([] : List Value).toArray ++ Builtin.zeroCells (Value.agg #[.int .i64 0, .string ⟨#[]⟩, .slice none 0 0]).cells n ++ Builtin.zeroCells (Value.agg #[.int .i64 0, .string ⟨#[]⟩, .slice none 0 0]).cells (grownCap w n 0 26 - n)) 26)) := fun ty => by
    have h := Lib.run_append_grow_zeros w 24 3 ty 26 i0 _ .i64 .i64 Try.underlying24 Try.underlying3 hi hz0 none 0 0 [] (run_firstCells_none w.drew i0.size 0 0 0) n h0 (by rw [hz1]; decide) (by omega) (by omega) (by rw [hz2]; omega) (by rw [Nat.zero_add]; exact growslice_fits h0 (by rw [hz2]; omega))
    simp only [Nat.zero_add] at h
    exact h
  obtain ⟨G, W1, hrun, hown, hbel, hg⟩ : ∃ G W1, (∀ ty, (Builtin.append_ #[24, 3] ty #[.slice none 0 0, .int .i64 n]).run Try.prog w = .ok (.slice (some ⟨w.heap.size, 0, none⟩) n G) W1) ∧ W1.ownsRow base 26 3 (.slice (some ⟨w.heap.size, 0, none⟩) 0 G) 0 [] ∧ Below w.heap.size w W1 ∧ n ≤ G ∧ G ≤ 9223372036854775807 := by
    have hG1 : n ≤ grownCap w n 0 26 := grownCap_ge w _ _ _
    have hG2 : grownCap w n 0 26 ≤ maxLen := grownCap_le_maxLen w n 0 26 (by unfold maxLen; omega)
    refine ⟨_, _, hrz, ⟨rfl, .inr ⟨w.heap.size, grownCap w n 0 26, _, rfl, hb, (MapKept.heap_alloc w.drew _).1, Nat.zero_le _, hG2, ?_, by simp⟩⟩, (Below.refl _ w).drew.trans (below_box w.drew _), hG1, by unfold maxLen at hG2; omega⟩
    have e : (Value.agg #[.int .i64 0, .string ⟨#[]⟩, .slice none 0 0]).cells.size = 3 := rfl
    simp only [Array.size_append, List.size_toArray, List.length_nil, Builtin.zeroCells, Array.size_map, Array.size_range, e]
    omega
  have HO : Hid (W1.ownsRow base 26 3 (.slice (some ⟨w.heap.size, 0, none⟩) 0 G) 0 [] ∧ Below w.heap.size w W1) := ⟨hown, hbel⟩
  obtain ⟨hg1, hg2⟩ := hg
  have hp : (n : Int) > 0 := by omega
  have hp0 : ¬ ((n : Int) < 0) := by omega
  clear hown hbel hrz hi hz0 hz1 hz2
  go_enter Try.func86, Try.ntmps86
  go_wp2_with (at_builtin; refine Lib.wpList_append_run _ rfl _ _ _ _ rfl _ _ rfl rfl _ _ (hrun _) ?_)
  all_goals first | (exfalso; omega) | skip
  go_ret
  exact ⟨G, rfl, HO.out⟩

end Go.Proofs.Ytgnjgpplelakkaa
