/-
  alive.
-/
import Derived.Test.YtbbfpllffcfmhaaZF
import Derived.Test.YtbbfpllffcfmhaaN
namespace Go.Proofs.Ytbbfpllffcfmhaa
open Go.RowKit Go.Maps

set_option maxHeartbeats 1000000 in
theorem fa_any (a : Option Addr) (n c : Nat) (w : World) : Calls Try.prog 39 #[.slice a n c] w fun e w' => e = .returned (.agg #[.int .i64 0, .string ⟨#[102]⟩, .slice a n c]) ∧ Below w.heap.size w w' ∧ w'.heap.size = w.heap.size + 1 := by
  have hb := below_box w (.cells #[.int .i64 0, .string ⟨#[]⟩, .slice none 0 0] 24)
  go_enter Try.func39, Try.ntmps39
  go_wp2
  refine bodyPost_ret (v := .agg #[.int .i64 0, .string ⟨#[102]⟩, .slice a n c]) (by simp [results, Try.results39, go_sem, *]) rfl ⟨rfl, ?_, ?_⟩
  · first | exact (((hb.setCell (p := ⟨w.heap.size, 0, none⟩) (Nat.le_refl _) _).setCell (p := ⟨w.heap.size, 1, none⟩) (Nat.le_refl _) _).setCell (p := ⟨w.heap.size, 2, none⟩) (Nat.le_refl _) _) | exact below_box w _
  · simp

/-- The arguments of f(a, a) in memory. -/
theorem args_f {W : World} {b : Nat} (h : W.heap[b]? = some (.cells #[.int .i64 0, .string ⟨#[97]⟩, .slice none 0 0, .int .i64 0, .string ⟨#[97]⟩, .slice none 0 0] 24 (0, 0))) : ArgsAt W (.slice (some ⟨b, 0, none⟩) 2 2) Tf.args := by
  refine .mk (some ⟨b, 0, none⟩) 2 Tf.args (fun _ => .slice none 0 0) (by simp [Tf, T.args]) (by omega) (fun _ => ⟨b, 0, (Array.getElem?_eq_some_iff.1 h).1, rfl, fun i hi => ?_⟩) (fun i hi => ?_)
  · have : i < 2 := hi
    match i, this with
    | 0, _ => refine ⟨?_, ?_, ?_⟩ <;> rw [cell_of_row _ _ _ _ 24 (0, 0) h] <;> rfl
    | 1, _ => refine ⟨?_, ?_, ?_⟩ <;> rw [cell_of_row _ _ _ _ 24 (0, 0) h] <;> rfl
  · have : i < 2 := hi
    match i, this with
    | 0, _ => exact .mk none 0 [] (fun _ => undef) (Nat.zero_le _) (by omega) (fun h => by cases h) (fun i h => by cases h)
    | 1, _ => exact .mk none 0 [] (fun _ => undef) (Nat.zero_le _) (by omega) (fun h => by cases h) (fun i h => by cases h)

theorem Tf_size : Tf.size = 3 := by simp [Tf, Ta, T.size, T.size.sizes]
theorem Tf_short : Short Tf := by
  intro q hq
  simp [Tf, Ta, T.parts, T.parts.kids] at hq
  rcases hq with rfl | rfl | rfl <;> simp

end Go.Proofs.Ytbbfpllffcfmhaa
