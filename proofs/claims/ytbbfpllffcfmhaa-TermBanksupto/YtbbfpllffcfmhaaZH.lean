import Derived.Test.YtbbfpllffcfmhaaZF
import Derived.Test.YtbbfpllffcfmhaaN

/-
  alive.
-/
namespace Go.Proofs.Ytbbfpllffcfmhaa
open Go.RowKit Go.Maps

set_option maxHeartbeats 1000000 in
theorem fa_any (a : Option Addr) (n c : Nat) (w : World) : Calls Try.prog 39 #[.slice a n c] w fun e w' => e = .returned (.agg #[.int .i64 0, .string ⟨#[102]⟩, .slice a n c]) ∧ Below w.heap.size w w' ∧ w'.heap.size = w.heap.size + 1 := by
  have hb := below_box w (.cells #[.int .i64 0, .string ⟨#[]⟩, .slice none 0 0] 24)
  go_enter Try.func39, Try.ntmps39
  go_wp2
  refine bodyPost_ret (v := .agg #[.int .i64 0, .string ⟨#[102]⟩, .slice a n c]) (by simp [results, Try.results39, go_sem, *]) rfl ⟨rfl, ?_, ?_⟩
  · first | exact (((hb.setCell (p := ⟨w.heap.size, 0, none⟩) (Nat.le_refl _) _).setCell (p := ⟨w.heap.size, 1, none⟩) (Nat.le_refl _) _).setCell (p := ⟨w.heap.size, 2, none⟩) (Nat.le_refl _) _) | exact below_box w _
  · simp

/-- The arguments of f(a, a) in memory. -/
theorem args_f {W : World} {b : Nat} (h : W.heap[b]? = some (.cells #[.int .i64 0, .string ⟨#[97]⟩, .slice none 0 0, .int .i64 0, .string ⟨#[97]⟩, .slice none 0 0] 24 (0, 0))) : ArgsAt W (.slice (some ⟨b, 0, none⟩) 2 2) Tf.args := by
  refine .mk (some ⟨b, 0, none⟩) 2 Tf.args (fun _ => .slice none 0 0) (by simp [Tf, T.args]) (by omega) (fun _ => ⟨b, 0, (Array.getElem?_eq_some_iff.1 h).1, rfl, fun i hi => ?_⟩) (fun i hi => ?_)
  · have : i < 2 := hi
    match i, this with
    | 0, _ => refine ⟨?_, ?_, ?_⟩ <;> rw [cell_of_row _ _ _ _ 24 (0, 0) h] <;> rfl
    | 1, _ => refine ⟨?_, ?_, ?_⟩ <;> rw [cell_of_row _ _ _ _ 24 (0, 0) h] <;> rfl
  · have : i < 2 := hi
    match i, this with
    | 0, _ => exact .mk none 0 [] (fun _ => undef) (Nat.zero_le _) (by omega) (fun h => by cases h) (fun i h => by cases h)
    | 1, _ => exact .mk none 0 [] (fun _ => undef) (Nat.zero_le _) (by omega) (fun h => by cases h) (fun i h => by cases h)

theorem Tf_size : Tf.size = 3 := by simp [Tf, Ta, T.size, T.size.sizes]
theorem Tf_short : Short Tf := by
  intro q hq
  simp [Tf, Ta, T.parts, T.parts.kids] at hq
  rcases hq with rfl | rfl | rfl <;> simp

end Go.Proofs.Ytbbfpllffcfmhaa

/-
  Make(f(a, a)) in a new bank.
-/
namespace Go.Proofs.Ytbbfpllffcfmhaa
open Go.RowKit Go.Maps

theorem Tf_right : Tf.rightW = 0 := by kernel_rfl
theorem Tf_shape : Tf.shape = true := by kernel_rfl

theorem Tf_missing : (missing [] Good.nil.fits Tf : Int) ≤ 3 := by
  have h := ((missM 0 0 0 0 0 0 [] [] Good.nil.fits).facts Tf ([] : List Nd)).2.2
  have hs := Tf_size
  have h2 : (((missM 0 0 0 0 0 0 [] [] Good.nil.fits).cnt ([] : List Nd) : Nat) : Int) = 0 := rfl
  rw [h2, hs] at h
  exact h

theorem make_f (w2 w3 : World) (b Ba : Nat) (B : List Nat) (_hbl : b < w2.heap.size) (h : w2.heap[b]? = some (.cells #[.int .i64 0, .string ⟨#[97]⟩, .slice none 0 0, .int .i64 0, .string ⟨#[97]⟩, .slice none 0 0] 24 (0, 0))) (hBk : BankSt w2.heap.size Ba B 10 [] [] w3) (hb3 : Below w2.heap.size w2 w3) :
    Calls Try.prog 25 #[.pointer (some ⟨Ba, 0, none⟩), .agg #[.int .i64 0, .string ⟨#[102]⟩, .slice (some ⟨b, 0, none⟩) 2 2]] w3 fun e W' => e = .returned (.tuple #[.int .i64 2, .int .i64 0]) ∧ ∃ B', BankSt w2.heap.size Ba B' 10 ((bumps [1, 1] ([⟨1, Na, 0, 0⟩] ++ [⟨2, Nf, 0, 0⟩])).map (keepE 2)) [] W' ∧ Below w2.heap.size w2 W' := by
  obtain ⟨s, hn, hs⟩ := num_f w2.heap.size Ba 10
  have hm := Tf_missing
  have := make_room w2 w2.heap.size Ba B 10 ⟨[], Good.nil⟩ Tf (.slice (some ⟨b, 0, none⟩) 2 2) w3 (Nat.le_refl _) hBk (by simp) (by omega) (by omega) (args_f h) hb3 Tf_short Tf_right Tf_shape (by rw [Tf_size]; omega) (by simp only [List.length_nil]; omega)
  rw [hn] at this
  refine Calls.mono this ?_
  rintro e W' ⟨he, B', h1, h2, h3⟩
  rw [hs] at h1
  exact ⟨he, B', h1, hb3.trans (h3.below hb3.size (fun r hr => (hBk.there r hr).1))⟩

end Go.Proofs.Ytbbfpllffcfmhaa
