/-
  Make(f(a, a)) in a new bank.
-/
import Derived.Test.YtbbfpllffcfmhaaZG
namespace Go.Proofs.Ytbbfpllffcfmhaa
open Go.RowKit Go.Maps

theorem Tf_right : Tf.rightW = 0 := by kernel_rfl
theorem Tf_shape : Tf.shape = true := by kernel_rfl

theorem Tf_missing : (missing [] Good.nil.fits Tf : Int) ≤ 3 := by
  have h := ((missM 0 0 0 0 0 0 [] [] Good.nil.fits).facts Tf ([] : List Nd)).2.2
  have hs := Tf_size
  have h2 : (((missM 0 0 0 0 0 0 [] [] Good.nil.fits).cnt ([] : List Nd) : Nat) : Int) = 0 := rfl
  rw [h2, hs] at h
  exact h

theorem make_f (w2 w3 : World) (b Ba : Nat) (B : List Nat) (_hbl : b < w2.heap.size) (h : w2.heap[b]? = some (.cells #[.int .i64 0, .string ⟨#[97]⟩, .slice none 0 0, .int .i64 0, .string ⟨#[97]⟩, .slice none 0 0] 24 (0, 0))) (hBk : BankSt w2.heap.size Ba B 10 [] [] w3) (hb3 : Below w2.heap.size w2 w3) :
    Calls Try.prog 25 #[.pointer (some ⟨Ba, 0, none⟩), .agg #[.int .i64 0, .string ⟨#[102]⟩, .slice (some ⟨b, 0, none⟩) 2 2]] w3 fun e W' => e = .returned (.tuple #[.int .i64 2, .int .i64 0]) ∧ ∃ B', BankSt w2.heap.size Ba B' 10 ((bumps [1, 1] ([⟨1, Na, 0, 0⟩] ++ [⟨2, Nf, 0, 0⟩])).map (keepE 2)) [] W' ∧ Below w2.heap.size w2 W' := by
  obtain ⟨s, hn, hs⟩ := num_f w2.heap.size Ba 10
  have hm := Tf_missing
  have := make_room w2 w2.heap.size Ba B 10 ⟨[], Good.nil⟩ Tf (.slice (some ⟨b, 0, none⟩) 2 2) w3 (Nat.le_refl _) hBk (by simp) (by omega) (by omega) (args_f h) hb3 Tf_short Tf_right Tf_shape (by rw [Tf_size]; omega) (by simp only [List.length_nil]; omega)
  rw [hn] at this
  refine Calls.mono this ?_
  rintro e W' ⟨he, B', h1, h2, h3⟩
  rw [hs] at h1
  exact ⟨he, B', h1, hb3.trans (h3.below hb3.size (fun r hr => (hBk.there r hr).1))⟩

end Go.Proofs.Ytbbfpllffcfmhaa
