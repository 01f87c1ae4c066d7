/-
  Places that came in.
-/
import Derived.Test.YtcnodgjalkcgiaaKV
import Derived.Test.YtcnodgjalkcgiaaLG
namespace Go.Proofs.Ytcnodgjalkcgiaa
open Go.ChangeShapes Go.WideShapes Go.ChangeAt Go.RowKit

theorem place_in {H : Type} {enc : TypeId × Value → H} {W : World} {a : Option Addr} {n c : Nat} {d : DataW H} {p : List MemPlace}
    (h : DataW.Trod enc Try.prog W 0 (fun _ => true) true 23 (.slice a n c) d p) : ∃ l : List Int, RowAt (.int .i64) W (.slice a n c) l ∧ ∀ i ∈ l, (Lit.int .i64 i).wf = true := by
  obtain ⟨fuel, hf⟩ := h
  exact ints_trod hf

end Go.Proofs.Ytcnodgjalkcgiaa
