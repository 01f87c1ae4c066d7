/-
  Regions that draw their order, read, and call functions that lay blocks of their own: one walk in the text's order.
-/
import Derived.Test.YtijihmncbaoklaaGreatC
import Derived.Deep.QuietTactic
import Derived.BigQuiet
namespace Go.Proofs.YtijihmncbaoklaaGreat
open Go.RowKit

/-- How far a world is: so many draws, these blocks more. -/
structure Far where
  d : Nat
  os : Array Obj
  deriving Inhabited

def far (w : World) (p : Far) : World := ⟨w.heap ++ p.os, w.tape, p.d, w.os, w.output⟩

theorem below_far (w : World) (p : Far) : Below w.heap.size w (far w p) :=
  ⟨rfl, rfl, rfl, by simp [far], fun k hk => by simp [far, Array.getElem?_append, hk]⟩

theorem far_of {w W : World} (h : Below w.heap.size w W) : ∃ p : Far, W = far w p := by
  refine ⟨⟨W.drawn, W.heap.extract w.heap.size W.heap.size⟩, ?_⟩
  obtain ⟨heap, tape, drawn, os, output⟩ := W
  have h1 : os = w.os := h.os
  have h2 : tape = w.tape := h.tape
  have h3 : output = w.output := h.output
  have h4 : w.heap.size ≤ heap.size := h.size
  have h5 : ∀ k, k < w.heap.size → heap[k]? = w.heap[k]? := h.block
  subst h1 h2 h3
  have e : heap = w.heap ++ heap.extract w.heap.size heap.size := by
    refine Array.ext_getElem? fun i => ?_
    rw [Array.getElem?_append]
    split
    · rename_i hi
      exact h5 i hi
    · rename_i hi
      rw [Array.getElem?_extract]
      split
      · congr 1
        omega
      · exact Array.getElem?_eq_none (by omega)
  show World.mk _ _ _ _ _ = far w _
  unfold far
  simp only
  rw [← e]

theorem cell_far {w : World} {b o : Nat} {v : Value} (hb : b < w.heap.size) (h : w.cell? ⟨b, o, none⟩ = some v) (p : Far) : (far w p).cell? ⟨b, o, none⟩ = some v := kc (below_far w p) hb h

theorem wp_region_far {id : Nat} {Q : Exit → Act → World → Prop} {a : Act} {w : World} {l : List Oper} (hB : Region.lexB .any l.toArray = true)
    (h : wpQuiet Tryz.prog l.toArray (fun w' => ∃ p : Far, w' = far w p) (fun a' => ∀ w', (∃ p : Far, w' = far w p) → Q .normal a' w') l a) : (Code.region id l.toArray true).wp Tryz.prog Q a w :=
  wp_region_quiet (C := fun w' => ∃ p : Far, w' = far w p) (by kernel_rfl) hB ⟨⟨w.drawn + 1, #[]⟩, by simp [far]⟩ (by simpa using h)

theorem calls_far {f : FuncId} {args : Array Value} {w : World} {v : Value} (h : ∀ W, Below w.heap.size w W → Calls Tryz.prog f args W fun e w' => e = .returned v ∧ Below W.heap.size W w') (p : Far) :
    Calls Tryz.prog f args (far w p) fun e w'' => e = .returned v ∧ ∃ p : Far, w'' = far w p :=
  (h _ (below_far w p)).mono fun _ _ ⟨he, hb⟩ => ⟨he, far_of ((below_far w p).trans (hb.mono (below_far w p).size))⟩

end Go.Proofs.YtijihmncbaoklaaGreat
