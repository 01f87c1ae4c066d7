import Derived.Test.YthkinkcpfcpehaaGreatDoorZS
namespace Go.Proofs.YthkinkcpfcpehaaGreatDoor
theorem jM : (∀ {α : Type} (l : List α) (i : Nat) (a : α), l.toArray.setIfInBounds i a = (l.set i a).toArray) ∧ (∀ {α : Type} {x : α} {xs : List α} {a : α}, (x :: xs).set 0 a = a :: xs) ∧ ∀ {α : Type} {x : α} {xs : List α} {i : Nat} {a : α}, (x :: xs).set (i + 1) a = x :: xs.set i a := ⟨jD, rfl, rfl⟩
