import Derived.MapKept
namespace Go.Proofs.YthkinkcpfcpehaaGreatDoor
theorem jA {α : Type _} {xs : List α} {i : Nat} (h : i < xs.toArray.size) : xs.toArray[i] = xs[i] := rfl
theorem jB {α : Type _} (a : α) (as : List α) (i : Nat) (h : i + 1 < (a :: as).length) : (a :: as)[i + 1] = as[i]'(Nat.lt_of_succ_lt_succ h) := rfl
theorem jC {α : Type _} (a : α) (as : List α) (h : 0 < (a :: as).length) : (a :: as)[0] = a := rfl
theorem jD {α : Type _} (l : List α) (i : Nat) (a : α) : l.toArray.setIfInBounds i a = (l.set i a).toArray := List.setIfInBounds_toArray l i a
theorem jE {α : Type _} {x : α} {xs : List α} {a : α} : (x :: xs).set 0 a = a :: xs := rfl
theorem jF {α : Type _} {x : α} {xs : List α} {i : Nat} {a : α} : (x :: xs).set (i + 1) a = x :: xs.set i a := rfl
theorem jG {α : Type _} {c : Array α} {i : Nat} {b : α} (h : c[i]? = some b) : ∃ h : i < c.size, c[i] = b := Array.getElem?_eq_some_iff.1 h
theorem jH (w : World) (o : Obj) : (w.alloc o).heap[w.heap.size]? = some o ∧ ∀ r', r' < w.heap.size → (w.alloc o).heap[r']? = w.heap[r']? := MapKept.heap_alloc w o
theorem jI {n m k : Nat} (h : n < m) (h' : m ≤ k) : n < k := Nat.lt_of_lt_of_le h h'
theorem jJ (n : Nat) : n ≤ n := Nat.le_refl n
theorem jK {α : Type _} {a : α} {as : List α} : (a :: as).length = as.length + 1 := rfl
theorem jL {α : Type _} {as bs : List α} : (as ++ bs).length = as.length + bs.length := List.length_append
abbrev jU := List UInt8
abbrev jV := ByteArray → Option Int
abbrev FC9 (V : World) (R : Nat) (a0 a1 a2 a3 a4 a5 a6 a7 a8 : Value) : Prop := V.cell? ⟨R, 0, none⟩ = some a0 ∧ V.cell? ⟨R, 1, none⟩ = some a1 ∧ V.cell? ⟨R, 2, none⟩ = some a2 ∧ V.cell? ⟨R, 3, none⟩ = some a3 ∧ V.cell? ⟨R, 4, none⟩ = some a4 ∧ V.cell? ⟨R, 5, none⟩ = some a5 ∧ V.cell? ⟨R, 6, none⟩ = some a6 ∧ V.cell? ⟨R, 7, none⟩ = some a7 ∧ V.cell? ⟨R, 8, none⟩ = some a8
end Go.Proofs.YthkinkcpfcpehaaGreatDoor
