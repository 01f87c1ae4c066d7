import Derived.Test.YthkinkcpfcpehaaGreatDoorGS
namespace Go.Proofs.YthkinkcpfcpehaaGreatDoor
set_option maxRecDepth 100000
open Go.RowKit
theorem fm_size_eq (f : Fm) : f.size = 1 + (if f.k = 1 then f.l.size + f.r.size else 0) + Fm.size.sizes f.kids := by
  cases f with
  | mk k n l r ks => rw [Fm.size]; rfl
theorem fm_depth_eq (f : Fm) : f.depth = 1 + max (if f.k = 1 then max f.l.depth f.r.depth else 0) (Fm.depth.depths f.kids) := by
  cases f with
  | mk k n l r ks => rw [Fm.depth]; rfl
theorem szi_cells {w : World} {f : Fm} {sl sr sk : Value} {X : World} (h : SzI w f sl sr sk X) : X.cell? ⟨w.heap.size, 0, none⟩ = some (.int .i64 f.k) ∧ X.cell? ⟨w.heap.size, 2, none⟩ = some (.int .i64 f.l.v) ∧ X.cell? ⟨w.heap.size, 3, none⟩ = some (.string f.l.fn) ∧ X.cell? ⟨w.heap.size, 4, none⟩ = some sl ∧ X.cell? ⟨w.heap.size, 5, none⟩ = some (.int .i64 f.r.v) ∧ X.cell? ⟨w.heap.size, 6, none⟩ = some (.string f.r.fn) ∧ X.cell? ⟨w.heap.size, 7, none⟩ = some sr ∧ X.cell? ⟨w.heap.size, 8, none⟩ = some sk :=
  ⟨cell_storeR (vs := [_, _, _, _, _, _, _, _, _]) h.box rfl, cell_storeR (vs := [_, _, _, _, _, _, _, _, _]) h.box rfl, cell_storeR (vs := [_, _, _, _, _, _, _, _, _]) h.box rfl, cell_storeR (vs := [_, _, _, _, _, _, _, _, _]) h.box rfl, cell_storeR (vs := [_, _, _, _, _, _, _, _, _]) h.box rfl, cell_storeR (vs := [_, _, _, _, _, _, _, _, _]) h.box rfl, cell_storeR (vs := [_, _, _, _, _, _, _, _, _]) h.box rfl, cell_storeR (vs := [_, _, _, _, _, _, _, _, _]) h.box rfl⟩
