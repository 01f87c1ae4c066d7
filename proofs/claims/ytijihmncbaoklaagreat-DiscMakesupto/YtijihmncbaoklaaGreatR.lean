/-
  Terms that came in as arguments: how they lie in memory.
-/
import Derived.Test.YtijihmncbaoklaaGreatTA
import Derived.Deep.Slices
import Derived.Lib.SmallJoins
namespace Go.Proofs.YtijihmncbaoklaaGreat
open Go.ChangeShapes Go.WideShapes Go.ChangeAt Go.RowKit

theorem laidOut : laidOutB Tryz.prog = true := by kernel_rfl
theorem Tryz.cells3 : Tryz.prog.cellsOf 3 = 1 := by kernel_rfl
theorem Tryz.cells9 : Tryz.prog.cellsOf 9 = 1 := by kernel_rfl
theorem Tryz.cells31 : Tryz.prog.cellsOf 23 = 1 := by kernel_rfl
theorem Tryz.cells53 : Tryz.prog.cellsOf 32 = 3 := by kernel_rfl

theorem addr_add (b o j : Nat) : (⟨b, o, none⟩ : Addr).add j = ⟨b, o + j, none⟩ := by unfold Addr.add; split <;> simp_all

theorem lt_of_cell {W : World} {a : Addr} {v : Value} (h : W.cell? a = some v) : a.block < W.heap.size := by
  refine Classical.byContradiction fun hn => ?_
  have hs := World.cell?_spot h
  obtain ⟨b, o, s⟩ := a
  simp only at hs hn
  subst hs
  have : W.heap[b]? = none := Array.getElem?_eq_none (by omega)
  simp [World.cell?, this] at h

theorem list3 {cs : List Value} (h : cs.length = 3) : ∃ c0 c1 c2, cs = [c0, c1, c2] := by
  match cs, h with
  | [c0, c1, c2], _ => exact ⟨c0, c1, c2, rfl⟩

theorem struct24 {H : Type} {enc : TypeId × Value → H} {W : World} {fuel : Nat} {cs : List Value} {x : DataW H × List MemPlace}
    (h : DataW.trod enc Tryz.prog W 0 (fun _ => true) true fuel 32 cs = some x) : ∃ (v : Int) (fn : ByteArray) (sl : Value) (n : Nat) (y0 y1 y2 : DataW H × List MemPlace), fuel = n + 1 ∧ cs = [.int .i64 v, .string fn, sl] ∧ (Lit.int .i64 v).wf = true ∧ fn.size ≤ maxLen ∧ DataW.trod enc Tryz.prog W 0 (fun _ => true) true n 23 [sl] = some y2 ∧ x = (.agg [y0.1, y1.1, y2.1], y0.2 ++ (y1.2 ++ y2.2)) ∧ y0.1 = .lit (.int .i64 v) ∧ y1.1 = .lit (.string fn.data.toList) := by
  obtain ⟨xs, n, rfl, hx, hlen, hxs, hf⟩ := DataW.trod_struct Tryz.underlying32 h
  rw [Tryz.cells53] at hlen
  obtain ⟨c0, c1, c2, rfl⟩ := list3 hlen
  match xs, hxs, hx, hf with
  | [y0, y1, y2], _, hx, hf =>
    have t0 : DataW.trod enc Tryz.prog W 0 (fun _ => true) true n 3 (List.take (Tryz.prog.cellsOf 3) (List.drop 0 [c0, c1, c2])) = some y0 := hf 0 _ rfl
    have t1 : DataW.trod enc Tryz.prog W 0 (fun _ => true) true n 9 (List.take (Tryz.prog.cellsOf 9) (List.drop 1 [c0, c1, c2])) = some y1 := hf 1 _ rfl
    have t2 : DataW.trod enc Tryz.prog W 0 (fun _ => true) true n 23 (List.take (Tryz.prog.cellsOf 23) (List.drop 2 [c0, c1, c2])) = some y2 := hf 2 _ rfl
    rw [Tryz.cells3] at t0
    rw [Tryz.cells9] at t1
    rw [Tryz.cells31] at t2
    have t0' : DataW.trod enc Tryz.prog W 0 (fun _ => true) true n 3 [c0] = some y0 := t0
    have t1' : DataW.trod enc Tryz.prog W 0 (fun _ => true) true n 9 [c1] = some y1 := t1
    have t2' : DataW.trod enc Tryz.prog W 0 (fun _ => true) true n 23 [c2] = some y2 := t2
    obtain ⟨v, e0, z0, w0⟩ := DataW.trod_int Tryz.underlying3 t0'
    obtain ⟨s, e1, z1, w1⟩ := DataW.trod_string Tryz.underlying9 t1'
    simp at e0 e1
    subst e0 e1
    exact ⟨v, s, c2, n, y0, y1, y2, rfl, rfl, w0, w1, t2', by rw [hx]; simp, by rw [z0], by rw [z1]⟩

end Go.Proofs.YtijihmncbaoklaaGreat
