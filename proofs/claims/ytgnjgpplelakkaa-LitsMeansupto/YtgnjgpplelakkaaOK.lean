/-
  Worlds that came in.
-/
import Derived.Test.YtgnjgpplelakkaaOJ
import Derived.Test.YtgnjgpplelakkaaLR
namespace Go.Proofs.Ytgnjgpplelakkaa
open Go.ChangeShapes Go.WideShapes Go.ChangeAt Go.RowKit

theorem Try.cells3m : Try.prog.cellsOf 3 = 1 := by kernel_rfl
theorem Try.cells33m : Try.prog.cellsOf 33 = 1 := by kernel_rfl
theorem Try.cells50m : Try.prog.cellsOf 50 = 2 := by kernel_rfl

theorem list2 {cs : List Value} (h : cs.length = 2) : ∃ c0 c1, cs = [c0, c1] := by
  match cs, h with
  | [c0, c1], _ => exact ⟨c0, c1, rfl⟩
theorem list1 {cs : List Value} (h : cs.length = 1) : ∃ c0, cs = [c0] := by
  match cs, h with
  | [c0], _ => exact ⟨c0, rfl⟩

theorem ints_trod {H : Type} {enc : TypeId × Value → H} {W : World} {fuel : Nat} {v : Value} {x : DataW H × List MemPlace} (h : DataW.trod enc Try.prog W 0 (fun _ => true) true fuel 33 [v] = some x) : ∃ l : List Int, IntsAt W v l := by
  rcases DataW.trod_slice Try.underlying33 h with ⟨hcs, hx⟩ | ⟨a, len, cap, elems, rest, n, rfl, hcs, hx, _, hl, hm, hel, hat, _⟩
  · simp only [List.cons.injEq, and_true] at hcs
    subst hcs
    exact ⟨[], none, 0, rfl, Nat.le_refl _, by decide, fun h => absurd h (by simp)⟩
  · simp only [List.cons.injEq, and_true] at hcs
    subst hcs
    rw [Try.cells3m] at hat
    have each : ∀ i, i < len → ∃ s : Int, W.cell? ((a.add i).add 0) = some (.int .i64 s) := by
      intro i hi
      have hi' := hat i hi
      rw [List.getElem?_eq_getElem (by omega)] at hi'
      obtain ⟨cs, hc, ht⟩ := Option.bind_eq_some_iff.1 hi'
      obtain ⟨_, hlen, hcell⟩ := World.cells?_some hc
      obtain ⟨c0, rfl⟩ := list1 hlen
      obtain ⟨s, e1, z1, w1⟩ := DataW.trod_int Try.underlying3 ht
      simp at e1
      subst e1
      exact ⟨s, by simpa using hcell 0 (by simp)⟩
    have hm' : cap ≤ 9223372036854775807 := by unfold maxLen at hm; omega
    by_cases h0 : len = 0
    · subst h0
      exact ⟨[], some a, cap, rfl, Nat.zero_le _, hm', fun h => absurd h (by simp)⟩
    · obtain ⟨x0, hc0⟩ := each 0 (by omega)
      have hxb : ∃ b o, a = ⟨b, o, none⟩ := by
        obtain ⟨b, o, spot⟩ := a
        have hspot : spot = none := by simpa [Addr.add] using World.cell?_spot hc0
        exact ⟨b, o, by rw [hspot]⟩
      obtain ⟨b, o, rfl⟩ := hxb
      obtain ⟨e, he⟩ := Deep.choose_lt each
      have hlt : b < W.heap.size := by have := lt_of_cell hc0; simpa [Addr.add] using this
      have hlen : ((List.range len).map e).length = len := by simp
      refine ⟨(List.range len).map e, some ⟨b, o, none⟩, cap, by rw [hlen], by omega, hm', fun _ => ⟨b, o, rfl, hlt, fun i hi => ?_⟩⟩
      have hi' : i < len := by rwa [hlen] at hi
      have := he i hi'
      rw [addr_add, addr_add, Nat.add_zero] at this
      simpa using this

set_option maxRecDepth 100000 in
/-- What is read of a world that came in. -/
theorem world_in {H : Type} {enc : TypeId × Value → H} {W : World} {base : Nat} {v : Value} {d : DataW H} {p : List MemPlace} (hv : Value.okWide Try.prog W .any base 50 v)
    (h : DataW.Trod enc Try.prog W 0 (fun _ => true) true 50 v d p) : ∃ sz rule vr, v = wval sz vr ∧ IntsAt W vr rule := by
  obtain ⟨cs, rfl, hcs⟩ := okWide_struct Try.underlying50 hv
  obtain ⟨fuel, hf⟩ := h
  obtain ⟨xs, n, rfl, hx, hlen, hxs, hf⟩ := DataW.trod_struct Try.underlying50 hf
  rw [Try.cells50m] at hlen
  obtain ⟨c0, c1, hcc⟩ := list2 hlen
  rw [hcc] at hf
  match xs, hxs, hx, hf with
  | [y0, y1], _, hx, hf =>
    have t0 : DataW.trod enc Try.prog W 0 (fun _ => true) true n 3 (List.take (Try.prog.cellsOf 3) (List.drop 0 [c0, c1])) = some y0 := hf 0 _ rfl
    have t1 : DataW.trod enc Try.prog W 0 (fun _ => true) true n 33 (List.take (Try.prog.cellsOf 33) (List.drop 1 [c0, c1])) = some y1 := hf 1 _ rfl
    rw [Try.cells3m] at t0
    rw [Try.cells33m] at t1
    have t0' : DataW.trod enc Try.prog W 0 (fun _ => true) true n 3 [c0] = some y0 := t0
    obtain ⟨s, e1, z1, w1⟩ := DataW.trod_int Try.underlying3 t0'
    obtain ⟨m, h3⟩ := ints_trod (v := c1) t1
    simp only [List.cons.injEq, and_true] at e1
    subst e1
    refine ⟨s, m, c1, ?_, h3⟩
    obtain ⟨cl⟩ := cs
    have h2 : cl = [.int .i64 s, c1] := hcc
    rw [h2]

end Go.Proofs.Ytgnjgpplelakkaa
