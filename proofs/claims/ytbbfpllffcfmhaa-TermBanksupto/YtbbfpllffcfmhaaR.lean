/-
  Terms that came in as arguments: how they lie in memory.
-/
import Derived.Test.YtbbfpllffcfmhaaA
import Derived.Deep.Slices
import Derived.Lib.SmallJoins
namespace Go.Proofs.Ytbbfpllffcfmhaa
open Go.ChangeShapes Go.WideShapes Go.ChangeAt Go.RowKit

theorem laidOut : laidOutB Try.prog = true := by kernel_rfl
theorem Try.cells3 : Try.prog.cellsOf 3 = 1 := by kernel_rfl
theorem Try.cells9 : Try.prog.cellsOf 9 = 1 := by kernel_rfl
theorem Try.cells22 : Try.prog.cellsOf 22 = 1 := by kernel_rfl
theorem Try.cells24 : Try.prog.cellsOf 24 = 3 := by kernel_rfl

theorem addr_add (b o j : Nat) : (⟨b, o, none⟩ : Addr).add j = ⟨b, o + j, none⟩ := by unfold Addr.add; split <;> simp_all

theorem lt_of_cell {W : World} {a : Addr} {v : Value} (h : W.cell? a = some v) : a.block < W.heap.size := by
  refine Classical.byContradiction fun hn => ?_
  have hs := World.cell?_spot h
  obtain ⟨b, o, s⟩ := a
  simp only at hs hn
  subst hs
  have : W.heap[b]? = none := Array.getElem?_eq_none (by omega)
  simp [World.cell?, this] at h

theorem list3 {cs : List Value} (h : cs.length = 3) : ∃ c0 c1 c2, cs = [c0, c1, c2] := by
  match cs, h with
  | [c0, c1, c2], _ => exact ⟨c0, c1, c2, rfl⟩

theorem struct24 {H : Type} {enc : TypeId × Value → H} {W : World} {fuel : Nat} {cs : List Value} {x : DataW H × List MemPlace}
    (h : DataW.trod enc Try.prog W 0 (fun _ => true) true fuel 24 cs = some x) : ∃ (v : Int) (fn : ByteArray) (sl : Value) (n : Nat) (y0 y1 y2 : DataW H × List MemPlace), fuel = n + 1 ∧ cs = [.int .i64 v, .string fn, sl] ∧ (Lit.int .i64 v).wf = true ∧ fn.size ≤ maxLen ∧ DataW.trod enc Try.prog W 0 (fun _ => true) true n 22 [sl] = some y2 ∧ x = (.agg [y0.1, y1.1, y2.1], y0.2 ++ (y1.2 ++ y2.2)) ∧ y0.1 = .lit (.int .i64 v) ∧ y1.1 = .lit (.string fn.data.toList) := by
  obtain ⟨xs, n, rfl, hx, hlen, hxs, hf⟩ := DataW.trod_struct Try.underlying24 h
  rw [Try.cells24] at hlen
  obtain ⟨c0, c1, c2, rfl⟩ := list3 hlen
  match xs, hxs, hx, hf with
  | [y0, y1, y2], _, hx, hf =>
    have t0 : DataW.trod enc Try.prog W 0 (fun _ => true) true n 3 (List.take (Try.prog.cellsOf 3) (List.drop 0 [c0, c1, c2])) = some y0 := hf 0 _ rfl
    have t1 : DataW.trod enc Try.prog W 0 (fun _ => true) true n 9 (List.take (Try.prog.cellsOf 9) (List.drop 1 [c0, c1, c2])) = some y1 := hf 1 _ rfl
    have t2 : DataW.trod enc Try.prog W 0 (fun _ => true) true n 22 (List.take (Try.prog.cellsOf 22) (List.drop 2 [c0, c1, c2])) = some y2 := hf 2 _ rfl
    rw [Try.cells3] at t0
    rw [Try.cells9] at t1
    rw [Try.cells22] at t2
    have t0' : DataW.trod enc Try.prog W 0 (fun _ => true) true n 3 [c0] = some y0 := t0
    have t1' : DataW.trod enc Try.prog W 0 (fun _ => true) true n 9 [c1] = some y1 := t1
    have t2' : DataW.trod enc Try.prog W 0 (fun _ => true) true n 22 [c2] = some y2 := t2
    obtain ⟨v, e0, z0, w0⟩ := DataW.trod_int Try.underlying3 t0'
    obtain ⟨s, e1, z1, w1⟩ := DataW.trod_string Try.underlying9 t1'
    simp at e0 e1
    subst e0 e1
    exact ⟨v, s, c2, n, y0, y1, y2, rfl, rfl, w0, w1, t2', by rw [hx]; simp, by rw [z0], by rw [z1]⟩

theorem args_trod {H : Type} {enc : TypeId × Value → H} {W : World} : ∀ (fuel : Nat) (v : Value) (x : DataW H × List MemPlace),
    DataW.trod enc Try.prog W 0 (fun _ => true) true fuel 22 [v] = some x → ∃ l, ArgsAt W v l := by
  intro fuel
  induction fuel using Nat.strongRecOn with
  | _ fuel ih =>
    intro v x h
    rcases DataW.trod_slice Try.underlying22 h with ⟨hcs, hx⟩ | ⟨a, len, cap, elems, rest, n, rfl, hcs, hx, _, hl, hm, hel, hat, _⟩
    · simp only [List.cons.injEq, and_true] at hcs
      subst hcs
      exact ⟨[], .mk none 0 [] (fun _ => .slice none 0 0) (Nat.le_refl _) (by decide) (fun h => absurd h (by simp)) (fun i h => absurd h (by simp))⟩
    · simp only [List.cons.injEq, and_true] at hcs
      subst hcs
      rw [Try.cells24] at hat
      have each : ∀ i, i < len → ∃ p : T × Value, W.cell? ((a.add (i * 3)).add 0) = some (.int .i64 p.1.v) ∧ W.cell? ((a.add (i * 3)).add 1) = some (.string p.1.fn) ∧ W.cell? ((a.add (i * 3)).add 2) = some p.2 ∧ ArgsAt W p.2 p.1.args := by
        intro i hi
        have hi' := hat i hi
        rw [List.getElem?_eq_getElem (by omega)] at hi'
        obtain ⟨cs, hc, ht⟩ := Option.bind_eq_some_iff.1 hi'
        obtain ⟨_, hlen, hcell⟩ := World.cells?_some hc
        obtain ⟨v, fn, sl, m, y0, y1, y2, rfl, rfl, _, _, t2, _⟩ := struct24 ht
        obtain ⟨l, hA⟩ := ih m (by omega) sl _ t2
        exact ⟨(.mk v fn l, sl), by simpa [T.v] using hcell 0 (by simp), by simpa [T.fn] using hcell 1 (by simp), by simpa using hcell 2 (by simp), hA⟩
      by_cases h0 : len = 0
      · subst h0
        exact ⟨[], .mk (some a) cap [] (fun _ => .slice none 0 0) (Nat.zero_le _) (by unfold maxLen at hm; omega) (fun h => absurd h (by simp)) (fun i h => absurd h (by simp))⟩
      · obtain ⟨p0, hc0, _⟩ := each 0 (by omega)
        have hxb : ∃ b o, a = ⟨b, o, none⟩ := by
          obtain ⟨b, o, spot⟩ := a
          have hspot : spot = none := by simpa [Addr.add] using World.cell?_spot hc0
          exact ⟨b, o, by rw [hspot]⟩
        obtain ⟨b, o, rfl⟩ := hxb
        haveI : Inhabited (T × Value) := ⟨(.mk 0 ⟨#[]⟩ [], .slice none 0 0)⟩
        obtain ⟨f, hf⟩ := Deep.choose_lt each
        have hlt : b < W.heap.size := by have := lt_of_cell hc0; simpa [Addr.add] using this
        refine ⟨(List.range len).map (fun i => (f i).1), ?_⟩
        have hlen : ((List.range len).map (fun i => (f i).1)).length = len := by simp
        have := ArgsAt.mk (W := W) (some ⟨b, o, none⟩) cap ((List.range len).map (fun i => (f i).1)) (fun i => (f i).2) (by rw [hlen]; exact hl) (by unfold maxLen at hm; omega)
          (fun _ => ⟨b, o, hlt, rfl, fun i hi => by
            have hi' : i < len := by rwa [hlen] at hi
            obtain ⟨k0, k1, k2, _⟩ := hf i hi'
            simp only [addr_add, Nat.add_zero] at k0 k1 k2
            simp only [List.getElem_map, List.getElem_range]
            exact ⟨k0, k1, k2⟩⟩)
          (fun i hi => by
            have hi' : i < len := by rwa [hlen] at hi
            simp only [List.getElem_map, List.getElem_range]
            exact (hf i hi').2.2.2)
        rw [hlen] at this
        exact this

set_option maxRecDepth 100000 in
/-- What is read of a term that came in. -/
theorem term_in {H : Type} {enc : TypeId × Value → H} {W : World} {base : Nat} {v : Value} {d : DataW H} {p : List MemPlace} (hv : Value.okWide Try.prog W .any base 24 v)
    (h : DataW.Trod enc Try.prog W 0 (fun _ => true) true 24 v d p) : ∃ t a c, v = tval t (.slice a t.args.length c) ∧ ArgsAt W (.slice a t.args.length c) t.args := by
  obtain ⟨cs, rfl, hcs⟩ := okWide_struct Try.underlying24 hv
  obtain ⟨fuel, hf⟩ := h
  obtain ⟨v, fn, sl, n, y0, y1, y2, rfl, hc, _, _, t2, _⟩ := struct24 hf
  obtain ⟨l, hA⟩ := args_trod n sl _ t2
  obtain ⟨a, c, rfl, _, _⟩ := hA.slice
  refine ⟨.mk v fn l, a, c, ?_, hA⟩
  have : cs.toList = [.int .i64 v, .string fn, .slice a l.length c] := hc
  obtain ⟨cl⟩ := cs
  have h2 : cl = [.int .i64 v, .string fn, .slice a l.length c] := this
  rw [h2]
  rfl

end Go.Proofs.Ytbbfpllffcfmhaa
