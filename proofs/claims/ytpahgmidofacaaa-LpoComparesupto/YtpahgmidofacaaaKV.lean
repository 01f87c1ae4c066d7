/-
  Signatures that came in as arguments: how they lie in memory.
-/
import Derived.Test.YtpahgmidofacaaaKA
import Derived.Test.YtpahgmidofacaaaR
namespace Go.Proofs.Ytpahgmidofacaaa
open Go.ChangeShapes Go.WideShapes Go.ChangeAt Go.RowKit

theorem Try.cells22 : Try.prog.cellsOf 22 = 1 := by kernel_rfl
theorem Try.cells23 : Try.prog.cellsOf 23 = 1 := by kernel_rfl
theorem Try.cells25 : Try.prog.cellsOf 25 = 2 := by kernel_rfl

theorem list2 {cs : List Value} (h : cs.length = 2) : ∃ c0 c1, cs = [c0, c1] := by
  match cs, h with
  | [c0, c1], _ => exact ⟨c0, c1, rfl⟩
theorem list1 {cs : List Value} (h : cs.length = 1) : ∃ c0, cs = [c0] := by
  match cs, h with
  | [c0], _ => exact ⟨c0, rfl⟩

theorem row_of {α : Type} [Inhabited α] {f : α → Value} {W : World} {a : Addr} {len cap : Nat} {P : α → Prop} (hl : len ≤ cap) (hm : cap ≤ 9223372036854775807) (h : ∀ i, i < len → ∃ x, W.cell? ((a.add i).add 0) = some (f x) ∧ P x) : ∃ l : List α, l.length = len ∧ RowAt f W (.slice (some a) len cap) l ∧ ∀ x ∈ l, P x := by
  by_cases h0 : len = 0
  · subst h0
    exact ⟨[], rfl, ⟨some a, cap, rfl, Nat.zero_le _, hm, fun h => absurd h (by simp)⟩, by simp⟩
  · obtain ⟨x0, hc0, _⟩ := h 0 (by omega)
    have hxb : ∃ b o, a = ⟨b, o, none⟩ := by
      obtain ⟨b, o, spot⟩ := a
      have hspot : spot = none := by simpa [Addr.add] using World.cell?_spot hc0
      exact ⟨b, o, by rw [hspot]⟩
    obtain ⟨b, o, rfl⟩ := hxb
    obtain ⟨e, he⟩ := Deep.choose_lt h
    have hlt : b < W.heap.size := by have := lt_of_cell hc0; simpa [Addr.add] using this
    have hlen : ((List.range len).map e).length = len := by simp
    refine ⟨(List.range len).map e, hlen, ⟨some ⟨b, o, none⟩, cap, by rw [hlen], by omega, hm, fun _ => ⟨b, o, hlt, rfl, fun i hi => ?_⟩⟩, fun x hx => ?_⟩
    · have hi' : i < len := by rwa [hlen] at hi
      have := (he i hi').1
      rw [addr_add, addr_add, Nat.add_zero] at this
      simpa using this
    · obtain ⟨i, hi, rfl⟩ := List.mem_map.1 hx
      exact (he i (List.mem_range.1 hi)).2

theorem strs_trod {H : Type} {enc : TypeId × Value → H} {W : World} {fuel : Nat} {v : Value} {x : DataW H × List MemPlace} (h : DataW.trod enc Try.prog W 0 (fun _ => true) true fuel 22 [v] = some x) : ∃ l, RowAt .string W v l ∧ ∀ s ∈ l, s.size ≤ maxLen := by
  rcases DataW.trod_slice Try.underlying22 h with ⟨hcs, hx⟩ | ⟨a, len, cap, elems, rest, n, rfl, hcs, hx, _, hl, hm, hel, hat, _⟩
  · simp only [List.cons.injEq, and_true] at hcs
    subst hcs
    exact ⟨[], ⟨none, 0, rfl, Nat.le_refl _, by decide, fun h => absurd h (by simp)⟩, by simp⟩
  · simp only [List.cons.injEq, and_true] at hcs
    subst hcs
    rw [Try.cells9] at hat
    have each : ∀ i, i < len → ∃ s : ByteArray, W.cell? ((a.add i).add 0) = some (.string s) ∧ s.size ≤ maxLen := by
      intro i hi
      have hi' := hat i hi
      rw [List.getElem?_eq_getElem (by omega)] at hi'
      obtain ⟨cs, hc, ht⟩ := Option.bind_eq_some_iff.1 hi'
      obtain ⟨_, hlen, hcell⟩ := World.cells?_some hc
      obtain ⟨c0, rfl⟩ := list1 hlen
      obtain ⟨s, e1, z1, w1⟩ := DataW.trod_string Try.underlying9 ht
      simp at e1
      subst e1
      exact ⟨s, by simpa using hcell 0 (by simp), w1⟩
    haveI : Inhabited ByteArray := ⟨⟨#[]⟩⟩
    obtain ⟨l, hlen, hr, hP⟩ := row_of (P := fun s : ByteArray => s.size ≤ maxLen) hl (by unfold maxLen at hm; omega) each
    exact ⟨l, hr, hP⟩

theorem ints_trod {H : Type} {enc : TypeId × Value → H} {W : World} {fuel : Nat} {v : Value} {x : DataW H × List MemPlace} (h : DataW.trod enc Try.prog W 0 (fun _ => true) true fuel 23 [v] = some x) : ∃ l : List Int, RowAt (.int .i64) W v l ∧ ∀ i ∈ l, (Lit.int .i64 i).wf = true := by
  rcases DataW.trod_slice Try.underlying23 h with ⟨hcs, hx⟩ | ⟨a, len, cap, elems, rest, n, rfl, hcs, hx, _, hl, hm, hel, hat, _⟩
  · simp only [List.cons.injEq, and_true] at hcs
    subst hcs
    exact ⟨[], ⟨none, 0, rfl, Nat.le_refl _, by decide, fun h => absurd h (by simp)⟩, by simp⟩
  · simp only [List.cons.injEq, and_true] at hcs
    subst hcs
    rw [Try.cells3] at hat
    have each : ∀ i, i < len → ∃ s : Int, W.cell? ((a.add i).add 0) = some (.int .i64 s) ∧ (Lit.int .i64 s).wf = true := by
      intro i hi
      have hi' := hat i hi
      rw [List.getElem?_eq_getElem (by omega)] at hi'
      obtain ⟨cs, hc, ht⟩ := Option.bind_eq_some_iff.1 hi'
      obtain ⟨_, hlen, hcell⟩ := World.cells?_some hc
      obtain ⟨c0, rfl⟩ := list1 hlen
      obtain ⟨s, e1, z1, w1⟩ := DataW.trod_int Try.underlying3 ht
      simp at e1
      subst e1
      exact ⟨s, by simpa using hcell 0 (by simp), w1⟩
    obtain ⟨l, hlen, hr, hP⟩ := row_of (P := fun s : Int => (Lit.int .i64 s).wf = true) hl (by unfold maxLen at hm; omega) each
    exact ⟨l, hr, hP⟩

set_option maxRecDepth 100000 in
/-- What is read of a signature that came in. -/
theorem sign_in {H : Type} {enc : TypeId × Value → H} {W : World} {base : Nat} {v : Value} {d : DataW H} {p : List MemPlace} (hv : Value.okWide Try.prog W .any base 25 v)
    (h : DataW.Trod enc Try.prog W 0 (fun _ => true) true 25 v d p) : ∃ g vn vw, v = gval vn vw ∧ SgAt W g vn vw := by
  obtain ⟨cs, rfl, hcs⟩ := okWide_struct Try.underlying25 hv
  obtain ⟨fuel, hf⟩ := h
  obtain ⟨xs, n, rfl, hx, hlen, hxs, hf⟩ := DataW.trod_struct Try.underlying25 hf
  rw [Try.cells25] at hlen
  obtain ⟨c0, c1, hcc⟩ := list2 hlen
  rw [hcc] at hf
  match xs, hxs, hx, hf with
  | [y0, y1], _, hx, hf =>
    have t0 : DataW.trod enc Try.prog W 0 (fun _ => true) true n 22 (List.take (Try.prog.cellsOf 22) (List.drop 0 [c0, c1])) = some y0 := hf 0 _ rfl
    have t1 : DataW.trod enc Try.prog W 0 (fun _ => true) true n 23 (List.take (Try.prog.cellsOf 23) (List.drop 1 [c0, c1])) = some y1 := hf 1 _ rfl
    rw [Try.cells22] at t0
    rw [Try.cells23] at t1
    obtain ⟨l, h1, h2⟩ := strs_trod (v := c0) t0
    obtain ⟨m, h3, _⟩ := ints_trod (v := c1) t1
    refine ⟨⟨l, m⟩, c0, c1, ?_, ⟨h1, h3, h2⟩⟩
    obtain ⟨cl⟩ := cs
    have h2 : cl = [c0, c1] := hcc
    rw [h2]

end Go.Proofs.Ytpahgmidofacaaa
