/-
  Rows of binds of one's own.
-/
import Derived.Test.YtijihmncbaoklaaGreatSL
import Derived.Maps.AppendAt
import Derived.RangeFuncNested
namespace Go.Proofs.YtijihmncbaoklaaGreat
open Go.RowKit Go.Maps

theorem Tryz.info116 : (Tryz.prog.info? 116).map (fun i => (i.zero, i.size, i.bytes)) = some (some (.agg #[.int .i64 0, .int .i64 0, .string ⟨#[]⟩, .slice none 0 0]), 4, 56) := by kernel_rfl

/-- The cells of a row of binds. -/
def flatB (ps : List (Bd × Value)) : List Value := ps.flatMap fun p => [.int .i64 p.1.1, .int .i64 p.1.2.v, .string p.1.2.fn, p.2]
theorem flatB_snoc (ps : List (Bd × Value)) (p : Bd × Value) : flatB (ps ++ [p]) = flatB ps ++ [.int .i64 p.1.1, .int .i64 p.1.2.v, .string p.1.2.fn, p.2] := by simp [flatB]
theorem flatB_get : ∀ (ps : List (Bd × Value)) (i : Nat) (h : i < ps.length), (flatB ps)[i * 4]? = some (.int .i64 ps[i].1.1) ∧ (flatB ps)[i * 4 + 1]? = some (.int .i64 ps[i].1.2.v) ∧ (flatB ps)[i * 4 + 2]? = some (.string ps[i].1.2.fn) ∧ (flatB ps)[i * 4 + 3]? = some ps[i].2
  | [], i, h => absurd h (by simp)
  | p :: r, 0, _ => by simp [flatB]
  | p :: r, i + 1, h => by
    have ih := flatB_get r i (by simpa using h)
    have e : flatB (p :: r) = [.int .i64 p.1.1, .int .i64 p.1.2.v, .string p.1.2.fn, p.2] ++ flatB r := rfl
    have hs : ∀ k, (flatB (p :: r))[4 + k]? = (flatB r)[k]? := fun k => by
      rw [e, List.getElem?_append_right (by simp)]
      simp
    have e0 : (i + 1) * 4 = 4 + i * 4 := by omega
    rw [e0, show 4 + i * 4 + 1 = 4 + (i * 4 + 1) by omega, show 4 + i * 4 + 2 = 4 + (i * 4 + 2) by omega, show 4 + i * 4 + 3 = 4 + (i * 4 + 3) by omega, hs, hs, hs, hs]
    simpa using ih

/-- A row of binds of one's own. -/
structure OwnB (w : World) (v : Value) (ps : List (Bd × Value)) (W : World) : Prop where
  row : W.ownsRow w.heap.size 116 4 v ps.length (flatB ps)
  bel : Below w.heap.size w W

theorem rowB_form {W : World} {b : Nat} {e : TypeId} {s : Nat} {v : Value} {n : Nat} {xs : List Value} (h : W.ownsRow b e s v n xs) : ∃ a c, v = .slice a n c := by
  rcases h.2 with ⟨rfl, h0⟩ | ⟨g, cap, cur, rfl, _⟩
  · exact ⟨none, 0, by rw [h0]⟩
  · exact ⟨_, _, rfl⟩

theorem rowB_below {W W' : World} {b : Nat} {e : TypeId} {s : Nat} {v : Value} {n : Nat} {xs : List Value} (h : W.ownsRow b e s v n xs) (hb : Below W.heap.size W W') : W'.ownsRow b e s v n xs :=
  h.kept (row := none) ⟨hb.os, hb.tape, hb.output, hb.size, fun k hk _ => hb.block k hk⟩ (by cases v.ownBlock <;> simp)

theorem OwnB.push {w : World} {v : Value} {ps : List (Bd × Value)} {W : World} (h : OwnB w v ps W) (p : Bd × Value) (v' : Value) (w3 : World) (hown : w3.ownsRow w.heap.size 116 4 v' (ps.length + 1) (flatB ps ++ [.int .i64 p.1.1, .int .i64 p.1.2.v, .string p.1.2.fn, p.2])) (o : Obj) (hg : (W.alloc o).grownBy w3 v.ownBlock) : OwnB w v' (ps ++ [p]) w3 := by
  refine ⟨by rw [flatB_snoc, List.length_append, List.length_singleton]; exact hown, h.bel.trans (((below_box W _).mono h.bel.size).trans ⟨hg.os, hg.tape, hg.output, hg.size, fun j hj => hg.block j (by have := h.bel.size; simp; omega) (fun e => by have := (h.row.lt j e.symm).1; omega)⟩)⟩

theorem OwnB.keep {w : World} {v : Value} {ps : List (Bd × Value)} {W W' : World} (h : OwnB w v ps W) (hb : Below W.heap.size W W') : OwnB w v ps W' := ⟨rowB_below h.row hb, h.bel.trans (hb.mono h.bel.size)⟩

/-- A row of one's own is a slice of binds. -/
theorem binds_of_row {W : World} {base : Nat} {v : Value} {ps : List (Bd × Value)} (h : W.ownsRow base 116 4 v ps.length (flatB ps)) (hs : ∀ p ∈ ps, ArgsAt W p.2 p.1.2.args) : BindsAt W v (ps.map (·.1)) := by
  rcases h.2 with ⟨rfl, h0⟩ | ⟨g, cap, cur, rfl, hb, hg, hn, hm, hsz, ht⟩
  · have e : ps = [] := List.eq_nil_of_length_eq_zero h0
    subst e
    exact ⟨none, 0, rfl, Nat.le_refl _, by decide, fun h => absurd h (by simp)⟩
  · refine ⟨some ⟨g, 0, none⟩, cap, by rw [List.length_map], by rw [List.length_map]; exact hn, by unfold maxLen at hm; omega, fun _ => ⟨g, 0, rfl, fun i hi => ?_⟩⟩
    have hi' : i < ps.length := by simpa using hi
    obtain ⟨f0, f1, f2, f3⟩ := flatB_get ps i hi'
    have ea : ∀ k, (⟨g, 0, none⟩ : Addr).add k = ⟨g, k, none⟩ := fun k => by unfold Addr.add; split <;> simp_all
    have c0 := h.cells rfl _ _ f0
    have c1 := h.cells rfl _ _ f1
    have c2 := h.cells rfl _ _ f2
    have c3 := h.cells rfl _ _ f3
    rw [ea] at c0 c1 c2 c3
    refine ⟨ps[i].2, ⟨(Array.getElem?_eq_some_iff.1 hg).1, ?_, ?_, ?_, ?_, ?_⟩⟩
    · rw [Nat.zero_add]; simpa using c0
    · rw [Nat.zero_add]; simpa using c1
    · rw [Nat.zero_add]; simpa using c2
    · rw [Nat.zero_add]; exact c3
    · simpa using hs ps[i] (List.getElem_mem hi')

theorem lit4 (w : World) (u v s r : Value) (ty : TypeId) : ∀ j x, [u, v, s, r][j]? = some x → (w.alloc (.cells #[u, v, s, r] ty)).cell? ((⟨w.heap.size, 0, none⟩ : Addr).add j) = some x := by
  intro j x hj
  have ea : (⟨w.heap.size, 0, none⟩ : Addr).add j = ⟨w.heap.size, j, none⟩ := by unfold Addr.add; split <;> simp_all
  rw [ea, World.cell?_alloc_new]
  simpa using hj

end Go.Proofs.YtijihmncbaoklaaGreat
