/-
  Literals and clauses in memory.
-/
import Derived.Test.YtgnjgpplelakkaaGreatL
import Derived.Test.YtgnjgpplelakkaaGreatD
namespace Go.Proofs.YtgnjgpplelakkaaGreat
open Go.RowKit

/-- A literal: does it not hold; its sides. -/
structure Lt where
  neg : Bool
  l : T
  r : T

abbrev lval (x : Lt) (sl sr : Value) : Value := .agg #[.bool x.neg, .int .i64 x.l.v, .string x.l.fn, sl, .int .i64 x.r.v, .string x.r.fn, sr]
abbrev lbox (x : Lt) (sl sr : Value) : Obj := .cells #[.bool x.neg, .int .i64 x.l.v, .string x.l.fn, sl, .int .i64 x.r.v, .string x.r.fn, sr] 40

/-- What is read of one literal. -/
structure LitAt (W : World) (b o : Nat) (x : Lt) (sl sr : Value) : Prop where
  lt : b < W.heap.size
  c0 : W.cell? ⟨b, o, none⟩ = some (.bool x.neg)
  c1 : W.cell? ⟨b, o + 1, none⟩ = some (.int .i64 x.l.v)
  c2 : W.cell? ⟨b, o + 2, none⟩ = some (.string x.l.fn)
  c3 : W.cell? ⟨b, o + 3, none⟩ = some sl
  c4 : W.cell? ⟨b, o + 4, none⟩ = some (.int .i64 x.r.v)
  c5 : W.cell? ⟨b, o + 5, none⟩ = some (.string x.r.fn)
  c6 : W.cell? ⟨b, o + 6, none⟩ = some sr
  al : ArgsAt W sl x.l.args
  ar : ArgsAt W sr x.r.args

theorem LitAt.keep {W W' : World} {b o : Nat} {x : Lt} {sl sr : Value} (h : LitAt W b o x sl sr) (hb : Below W.heap.size W W') : LitAt W' b o x sl sr :=
  ⟨Nat.lt_of_lt_of_le h.lt hb.size, kc hb h.lt h.c0, kc hb h.lt h.c1, kc hb h.lt h.c2, kc hb h.lt h.c3, kc hb h.lt h.c4, kc hb h.lt h.c5, kc hb h.lt h.c6, ArgsAt.keep hb (Nat.le_refl _) h.al, ArgsAt.keep hb (Nat.le_refl _) h.ar⟩

/-- A clause, as it lies in memory. -/
def ClauseAt (W : World) (v : Value) (l : List Lt) : Prop :=
  ∃ a c, v = .slice a l.length c ∧ l.length ≤ c ∧ c ≤ 9223372036854775807 ∧ (0 < l.length → ∃ b o, a = some ⟨b, o, none⟩ ∧ ∀ i (h : i < l.length), ∃ sl sr, LitAt W b (o + i * 7) l[i] sl sr)

theorem ClauseAt.keep {W W' : World} {v : Value} {l : List Lt} (h : ClauseAt W v l) (hb : Below W.heap.size W W') : ClauseAt W' v l := by
  obtain ⟨a, c, rfl, h1, h2, h3⟩ := h
  refine ⟨a, c, rfl, h1, h2, fun h0 => ?_⟩
  obtain ⟨b, o, rfl, h4⟩ := h3 h0
  exact ⟨b, o, rfl, fun i hi => by obtain ⟨sl, sr, hs⟩ := h4 i hi; exact ⟨sl, sr, hs.keep hb⟩⟩

theorem ClauseAt.slice {W : World} {v : Value} {l : List Lt} (h : ClauseAt W v l) : ∃ a c, v = .slice a l.length c := by
  obtain ⟨a, c, rfl, _⟩ := h
  exact ⟨a, c, rfl⟩

theorem ClauseAt.nth {W : World} {a : Option Addr} {c n : Nat} {l : List Lt} (h : ClauseAt W (.slice a n c) l) {i : Nat} (hi : i < l.length) : ∃ b o sl sr, a = some ⟨b, o, none⟩ ∧ LitAt W b (o + i * 7) l[i] sl sr := by
  obtain ⟨a', c', e, h1, h2, h3⟩ := h
  cases e
  obtain ⟨b, o, rfl, h4⟩ := h3 (by omega)
  obtain ⟨sl, sr, hs⟩ := h4 i hi
  exact ⟨b, o, sl, sr, rfl, hs⟩

theorem ClauseAt.len {W : World} {v : Value} {l : List Lt} (h : ClauseAt W v l) : l.length ≤ 9223372036854775807 := by
  obtain ⟨a, c, rfl, h1, h2, _⟩ := h
  omega

theorem lbox_at (w : World) (x : Lt) (sl sr : Value) (hl : ArgsAt w sl x.l.args) (hr : ArgsAt w sr x.r.args) : LitAt (w.alloc (lbox x sl sr)) w.heap.size 0 x sl sr := by
  have h : (w.alloc (lbox x sl sr)).heap[w.heap.size]? = some (.cells [Value.bool x.neg, .int .i64 x.l.v, .string x.l.fn, sl, .int .i64 x.r.v, .string x.r.fn, sr].toArray 40 (0, 0)) := (MapKept.heap_alloc w (lbox x sl sr)).1
  refine ⟨by simp, ?_, ?_, ?_, ?_, ?_, ?_, ?_, ArgsAt.keep (below_box w _) (Nat.le_refl _) hl, ArgsAt.keep (below_box w _) (Nat.le_refl _) hr⟩ <;> rw [cell_of_row _ _ _ _ 40 (0, 0) h] <;> rfl

end Go.Proofs.YtgnjgpplelakkaaGreat
