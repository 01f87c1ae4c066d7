import Derived.Test.YtijihmncbaoklaaGreatSA
import Derived.Test.YtijihmncbaoklaaGreatQF
import Derived.Lib.Walk
import Derived.Lib.Small
import Derived.Test.YtijihmncbaoklaaGreatSF
import Derived.Deep.RegionHeld3

/-
  The place of a variable's bind: a binary search.
-/
namespace Go.Proofs.YtijihmncbaoklaaGreat
open Go.RowKit

end Go.Proofs.YtijihmncbaoklaaGreat

/-
  subst.itself, subst.image, subst.copies.
-/
namespace Go.Proofs.YtijihmncbaoklaaGreat
open Go.RowKit

/-- A variable. -/
def var (n : Int) : T := .mk n ⟨#[]⟩ []
end Go.Proofs.YtijihmncbaoklaaGreat

/-
  subst.grown and subst.fits.
-/
namespace Go.Proofs.YtijihmncbaoklaaGreat
open Go.RowKit

end Go.Proofs.YtijihmncbaoklaaGreat

/-
  subst.grown and subst.fits.
-/
namespace Go.Proofs.YtijihmncbaoklaaGreat
open Go.RowKit

/-- What stands in grown's loop. -/
structure GrI (w W1 : World) (s d : Int) (W : World) : Prop where
  box : W.heap[w.heap.size + 1 + 1]? = some (.cells #[.int .i64 s, .int .i64 d] 134 (0, 0))
  bel : Below (w.heap.size + 1 + 1) W1 W
  siz : w.heap.size + 3 ≤ W.heap.size

theorem GrI.al {w W1 : World} {s d : Int} {W W' : World} (h : GrI w W1 s d W) (hb : Below W.heap.size W W') : GrI w W1 s d W' :=
  ⟨(hb.block _ (by have := h.siz; omega)).trans h.box, h.bel.trans (hb.mono (by have := h.siz; omega)), Nat.le_trans h.siz hb.size⟩

end Go.Proofs.YtijihmncbaoklaaGreat

/-
  subst.extents.
-/
namespace Go.Proofs.YtijihmncbaoklaaGreat
open Go.RowKit

/-- A row of extents, the first i of which are told. -/
structure ExtI (g n i : Nat) (l : List Bd) (W : World) : Prop where
  blk : ∃ arr, W.heap[g]? = some (.cells arr 134 (0, 0)) ∧ arr.size = n * 2
  el : ∀ j (hj : j < l.length), j < i → W.cell? ⟨g, j * 2, none⟩ = some (.int .i64 l[j].2.size) ∧ W.cell? ⟨g, j * 2 + 1, none⟩ = some (.int .i64 l[j].2.depth)

theorem ExtI.keep {g n i : Nat} {l : List Bd} {W W' : World} (h : ExtI g n i l W) (hb : Below W.heap.size W W') : ExtI g n i l W' := by
  obtain ⟨arr, h1, h2⟩ := h.blk
  have hlt : g < W.heap.size := (Array.getElem?_eq_some_iff.1 h1).1
  exact ⟨⟨arr, (hb.block g hlt).trans h1, h2⟩, fun j hj hi => ⟨kc hb hlt (h.el j hj hi).1, kc hb hlt (h.el j hj hi).2⟩⟩

theorem ExtI.facts {g n i : Nat} {l : List Bd} {W : World} (h : ExtI g n i l W) (hi : i < n) : g < W.heap.size ∧ (∃ u v, W.cell? ⟨g, i * 2, none⟩ = some u ∧ W.cell? ⟨g, i * 2 + 1, none⟩ = some v) ∧ W.frozen? ⟨g, i * 2, none⟩ = false ∧ W.frozen? ⟨g, i * 2 + 1, none⟩ = false := by
  obtain ⟨arr, h1, h2⟩ := h.blk
  refine ⟨(Array.getElem?_eq_some_iff.1 h1).1, ⟨arr[i * 2]'(by omega), arr[i * 2 + 1]'(by omega), ?_, ?_⟩, ?_, ?_⟩
  · rw [cell_of_row _ _ _ _ 134 (0, 0) h1]; exact Array.getElem?_eq_getElem _
  · rw [cell_of_row _ _ _ _ 134 (0, 0) h1]; exact Array.getElem?_eq_getElem _
  · simp [World.frozen?, h1]
  · simp [World.frozen?, h1]

theorem ExtI.step {g n i : Nat} {l : List Bd} {W : World} (h : ExtI g n i l W) (hi : i < n) (hl : i < l.length) : ExtI g n (i + 1) l ((W.setCell ⟨g, i * 2, none⟩ (.int .i64 l[i].2.size)).setCell ⟨g, i * 2 + 1, none⟩ (.int .i64 l[i].2.depth)) := by
  obtain ⟨arr, h1, h2⟩ := h.blk
  obtain ⟨_, ⟨u, v, c0, c1⟩, _⟩ := h.facts hi
  refine ⟨?_, fun j hj hji => ?_⟩
  · have e1 := heap_setCell_same W g (i * 2) arr 134 (.int .i64 l[i].2.size) h1
    have e2 := heap_setCell_same _ g (i * 2 + 1) _ 134 (.int .i64 l[i].2.depth) e1
    exact ⟨_, e2, by simp [h2]⟩
  · by_cases e : j = i
    · subst e
      refine ⟨?_, ?_⟩
      · rw [World.cell?_setCell_other _ _ _ _ (by simp)]
        exact World.cell?_setCell_same _ _ _ c0
      · exact World.cell?_setCell_same _ _ _ ((World.cell?_setCell_other _ _ _ _ (by simp)).trans c1)
    · obtain ⟨d0, d1⟩ := h.el j hj (by omega)
      refine ⟨?_, ?_⟩ <;> rw [World.cell?_setCell_other _ _ _ _ (by intro e; injection e with _ e2; omega), World.cell?_setCell_other _ _ _ _ (by intro e; injection e with _ e2; omega)] <;> assumption

/-- What extents leaves: the binds' slice in one box, the row's in another. -/
structure ExtAt (W : World) (l : List Bd) (v : Value) (B1 B2 g : Nat) : Prop where
  binds : BindsAt W v l
  c1 : W.cell? ⟨B1, 0, none⟩ = some v
  c2 : W.cell? ⟨B2, 0, none⟩ = some (.slice (some ⟨g, 0, none⟩) l.length l.length)
  row : ExtI g l.length l.length l W

theorem ExtAt.keep {W W' : World} {l : List Bd} {v : Value} {B1 B2 g : Nat} (h : ExtAt W l v B1 B2 g) (hb : Below W.heap.size W W') : ExtAt W' l v B1 B2 g :=
  ⟨h.binds.keep hb, kc hb (World.block_lt_of_cell? W _ h.c1) h.c1, kc hb (World.block_lt_of_cell? W _ h.c2) h.c2, h.row.keep hb⟩

end Go.Proofs.YtijihmncbaoklaaGreat

/-
  subst.extents.
-/
namespace Go.Proofs.YtijihmncbaoklaaGreat
open Go.RowKit

/-- What stands in extents' loop. -/
structure LE (w W1 : World) (l : List Bd) (i : Nat) (W : World) : Prop where
  row : ExtI (w.heap.size + 1) l.length i l W
  b2 : W.cell? ⟨w.heap.size + 1 + 1, 0, none⟩ = some (.slice (some ⟨w.heap.size + 1, 0, none⟩) l.length l.length)
  bel : Below (w.heap.size + 1) W1 W
  siz : w.heap.size + 3 ≤ W.heap.size

theorem LE.al {w W1 : World} {l : List Bd} {i : Nat} {W W' : World} (h : LE w W1 l i W) (hb : Below W.heap.size W W') : LE w W1 l i W' :=
  ⟨h.row.keep hb, kc hb (by have := h.siz; omega) h.b2, h.bel.trans (hb.mono (by have := h.siz; omega)), Nat.le_trans h.siz hb.size⟩

theorem LE.step {w W1 : World} {l : List Bd} {i : Nat} {W : World} (h : LE w W1 l i W) (hl : i < l.length) : LE w W1 l (i + 1) ((W.setCell ⟨w.heap.size + 1, i * 2, none⟩ (.int .i64 l[i].2.size)).setCell ⟨w.heap.size + 1, i * 2 + 1, none⟩ (.int .i64 l[i].2.depth)) := by
  refine ⟨h.row.step hl hl, ?_, (h.bel.setCell (p := ⟨w.heap.size + 1, i * 2, none⟩) (Nat.le_refl _) _).setCell (p := ⟨w.heap.size + 1, i * 2 + 1, none⟩) (Nat.le_refl _) _, by have := h.siz; simpa using this⟩
  rw [World.cell?_setCell_other _ _ _ _ (by simp), World.cell?_setCell_other _ _ _ _ (by simp)]
  exact h.b2

end Go.Proofs.YtijihmncbaoklaaGreat

/-
  subst.Apply.
-/
namespace Go.Proofs.YtijihmncbaoklaaGreat
open Go.RowKit

/-- What stands in Apply. -/
structure ApI (w : World) (l : List Bd) (v : Value) (t : T) (sl : Value) (X : World) : Prop where
  tb : X.heap[w.heap.size]? = some (.cells #[.int .i64 t.v, .string t.fn, sl] 32 (0, 0))
  rb : X.heap[w.heap.size + 1]? = some (.cells #[.int .i64 0, .string ⟨#[]⟩, .slice none 0 0] 32 (0, 0))
  binds : BindsAt X v l
  args : ArgsAt X sl t.args
  bel : Below w.heap.size w X
  siz : w.heap.size + 2 ≤ X.heap.size

theorem ApI.keep {w : World} {l : List Bd} {v : Value} {t : T} {sl : Value} {X X' : World} (h : ApI w l v t sl X) (hb : Below X.heap.size X X') : ApI w l v t sl X' := by
  have hs := h.siz
  exact ⟨(hb.block _ (by omega)).trans h.tb, (hb.block _ (by omega)).trans h.rb, h.binds.keep hb, ArgsAt.keep hb (Nat.le_refl _) h.args, h.bel.trans (hb.mono h.bel.size), Nat.le_trans hs hb.size⟩

theorem ApI.start (w : World) (l : List Bd) (v : Value) (t : T) (sl : Value) (hb : BindsAt w v l) (ha : ArgsAt w sl t.args) : ApI w l v t sl ((w.alloc (tbox t sl)).alloc (.cells #[.int .i64 0, .string ⟨#[]⟩, .slice none 0 0] 32)) := by
  have hb2 := below_box2 w (tbox t sl) (.cells #[.int .i64 0, .string ⟨#[]⟩, .slice none 0 0] 32)
  have hbb := below_box (w.alloc (tbox t sl)) (.cells #[.int .i64 0, .string ⟨#[]⟩, .slice none 0 0] 32)
  have hz := (MapKept.heap_alloc (w.alloc (tbox t sl)) (.cells #[.int .i64 0, .string ⟨#[]⟩, .slice none 0 0] 32)).1
  rw [World.size_alloc] at hz
  exact ⟨(hbb.block _ (by simp)).trans (MapKept.heap_alloc w _).1, hz, hb.keep hb2, ArgsAt.keep hb2 (Nat.le_refl _) ha, hb2, by simp⟩

end Go.Proofs.YtijihmncbaoklaaGreat
