/-
  subst.replaced, at every term.
-/
import Derived.Test.YtijihmncbaoklaaGreatSE
import Derived.Deep.Slices
namespace Go.Proofs.YtijihmncbaoklaaGreat
open Go.RowKit

theorem Tryz.info32 : (Tryz.prog.info? 32).map (fun i => (i.zero, i.size, i.bytes)) = some (some (.agg #[.int .i64 0, .string ⟨#[]⟩, .slice none 0 0]), 3, 48) := by kernel_rfl

/-- A row of terms, the first i of which are told. -/
structure RowI (g n i : Nat) (f : Nat → T) (W : World) : Prop where
  blk : ∃ arr, W.heap[g]? = some (.cells arr 32 (0, 0)) ∧ arr.size = n * 3
  el : ∀ j, j < i → ∃ s, W.cell? ⟨g, j * 3, none⟩ = some (.int .i64 (f j).v) ∧ W.cell? ⟨g, j * 3 + 1, none⟩ = some (.string (f j).fn) ∧ W.cell? ⟨g, j * 3 + 2, none⟩ = some s ∧ ArgsFr (g + 1) W s (f j).args

theorem RowI.keep {g n i : Nat} {f : Nat → T} {W W' : World} (h : RowI g n i f W) (hb : Below W.heap.size W W') : RowI g n i f W' := by
  obtain ⟨arr, h1, h2⟩ := h.blk
  have hlt : g < W.heap.size := (Array.getElem?_eq_some_iff.1 h1).1
  refine ⟨⟨arr, (hb.block g hlt).trans h1, h2⟩, fun j hj => ?_⟩
  obtain ⟨s, c0, c1, c2, hs⟩ := h.el j hj
  exact ⟨s, kc hb hlt c0, kc hb hlt c1, kc hb hlt c2, hs.keep hb.size (fun k _ hk => hb.block k hk)⟩

theorem RowI.facts {g n i : Nat} {f : Nat → T} {W : World} (h : RowI g n i f W) (hi : i < n) : g < W.heap.size ∧ (∃ u v s, W.cell? ⟨g, i * 3, none⟩ = some u ∧ W.cell? ⟨g, i * 3 + 1, none⟩ = some v ∧ W.cell? ⟨g, i * 3 + 2, none⟩ = some s) ∧ W.frozen? ⟨g, i * 3, none⟩ = false ∧ W.frozen? ⟨g, i * 3 + 1, none⟩ = false ∧ W.frozen? ⟨g, i * 3 + 2, none⟩ = false := by
  obtain ⟨arr, h1, h2⟩ := h.blk
  refine ⟨(Array.getElem?_eq_some_iff.1 h1).1, ⟨arr[i * 3]'(by omega), arr[i * 3 + 1]'(by omega), arr[i * 3 + 2]'(by omega), ?_, ?_, ?_⟩, ?_, ?_, ?_⟩
  · rw [cell_of_row _ _ _ _ 32 (0, 0) h1]; exact Array.getElem?_eq_getElem _
  · rw [cell_of_row _ _ _ _ 32 (0, 0) h1]; exact Array.getElem?_eq_getElem _
  · rw [cell_of_row _ _ _ _ 32 (0, 0) h1]; exact Array.getElem?_eq_getElem _
  · simp [World.frozen?, h1]
  · simp [World.frozen?, h1]
  · simp [World.frozen?, h1]

theorem set3_cells (W : World) (g o : Nat) (u v s : Value) (h : ∃ a b c, W.cell? ⟨g, o, none⟩ = some a ∧ W.cell? ⟨g, o + 1, none⟩ = some b ∧ W.cell? ⟨g, o + 2, none⟩ = some c) :
    (set3 W g o u v s).cell? ⟨g, o, none⟩ = some u ∧ (set3 W g o u v s).cell? ⟨g, o + 1, none⟩ = some v ∧ (set3 W g o u v s).cell? ⟨g, o + 2, none⟩ = some s := by
  obtain ⟨a, b, c, h0, h1, h2⟩ := h
  have e1 : (W.setCell ⟨g, o, none⟩ u).cell? ⟨g, o + 1, none⟩ = some b := (World.cell?_setCell_other _ _ _ _ (by simp)).trans h1
  have e2 : ((W.setCell ⟨g, o, none⟩ u).setCell ⟨g, o + 1, none⟩ v).cell? ⟨g, o + 2, none⟩ = some c := (World.cell?_setCell_other _ _ _ _ (by simp)).trans ((World.cell?_setCell_other _ _ _ _ (by simp)).trans h2)
  refine ⟨?_, ?_, ?_⟩
  · rw [World.cell?_setCell_other _ _ _ _ (by simp), World.cell?_setCell_other _ _ _ _ (by simp)]
    exact World.cell?_setCell_same _ _ _ h0
  · rw [World.cell?_setCell_other _ _ _ _ (by simp)]
    exact World.cell?_setCell_same _ _ _ e1
  · exact World.cell?_setCell_same _ _ _ e2

theorem set3_far (W : World) (g o : Nat) (u v s : Value) (k : Nat) (h : k < o ∨ o + 2 < k) : (set3 W g o u v s).cell? ⟨g, k, none⟩ = W.cell? ⟨g, k, none⟩ := by
  rw [World.cell?_setCell_other _ _ _ _ (by intro e; injection e with _ e2; omega), World.cell?_setCell_other _ _ _ _ (by intro e; injection e with _ e2; omega), World.cell?_setCell_other _ _ _ _ (by intro e; injection e with _ e2; omega)]

theorem RowI.step {g n i : Nat} {f : Nat → T} {W : World} (h : RowI g n i f W) (hi : i < n) (s : Value) (hs : ArgsFr (g + 1) W s (f i).args) : RowI g n (i + 1) f (set3 W g (i * 3) (.int .i64 (f i).v) (.string (f i).fn) s) := by
  obtain ⟨arr, h1, h2⟩ := h.blk
  obtain ⟨_, hx, _⟩ := h.facts hi
  obtain ⟨c0, c1, c2⟩ := set3_cells W g (i * 3) (.int .i64 (f i).v) (.string (f i).fn) s hx
  have kp : ∀ {s' l}, ArgsFr (g + 1) W s' l → ArgsFr (g + 1) (set3 W g (i * 3) (.int .i64 (f i).v) (.string (f i).fn) s) s' l := fun hh => hh.keep (by simp) (fun k hk _ => set3_other _ _ _ _ _ _ k (by omega))
  refine ⟨?_, fun j hj => ?_⟩
  · have e1 := heap_setCell_same W g (i * 3) arr 32 (.int .i64 (f i).v) h1
    have e2 := heap_setCell_same _ g (i * 3 + 1) _ 32 (.string (f i).fn) e1
    have e3 := heap_setCell_same _ g (i * 3 + 2) _ 32 s e2
    exact ⟨_, e3, by simp [h2]⟩
  · by_cases e : j = i
    · subst e
      exact ⟨s, c0, c1, c2, kp hs⟩
    · obtain ⟨s', d0, d1, d2, hs'⟩ := h.el j (by omega)
      exact ⟨s', (set3_far _ _ _ _ _ _ _ (by omega)).trans d0, (set3_far _ _ _ _ _ _ _ (by omega)).trans d1, (set3_far _ _ _ _ _ _ _ (by omega)).trans d2, kp hs'⟩

theorem RowI.fr {g n : Nat} {l : List T} {f : Nat → T} {W : World} (h : RowI g n n f W) (hl : l.length = n) (hf : ∀ i (hi : i < l.length), l[i] = f i) (hn : n ≤ 9223372036854775807) : ArgsFr g W (.slice (some ⟨g, 0, none⟩) n n) l := by
  subst hl
  obtain ⟨arr, h1, _⟩ := h.blk
  have hlt : g < W.heap.size := (Array.getElem?_eq_some_iff.1 h1).1
  haveI : Inhabited Value := ⟨undef⟩
  obtain ⟨s, hs⟩ := Deep.choose_lt (fun j (hj : j < l.length) => h.el j hj)
  refine .mk (some ⟨g, 0, none⟩) l.length l s (Nat.le_refl _) hn (fun _ => ⟨g, 0, Nat.le_refl _, hlt, rfl, fun i hi => ?_⟩) (fun i hi => ?_)
  · obtain ⟨c0, c1, c2, _⟩ := hs i hi
    rw [hf i hi, Nat.zero_add]
    exact ⟨c0, c1, c2⟩
  · rw [hf i hi]
    exact (hs i hi).2.2.2.low (Nat.le_succ _)

/-- What stands in the loop. -/
structure LoopI (w W1 : World) (t : T) (f : Nat → T) (i : Nat) (W : World) : Prop where
  row : RowI (w.heap.size + 1 + 1) t.args.length i f W
  bel : Below (w.heap.size + 1 + 1) W1 W
  siz : w.heap.size + 3 ≤ W.heap.size

theorem LoopI.al {w W1 : World} {t : T} {f : Nat → T} {i : Nat} {W : World} (h : LoopI w W1 t f i W) {W' : World} (hb : Below W.heap.size W W') : LoopI w W1 t f i W' :=
  ⟨h.row.keep hb, h.bel.trans (hb.mono (by have := h.siz; omega)), Nat.le_trans h.siz hb.size⟩

end Go.Proofs.YtijihmncbaoklaaGreat
