/-
  Rows of literals that are told one by one.
-/
import Derived.Test.YtgnjgpplelakkaaLE
import Derived.Test.YtgnjgpplelakkaaLM
import Derived.Test.YtgnjgpplelakkaaLV
namespace Go.Proofs.Ytgnjgpplelakkaa
open Go.RowKit Go.Maps

theorem Try.info28 : (Try.prog.info? 28).map (fun i => (i.zero, i.size, i.bytes)) = some (some (.agg #[.bool false, .int .i64 0, .string ⟨#[]⟩, .slice none 0 0, .int .i64 0, .string ⟨#[]⟩, .slice none 0 0]), 7, 104) := by kernel_rfl

theorem set7_size (W : World) (b o : Nat) (v0 v1 v2 v3 v4 v5 v6 : Value) : (set7 W b o v0 v1 v2 v3 v4 v5 v6).heap.size = W.heap.size := by simp

theorem set7_far (W : World) (g o : Nat) (v0 v1 v2 v3 v4 v5 v6 : Value) (k : Nat) (h : k < o ∨ o + 6 < k) : (set7 W g o v0 v1 v2 v3 v4 v5 v6).cell? ⟨g, k, none⟩ = W.cell? ⟨g, k, none⟩ := by
  rw [World.cell?_setCell_other _ _ _ _ (by intro e; injection e with _ e2; omega), World.cell?_setCell_other _ _ _ _ (by intro e; injection e with _ e2; omega), World.cell?_setCell_other _ _ _ _ (by intro e; injection e with _ e2; omega), World.cell?_setCell_other _ _ _ _ (by intro e; injection e with _ e2; omega), World.cell?_setCell_other _ _ _ _ (by intro e; injection e with _ e2; omega), World.cell?_setCell_other _ _ _ _ (by intro e; injection e with _ e2; omega), World.cell?_setCell_other _ _ _ _ (by intro e; injection e with _ e2; omega)]

theorem set7_blk (W : World) (g o : Nat) (arr : Array Value) (h : W.heap[g]? = some (.cells arr 28 (0, 0))) (ho : o + 6 < arr.size) (v0 v1 v2 v3 v4 v5 v6 : Value) : ∃ arr', (set7 W g o v0 v1 v2 v3 v4 v5 v6).heap[g]? = some (.cells arr' 28 (0, 0)) ∧ arr'.size = arr.size ∧ arr'[o]? = some v0 ∧ arr'[o + 1]? = some v1 ∧ arr'[o + 2]? = some v2 ∧ arr'[o + 3]? = some v3 ∧ arr'[o + 4]? = some v4 ∧ arr'[o + 5]? = some v5 ∧ arr'[o + 6]? = some v6 := by
  have e0 := heap_setCell_same W g o arr 28 v0 h
  have e1 := heap_setCell_same _ g (o + 1) _ 28 v1 e0
  have e2 := heap_setCell_same _ g (o + 2) _ 28 v2 e1
  have e3 := heap_setCell_same _ g (o + 3) _ 28 v3 e2
  have e4 := heap_setCell_same _ g (o + 4) _ 28 v4 e3
  have e5 := heap_setCell_same _ g (o + 5) _ 28 v5 e4
  have e6 := heap_setCell_same _ g (o + 6) _ 28 v6 e5
  refine ⟨_, e6, by simp, ?_, ?_, ?_, ?_, ?_, ?_, ?_⟩ <;> simp [Array.getElem?_setIfInBounds] <;> omega

/-- A row of literals, the first i of which are told. -/
structure RowL (g n i : Nat) (f : Nat → Lt) (W : World) : Prop where
  blk : ∃ arr, W.heap[g]? = some (.cells arr 28 (0, 0)) ∧ arr.size = n * 7
  el : ∀ j, j < i → ∃ s r, (W.cell? ⟨g, j * 7, none⟩ = some (.bool (f j).neg) ∧ W.cell? ⟨g, j * 7 + 1, none⟩ = some (.int .i64 (f j).l.v) ∧ W.cell? ⟨g, j * 7 + 2, none⟩ = some (.string (f j).l.fn) ∧ W.cell? ⟨g, j * 7 + 3, none⟩ = some s ∧ W.cell? ⟨g, j * 7 + 4, none⟩ = some (.int .i64 (f j).r.v) ∧ W.cell? ⟨g, j * 7 + 5, none⟩ = some (.string (f j).r.fn) ∧ W.cell? ⟨g, j * 7 + 6, none⟩ = some r) ∧ ArgsP (fun x => g + 1 ≤ x) W s (f j).l.args ∧ ArgsP (fun x => g + 1 ≤ x) W r (f j).r.args

theorem RowL.keep {g n i : Nat} {f : Nat → Lt} {W W' : World} (h : RowL g n i f W) (hs : W.heap.size ≤ W'.heap.size) (hk : ∀ k, g ≤ k → k < W.heap.size → W'.heap[k]? = W.heap[k]?) : RowL g n i f W' := by
  obtain ⟨arr, h1, h2⟩ := h.blk
  have hlt : g < W.heap.size := (Array.getElem?_eq_some_iff.1 h1).1
  have hg := hk g (Nat.le_refl _) hlt
  have cb : ∀ o, W'.cell? ⟨g, o, none⟩ = W.cell? ⟨g, o, none⟩ := fun o => by simp [World.cell?, hg]
  refine ⟨⟨arr, hg.trans h1, h2⟩, fun j hj => ?_⟩
  obtain ⟨s, r, hc, hs1, hr1⟩ := h.el j hj
  exact ⟨s, r, by simpa only [cb] using hc, hs1.keep hs (fun k hk1 hk2 => ⟨hk1, hk k (by omega) hk2⟩), hr1.keep hs (fun k hk1 hk2 => ⟨hk1, hk k (by omega) hk2⟩)⟩

theorem RowL.facts {g n i : Nat} {f : Nat → Lt} {W : World} (h : RowL g n i f W) (hi : i < n) : g < W.heap.size ∧ (∃ v0 v1 v2 v3 v4 v5 v6, W.cell? ⟨g, i * 7, none⟩ = some v0 ∧ W.cell? ⟨g, i * 7 + 1, none⟩ = some v1 ∧ W.cell? ⟨g, i * 7 + 2, none⟩ = some v2 ∧ W.cell? ⟨g, i * 7 + 3, none⟩ = some v3 ∧ W.cell? ⟨g, i * 7 + 4, none⟩ = some v4 ∧ W.cell? ⟨g, i * 7 + 5, none⟩ = some v5 ∧ W.cell? ⟨g, i * 7 + 6, none⟩ = some v6) ∧ ∀ k, W.frozen? ⟨g, k, none⟩ = false := by
  obtain ⟨arr, h1, h2⟩ := h.blk
  refine ⟨(Array.getElem?_eq_some_iff.1 h1).1, ⟨arr[i * 7]'(by omega), arr[i * 7 + 1]'(by omega), arr[i * 7 + 2]'(by omega), arr[i * 7 + 3]'(by omega), arr[i * 7 + 4]'(by omega), arr[i * 7 + 5]'(by omega), arr[i * 7 + 6]'(by omega), ?_, ?_, ?_, ?_, ?_, ?_, ?_⟩, fun k => ?_⟩
  all_goals first | (rw [cell_of_row _ _ _ _ 28 (0, 0) h1]; exact Array.getElem?_eq_getElem _) | simp [World.frozen?, h1]

theorem RowL.step {g n i : Nat} {f : Nat → Lt} {W : World} (h : RowL g n i f W) (hi : i < n) (s r : Value) (hs : ArgsP (fun x => g + 1 ≤ x) W s (f i).l.args) (hr : ArgsP (fun x => g + 1 ≤ x) W r (f i).r.args) : RowL g n (i + 1) f (set7 W g (i * 7) (.bool (f i).neg) (.int .i64 (f i).l.v) (.string (f i).l.fn) s (.int .i64 (f i).r.v) (.string (f i).r.fn) r) := by
  obtain ⟨arr, h1, h2⟩ := h.blk
  obtain ⟨arr', e1, e2, c0, c1, c2, c3, c4, c5, c6⟩ := set7_blk W g (i * 7) arr h1 (by omega) (.bool (f i).neg) (.int .i64 (f i).l.v) (.string (f i).l.fn) s (.int .i64 (f i).r.v) (.string (f i).r.fn) r
  have kp : ∀ {s' l}, ArgsP (fun x => g + 1 ≤ x) W s' l → ArgsP (fun x => g + 1 ≤ x) (set7 W g (i * 7) (.bool (f i).neg) (.int .i64 (f i).l.v) (.string (f i).l.fn) s (.int .i64 (f i).r.v) (.string (f i).r.fn) r) s' l := fun hh => hh.keep (by simp) (fun k hk _ => ⟨hk, set7_other _ _ _ _ _ _ _ _ _ _ k (by omega)⟩)
  refine ⟨⟨arr', e1, by omega⟩, fun j hj => ?_⟩
  by_cases e : j = i
  · subst e
    refine ⟨s, r, ⟨?_, ?_, ?_, ?_, ?_, ?_, ?_⟩, kp hs, kp hr⟩ <;> rw [cell_of_row _ _ _ _ 28 (0, 0) e1] <;> assumption
  · obtain ⟨s', r', ⟨d0, d1, d2, d3, d4, d5, d6⟩, hs', hr'⟩ := h.el j (by omega)
    exact ⟨s', r', ⟨(set7_far _ _ _ _ _ _ _ _ _ _ _ (by omega)).trans d0, (set7_far _ _ _ _ _ _ _ _ _ _ _ (by omega)).trans d1, (set7_far _ _ _ _ _ _ _ _ _ _ _ (by omega)).trans d2, (set7_far _ _ _ _ _ _ _ _ _ _ _ (by omega)).trans d3, (set7_far _ _ _ _ _ _ _ _ _ _ _ (by omega)).trans d4, (set7_far _ _ _ _ _ _ _ _ _ _ _ (by omega)).trans d5, (set7_far _ _ _ _ _ _ _ _ _ _ _ (by omega)).trans d6⟩, kp hs', kp hr'⟩

theorem RowL.clause {g n : Nat} {f : Nat → Lt} {W : World} (h : RowL g n n f W) (hn : n ≤ 9223372036854775807) : ClauseAt W (.slice (some ⟨g, 0, none⟩) n n) ((List.range n).map f) := by
  obtain ⟨arr, h1, _⟩ := h.blk
  have hlt : g < W.heap.size := (Array.getElem?_eq_some_iff.1 h1).1
  refine ⟨some ⟨g, 0, none⟩, n, by simp, by simp, hn, fun _ => ⟨g, 0, rfl, fun i hi => ?_⟩⟩
  have hi' : i < n := by simpa using hi
  obtain ⟨s, r, ⟨c0, c1, c2, c3, c4, c5, c6⟩, hs, hr⟩ := h.el i hi'
  simp only [List.getElem_map, List.getElem_range, Nat.zero_add]
  exact ⟨s, r, hlt, c0, c1, c2, c3, c4, c5, c6, hs.args, hr.args⟩

end Go.Proofs.Ytgnjgpplelakkaa
