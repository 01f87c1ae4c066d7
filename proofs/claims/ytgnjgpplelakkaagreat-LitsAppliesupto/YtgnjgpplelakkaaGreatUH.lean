/-
  subst.Shift: its closure, its boxes.
-/
import Derived.Test.YtgnjgpplelakkaaGreatUG
namespace Go.Proofs.YtgnjgpplelakkaaGreat
open Go.RowKit Go.Shelf

def var (n : Int) : T := .mk n ⟨#[]⟩ []

/-- The variable of the shifted number. -/
def shf (by_ : Int) (n : Int) : T := var (wrap64 (n + by_))

set_option maxHeartbeats 1000000 in
theorem sh1_any (by_ n : Int) (B : Nat) (w : World) (hB : w.cell? ⟨B, 0, none⟩ = some (.int .i64 by_)) : Calls Tryz.prog 55 #[.int .i64 n, .pointer (some ⟨B, 0, none⟩)] w fun e W' => e = .returned (tval (shf by_ n) (.slice none 0 0)) ∧ Below w.heap.size w W' := by
  have hb := below_box w (.cells #[.int .i64 0, .string ⟨#[]⟩, .slice none 0 0] 28)
  have hB1 := kc hb (World.block_lt_of_cell? w _ hB) hB
  clear hB
  go_enter Tryz.func55, Tryz.ntmps55
  go_wp2
  refine bodyPost_ret (v := tval (shf by_ n) (.slice none 0 0)) (by simp [results, Tryz.results55, go_sem, *, shf, var, T.v, T.fn, wrap64]) rfl ⟨rfl, ?_⟩
  first | exact set3_below hb _ 0 _ _ _ (Nat.le_refl _) | exact below_box w _

theorem sh1_stand (by_ : Int) (B : Nat) (W0 : World) (hB : W0.cell? ⟨B, 0, none⟩ = some (.int .i64 by_)) : StandAt W0 55 #[.pointer (some ⟨B, 0, none⟩)] (shf by_) :=
  fun n W hW => (sh1_any by_ n B W (kc hW (World.block_lt_of_cell? W0 _ hB) hB)).mono fun _ _ ⟨he, hb⟩ => ⟨_, he, ArgsFr.nil _ _, hb⟩

theorem eg43 : ∀ args w, (callFunc 55 args).run Tryz.prog w = .ok (.enter 55 args) w := enters_of Tryz.func55 (by kernel_rfl) rfl

theorem numbers_any (a : Option Addr) (n c : Nat) (w : World) :
    Calls Tryz.prog 54 #[.slice a n c] w fun e w' => e = .returned (.func (.func 81) #[] #[.pointer (some ⟨w.heap.size, 0, none⟩)]) ∧ w' = w.alloc (.cells #[.slice a n c] 26) := by
  go_enter Tryz.func54, Tryz.ntmps54
  go_wp2
  go_ret
  exact ⟨rfl, rfl⟩

/-- May the number be shifted? -/
def fine (by_ n : Int) : Bool := !(decide (by_ < -n) || decide (1000000 - n ≤ by_))

/-- The four boxes of Shift. -/
structure ShB (w : World) (t : T) (sl : Value) (by_ f : Int) (W : World) : Prop where
  tb : W.heap[w.heap.size]? = some (.cells #[.int .i64 t.v, .string t.fn, sl] 28 (0, 0))
  bb : W.heap[w.heap.size + 1]? = some (.cells #[.int .i64 by_] 3 (0, 0))
  rb : W.heap[w.heap.size + 1 + 1]? = some (.cells #[.int .i64 0, .string ⟨#[]⟩, .slice none 0 0] 28 (0, 0))
  eb : W.heap[w.heap.size + 1 + 1 + 1]? = some (.cells #[.int .i64 f] 33 (0, 0))
  bel : Below w.heap.size w W

/-- What stands in the loop: no number so far was wrong (P), or one was. -/
structure ShI (w : World) (t : T) (sl : Value) (by_ f : Int) (P : List Int → Prop) (E : List Nat) (pre : List Int) (W : World) : Prop where
  b : ShB w t sl by_ f W
  low : ∀ r ∈ E, w.heap.size + 4 ≤ r ∧ r < W.heap.size
  p : P pre

theorem ShB.keep {w : World} {t : T} {sl : Value} {by_ f : Int} {W W' : World} (h : ShB w t sl by_ f W) (hb : Below W.heap.size W W') : ShB w t sl by_ f W' := by
  have h3 := (Array.getElem?_eq_some_iff.1 h.eb).1
  exact ⟨(hb.block _ (by omega)).trans h.tb, (hb.block _ (by omega)).trans h.bb, (hb.block _ (by omega)).trans h.rb, (hb.block _ h3).trans h.eb, h.bel.trans (hb.mono h.bel.size)⟩

theorem ShI.abide (w : World) (t : T) (sl : Value) (by_ f : Int) (P : List Int → Prop) : Abide (ShI w t sl by_ f P) := by
  intro E E' s W W' row h hg hr hE
  have h3 := (Array.getElem?_eq_some_iff.1 h.b.eb).1
  have hbs := h.b.bel.size
  have hk : ∀ k, k < w.heap.size + 4 → k < W.heap.size → W'.heap[k]? = W.heap[k]? := fun k h1 h2 => hg.block k h2 (fun e => by have := (h.low k (hr k e.symm)).1; omega)
  refine ⟨⟨(hk _ (by omega) (by omega)).trans h.b.tb, (hk _ (by omega) (by omega)).trans h.b.bb, (hk _ (by omega) (by omega)).trans h.b.rb, (hk _ (by omega) h3).trans h.b.eb, h.b.bel.trans ⟨hg.os, hg.tape, hg.output, hg.size, fun k hk' => hk k (by omega) (by omega)⟩⟩, fun r hr' => ?_, h.p⟩
  rcases hE r hr' with h' | h'
  · exact ⟨(h.low r h').1, Nat.lt_of_lt_of_le (h.low r h').2 hg.size⟩
  · exact ⟨by omega, h'.2⟩

/-- The results are told: r and f. -/
theorem ShB.told {w : World} {t : T} {sl : Value} {by_ f : Int} {W : World} (h : ShB w t sl by_ f W) (u v s : Value) (f' : Value) :
    let W' := (set3 W (w.heap.size + 1 + 1) 0 u v s).setCell ⟨w.heap.size + 1 + 1 + 1, 0, none⟩ f'
    (∀ k, k ≠ w.heap.size + 1 + 1 → k ≠ w.heap.size + 1 + 1 + 1 → W'.heap[k]? = W.heap[k]?) ∧ W'.heap[w.heap.size + 1 + 1]? = some (.cells #[u, v, s] 28 (0, 0)) ∧ W'.heap[w.heap.size + 1 + 1 + 1]? = some (.cells #[f'] 33 (0, 0)) ∧ W'.heap.size = W.heap.size ∧ Below w.heap.size w W' := by
  have hk : ∀ k, k ≠ w.heap.size + 1 + 1 → k ≠ w.heap.size + 1 + 1 + 1 → ((set3 W (w.heap.size + 1 + 1) 0 u v s).setCell ⟨w.heap.size + 1 + 1 + 1, 0, none⟩ f').heap[k]? = W.heap[k]? := fun k h1 h2 => by
    rw [Below.heap_setCell _ _ _ k h2, set3_other _ _ _ _ _ _ k h1]
  refine ⟨hk, ?_, ?_, by simp, ?_⟩
  · rw [Below.heap_setCell _ _ _ _ (by show w.heap.size + 1 + 1 ≠ w.heap.size + 1 + 1 + 1; omega)]
    have e1 := heap_setCell_same W _ 0 _ 28 u h.rb
    have e2 := heap_setCell_same _ _ 1 _ 28 v e1
    have e3 := heap_setCell_same _ _ 2 _ 28 s e2
    simpa using e3
  · have he : (set3 W (w.heap.size + 1 + 1) 0 u v s).heap[w.heap.size + 1 + 1 + 1]? = some (.cells #[.int .i64 f] 33 (0, 0)) := by rw [set3_other _ _ _ _ _ _ _ (by omega)]; exact h.eb
    have := heap_setCell_same _ _ 0 _ 33 f' he
    simpa using this
  · exact (set3_below h.bel _ 0 u v s (by omega)).setCell (p := ⟨w.heap.size + 1 + 1 + 1, 0, none⟩) (by show w.heap.size ≤ w.heap.size + 1 + 1 + 1; omega) f'

end Go.Proofs.YtgnjgpplelakkaaGreat
