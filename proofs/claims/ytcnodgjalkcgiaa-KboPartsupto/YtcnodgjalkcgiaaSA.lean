/-
  Which lists of binds are substitutions.
-/
import Derived.Test.YtcnodgjalkcgiaaNE
import Derived.Test.YtcnodgjalkcgiaaL
namespace Go.Proofs.Ytcnodgjalkcgiaa
open Go.RowKit

/-- Is the bind the variable itself? -/
def own1 (x : Bd) : Bool := decide (x.2.fn.size = 0) && decide (x.2.v = x.1)
/-- May the bind stand behind one of that number? -/
def okb (last : Int) (x : Bd) : Bool := decide (last < x.1) && decide (x.1 < 1000000) && !own1 x && decide (x.2.rightW = 0)
/-- The number ahead of place j. -/
def prv (l : List Bd) : Nat → Int
  | 0 => -1
  | k + 1 => (l[k]?.map (·.1)).getD 0
/-- Is it a substitution? -/
def IsSub (l : List Bd) : Prop := l.length ≤ 4000 ∧ ∀ j (h : j < l.length), okb (prv l j) l[j] = true
open Classical in
noncomputable def isSub (l : List Bd) : Bool := decide (IsSub l)
theorem isSub_iff {l : List Bd} : isSub l = true ↔ IsSub l := by simp [isSub]
theorem isSub_false {l : List Bd} : isSub l = false ↔ ¬ IsSub l := by simp [isSub]
/-- What Right answers. -/
noncomputable def subW (l : List Bd) : Int := if isSub l then 0 else 1
theorem subW_t {l : List Bd} (h : isSub l = true) : subW l = 0 := by unfold subW; rw [h]; rfl
theorem subW_f {l : List Bd} (h : isSub l = false) : subW l = 1 := by unfold subW; rw [h]; rfl
theorem prv_succ (l : List Bd) (j : Nat) (h : j < l.length) : prv l (j + 1) = l[j].1 := by simp [prv, h]

theorem okb_false {last : Int} {x : Bd} (h : x.1 ≤ last ∨ 1000000 ≤ x.1 ∨ own1 x = true ∨ x.2.rightW ≠ 0) : okb last x = false := by
  unfold okb
  rcases h with h | h | h | h
  · rw [decide_eq_false (by omega : ¬ last < x.1)]; rfl
  · rw [decide_eq_false (by omega : ¬ x.1 < 1000000)]; simp
  · rw [h]; simp
  · rw [decide_eq_false h]; simp

theorem okb_true {last : Int} {x : Bd} (h1 : last < x.1) (h2 : x.1 < 1000000) (h3 : own1 x = false) (h4 : x.2.rightW = 0) : okb last x = true := by
  unfold okb
  simp [h1, h2, h3, h4]

theorem not_sub {l : List Bd} {j : Nat} (h : j < l.length) (hb : okb (prv l j) l[j] = false) : isSub l = false := by
  refine isSub_false.2 fun hs => ?_
  rw [hs.2 j h] at hb
  cases hb

theorem bbox_cells (w : World) (x : Bd) (s : Value) : (w.alloc (bbox x s)).cell? ⟨w.heap.size, 0, none⟩ = some (.int .i64 x.1) ∧ (w.alloc (bbox x s)).cell? ⟨w.heap.size, 1, none⟩ = some (.int .i64 x.2.v) ∧ (w.alloc (bbox x s)).cell? ⟨w.heap.size, 2, none⟩ = some (.string x.2.fn) ∧ (w.alloc (bbox x s)).cell? ⟨w.heap.size, 3, none⟩ = some s := by
  refine ⟨?_, ?_, ?_, ?_⟩ <;> rw [World.cell?_alloc_new] <;> rfl

end Go.Proofs.Ytcnodgjalkcgiaa
