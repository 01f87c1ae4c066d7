/-
  The document's Depth, Shape, Right.
-/
import Derived.Test.YtijihmncbaoklaaGreatTA
namespace Go.Proofs.YtijihmncbaoklaaGreat
open Go.RowKit

/-- The depth, as the machine counts. -/
def T.depthW : T → Int
  | .mk _ _ args => wrap64 (mxs args 0 + 1)
where mxs : List T → Int → Int
  | [], m => m
  | a :: r, m => mxs r (max m (T.depthW a))

theorem T.depthW_eq (t : T) : t.depthW = wrap64 ((t.args.map T.depthW).foldl max 0 + 1) := by
  have h : ∀ (l : List T) (m : Int), T.depthW.mxs l m = (l.map T.depthW).foldl max m := by
    intro l
    induction l with
    | nil => intro m; rfl
    | cons a r ih => intro m; simp [T.depthW.mxs, ih]
  cases t with
  | mk v fn args => simp [T.depthW, T.args, h]

/-- The right shape, all through. -/
def T.shape : T → Bool
  | .mk v fn args => if fn.size = 0 then decide (0 ≤ v) && decide (v < 1000000) && decide (args.length = 0) else decide (v = 0) && decide (fn.size ≤ 64) && decide (args.length ≤ 16) && shapes args
where shapes : List T → Bool
  | [] => true
  | a :: r => T.shape a && shapes r

theorem T.shape_eq (t : T) : t.shape = if t.fn.size = 0 then decide (0 ≤ t.v) && decide (t.v < 1000000) && decide (t.args.length = 0) else decide (t.v = 0) && decide (t.fn.size ≤ 64) && decide (t.args.length ≤ 16) && t.args.all T.shape := by
  have h : ∀ (l : List T), T.shape.shapes l = l.all T.shape := by
    intro l
    induction l with
    | nil => rfl
    | cons a r ih => simp [T.shape.shapes, ih]
  cases t with
  | mk v fn args =>
    show (if fn.size = 0 then decide (0 ≤ v) && decide (v < 1000000) && decide (args.length = 0) else decide (v = 0) && decide (fn.size ≤ 64) && decide (args.length ≤ 16) && T.shape.shapes args) = if fn.size = 0 then decide (0 ≤ v) && decide (v < 1000000) && decide (args.length = 0) else decide (v = 0) && decide (fn.size ≤ 64) && decide (args.length ≤ 16) && args.all T.shape
    rw [h]

theorem int_len0 (l : List T) : ((l.length : Int) == 0) = decide (l = []) := by
  cases l with
  | nil => rfl
  | cons a r =>
    have : (((a :: r).length : Int) == 0) = false := by simp; omega
    rw [this]
    simp
theorem ba_isEmpty (s : ByteArray) : s.toList.isEmpty = decide (s.size = 0) := by
  rw [ByteArray.toList_eq]
  cases s with
  | mk d =>
    cases d with
    | mk l => cases l <;> rfl
/-- What Right answers, as the machine counts. -/
def T.rightW (t : T) : Int := if t.shape = false then 1 else if 60 < t.depthW then 22 else if 4000 < wrap64 t.size then 3 else 0

end Go.Proofs.YtijihmncbaoklaaGreat
