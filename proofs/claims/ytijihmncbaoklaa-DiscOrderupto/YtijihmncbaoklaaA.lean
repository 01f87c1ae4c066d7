/-
  Terms in memory; the document's Size and Depth.
-/
import Derived.Test.YtijihmncbaoklaaRows
import Derived.WalkKit
import Derived.WalkSpells
import Derived.WalkLawsBesides
import Derived.ProofKit
import Derived.OpenShut
namespace Go.Proofs.Ytijihmncbaoklaa
open Go.RowKit

theorem own : ownKnob Try.prog.godebug = none := by kernel_rfl

theorem ret_bool {a b : Bool} (h : a = b) : Ending.returned (.bool a) = .returned (.bool b) := by rw [h]
theorem ret_i64 {a b : Int} (h : a = b) : Ending.returned (.int .i64 a) = .returned (.int .i64 b) := by rw [h]

/-- A term: a number, a name, its arguments. -/
inductive T where
  | mk (v : Int) (fn : ByteArray) (args : List T)

def T.v : T → Int
  | .mk v _ _ => v
def T.fn : T → ByteArray
  | .mk _ fn _ => fn
def T.args : T → List T
  | .mk _ _ args => args

theorem T.eta (t : T) : t = .mk t.v t.fn t.args := by cases t; rfl

theorem T.ind {P : T → Prop} (h : ∀ t, (∀ a ∈ t.args, P a) → P t) (t : T) : P t := by
  refine T.rec (motive_1 := P) (motive_2 := fun l => ∀ a ∈ l, P a) ?_ ?_ ?_ t
  · intro v fn args ih
    exact h _ ih
  · intro a ha
    cases ha
  · intro x r hx hr a ha
    rcases List.mem_cons.1 ha with rfl | ha
    · exact hx
    · exact hr a ha

/-- A slice of terms, as it lies in memory. -/
inductive ArgsAt (W : World) : Value → List T → Prop
  | mk (a : Option Addr) (c : Nat) (l : List T) (s : Nat → Value) (hc : l.length ≤ c) (hm : c ≤ 9223372036854775807)
      (at0 : 0 < l.length → ∃ b o, b < W.heap.size ∧ a = some ⟨b, o, none⟩ ∧ ∀ i (h : i < l.length), W.cell? ⟨b, o + i * 3, none⟩ = some (.int .i64 l[i].v) ∧ W.cell? ⟨b, o + i * 3 + 1, none⟩ = some (.string l[i].fn) ∧ W.cell? ⟨b, o + i * 3 + 2, none⟩ = some (s i))
      (sub : ∀ i (h : i < l.length), ArgsAt W (s i) l[i].args) : ArgsAt W (.slice a l.length c) l

/-- A term's value. -/
abbrev tval (t : T) (sl : Value) : Value := .agg #[.int .i64 t.v, .string t.fn, sl]

theorem ArgsAt.keep {W W' : World} {n : Nat} {sl : Value} {l : List T} (hb : Below n W W') (hn : W.heap.size ≤ n) (h : ArgsAt W sl l) : ArgsAt W' sl l := by
  induction h with
  | mk a c l s hc hm at0 sub ih =>
    refine .mk a c l s hc hm (fun h0 => ?_) ih
    obtain ⟨b, o, hlt, rfl, hcell⟩ := at0 h0
    refine ⟨b, o, Nat.lt_of_lt_of_le hlt hb.size, rfl, fun i hi => ?_⟩
    obtain ⟨h1, h2, h3⟩ := hcell i hi
    refine ⟨(hb.cell (p := ⟨b, _, none⟩) ?_).trans h1, (hb.cell (p := ⟨b, _, none⟩) ?_).trans h2, (hb.cell (p := ⟨b, _, none⟩) ?_).trans h3⟩ <;> exact Nat.lt_of_lt_of_le hlt hn

theorem ArgsAt.slice {W : World} {sl : Value} {l : List T} (h : ArgsAt W sl l) : ∃ a c, sl = .slice a l.length c ∧ l.length ≤ c ∧ c ≤ 9223372036854775807 := by
  cases h with
  | mk a c _ s hc hm at0 sub => exact ⟨a, c, rfl, hc, hm⟩

/-- The i-th argument. -/
theorem ArgsAt.nth {W : World} {a : Option Addr} {c n : Nat} {l : List T} (h : ArgsAt W (.slice a n c) l) {i : Nat} (hi : i < l.length) :
    ∃ b o s, a = some ⟨b, o, none⟩ ∧ b < W.heap.size ∧ W.cell? ⟨b, o + i * 3, none⟩ = some (.int .i64 l[i].v) ∧ W.cell? ⟨b, o + i * 3 + 1, none⟩ = some (.string l[i].fn) ∧ W.cell? ⟨b, o + i * 3 + 2, none⟩ = some s ∧ ArgsAt W s l[i].args := by
  cases h with
  | mk a c _ s hc hm at0 sub =>
    obtain ⟨b, o, hlt, rfl, hcell⟩ := at0 (by omega)
    obtain ⟨h1, h2, h3⟩ := hcell i hi
    exact ⟨b, o, s i, rfl, hlt, h1, h2, h3, sub i hi⟩

/-- How many parts. -/
def T.size : T → Int
  | .mk _ _ args => 1 + sizes args
where sizes : List T → Int
  | [] => 0
  | a :: r => T.size a + sizes r

theorem T.size_eq (t : T) : t.size = 1 + (t.args.map T.size).sum := by
  have h : ∀ l : List T, T.size.sizes l = (l.map T.size).sum := by
    intro l
    induction l with
    | nil => rfl
    | cons a r ih => simp [T.size.sizes, ih]
  cases t with
  | mk v fn args => simp [T.size, T.args, h]

/-- The box of a term. -/
abbrev tbox (t : T) (sl : Value) : Obj := .cells #[.int .i64 t.v, .string t.fn, sl] 24

theorem tbox_cells (w : World) (t : T) (sl : Value) : (w.alloc (tbox t sl)).cell? ⟨w.heap.size, 0, none⟩ = some (.int .i64 t.v) ∧ (w.alloc (tbox t sl)).cell? ⟨w.heap.size, 1, none⟩ = some (.string t.fn) ∧ (w.alloc (tbox t sl)).cell? ⟨w.heap.size, 2, none⟩ = some sl := by
  have h : (w.alloc (tbox t sl)).heap[w.heap.size]? = some (.cells [Value.int .i64 t.v, .string t.fn, sl].toArray 24 (0, 0)) := (MapKept.heap_alloc w (tbox t sl)).1
  refine ⟨?_, ?_, ?_⟩ <;> rw [cell_of_row _ _ _ _ 24 (0, 0) h] <;> rfl

theorem below_box (w : World) (o : Obj) : Below w.heap.size w (w.alloc o) := (Below.refl _ _).alloc (Nat.le_refl _) _

end Go.Proofs.Ytijihmncbaoklaa
