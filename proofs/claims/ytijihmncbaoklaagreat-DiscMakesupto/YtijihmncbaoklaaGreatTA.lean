import Derived.Test.YtijihmncbaoklaaGreatRows
import Derived.WalkKit
import Derived.WalkSpells
import Derived.WalkLawsBesides
import Derived.ProofKit
import Derived.OpenShut

/-
  Terms in memory; the document's Size and Depth.
-/
namespace Go.Proofs.YtijihmncbaoklaaGreat
open Go.RowKit

theorem own : ownKnob Tryz.prog.godebug = none := by kernel_rfl

theorem ret_bool {a b : Bool} (h : a = b) : Ending.returned (.bool a) = .returned (.bool b) := by rw [h]
theorem ret_i64 {a b : Int} (h : a = b) : Ending.returned (.int .i64 a) = .returned (.int .i64 b) := by rw [h]

/-- A term: a number, a name, its arguments. -/
inductive T where
  | mk (v : Int) (fn : ByteArray) (args : List T)

def T.v : T → Int
  | .mk v _ _ => v
def T.fn : T → ByteArray
  | .mk _ fn _ => fn
def T.args : T → List T
  | .mk _ _ args => args

theorem T.eta (t : T) : t = .mk t.v t.fn t.args := by cases t; rfl

theorem T.ind {P : T → Prop} (h : ∀ t, (∀ a ∈ t.args, P a) → P t) (t : T) : P t := by
  refine T.rec (motive_1 := P) (motive_2 := fun l => ∀ a ∈ l, P a) ?_ ?_ ?_ t
  · intro v fn args ih
    exact h _ ih
  · intro a ha
    cases ha
  · intro x r hx hr a ha
    rcases List.mem_cons.1 ha with rfl | ha
    · exact hx
    · exact hr a ha

/-- A slice of terms, as it lies in memory. -/
inductive ArgsAt (W : World) : Value → List T → Prop
  | mk (a : Option Addr) (c : Nat) (l : List T) (s : Nat → Value) (hc : l.length ≤ c) (hm : c ≤ 9223372036854775807)
      (at0 : 0 < l.length → ∃ b o, b < W.heap.size ∧ a = some ⟨b, o, none⟩ ∧ ∀ i (h : i < l.length), W.cell? ⟨b, o + i * 3, none⟩ = some (.int .i64 l[i].v) ∧ W.cell? ⟨b, o + i * 3 + 1, none⟩ = some (.string l[i].fn) ∧ W.cell? ⟨b, o + i * 3 + 2, none⟩ = some (s i))
      (sub : ∀ i (h : i < l.length), ArgsAt W (s i) l[i].args) : ArgsAt W (.slice a l.length c) l

/-- A term's value. -/
abbrev tval (t : T) (sl : Value) : Value := .agg #[.int .i64 t.v, .string t.fn, sl]

theorem ArgsAt.keep {W W' : World} {n : Nat} {sl : Value} {l : List T} (hb : Below n W W') (hn : W.heap.size ≤ n) (h : ArgsAt W sl l) : ArgsAt W' sl l := by
  induction h with
  | mk a c l s hc hm at0 sub ih =>
    refine .mk a c l s hc hm (fun h0 => ?_) ih
    obtain ⟨b, o, hlt, rfl, hcell⟩ := at0 h0
    refine ⟨b, o, Nat.lt_of_lt_of_le hlt hb.size, rfl, fun i hi => ?_⟩
    obtain ⟨h1, h2, h3⟩ := hcell i hi
    refine ⟨(hb.cell (p := ⟨b, _, none⟩) ?_).trans h1, (hb.cell (p := ⟨b, _, none⟩) ?_).trans h2, (hb.cell (p := ⟨b, _, none⟩) ?_).trans h3⟩ <;> exact Nat.lt_of_lt_of_le hlt hn

theorem ArgsAt.slice {W : World} {sl : Value} {l : List T} (h : ArgsAt W sl l) : ∃ a c, sl = .slice a l.length c ∧ l.length ≤ c ∧ c ≤ 9223372036854775807 := by
  cases h with
  | mk a c _ s hc hm at0 sub => exact ⟨a, c, rfl, hc, hm⟩

/-- The i-th argument. -/
theorem ArgsAt.nth {W : World} {a : Option Addr} {c n : Nat} {l : List T} (h : ArgsAt W (.slice a n c) l) {i : Nat} (hi : i < l.length) :
    ∃ b o s, a = some ⟨b, o, none⟩ ∧ b < W.heap.size ∧ W.cell? ⟨b, o + i * 3, none⟩ = some (.int .i64 l[i].v) ∧ W.cell? ⟨b, o + i * 3 + 1, none⟩ = some (.string l[i].fn) ∧ W.cell? ⟨b, o + i * 3 + 2, none⟩ = some s ∧ ArgsAt W s l[i].args := by
  cases h with
  | mk a c _ s hc hm at0 sub =>
    obtain ⟨b, o, hlt, rfl, hcell⟩ := at0 (by omega)
    obtain ⟨h1, h2, h3⟩ := hcell i hi
    exact ⟨b, o, s i, rfl, hlt, h1, h2, h3, sub i hi⟩

/-- How many parts. -/
def T.size : T → Int
  | .mk _ _ args => 1 + sizes args
where sizes : List T → Int
  | [] => 0
  | a :: r => T.size a + sizes r

theorem T.size_eq (t : T) : t.size = 1 + (t.args.map T.size).sum := by
  have h : ∀ l : List T, T.size.sizes l = (l.map T.size).sum := by
    intro l
    induction l with
    | nil => rfl
    | cons a r ih => simp [T.size.sizes, ih]
  cases t with
  | mk v fn args => simp [T.size, T.args, h]

/-- The box of a term. -/
abbrev tbox (t : T) (sl : Value) : Obj := .cells #[.int .i64 t.v, .string t.fn, sl] 32

theorem tbox_cells (w : World) (t : T) (sl : Value) : (w.alloc (tbox t sl)).cell? ⟨w.heap.size, 0, none⟩ = some (.int .i64 t.v) ∧ (w.alloc (tbox t sl)).cell? ⟨w.heap.size, 1, none⟩ = some (.string t.fn) ∧ (w.alloc (tbox t sl)).cell? ⟨w.heap.size, 2, none⟩ = some sl := by
  have h : (w.alloc (tbox t sl)).heap[w.heap.size]? = some (.cells [Value.int .i64 t.v, .string t.fn, sl].toArray 32 (0, 0)) := (MapKept.heap_alloc w (tbox t sl)).1
  refine ⟨?_, ?_, ?_⟩ <;> rw [cell_of_row _ _ _ _ 32 (0, 0) h] <;> rfl

theorem below_box (w : World) (o : Obj) : Below w.heap.size w (w.alloc o) := (Below.refl _ _).alloc (Nat.le_refl _) _

end Go.Proofs.YtijihmncbaoklaaGreat

/-
  Paths of terms, what a tree holds, which ends are told: plain mathematics.
-/
namespace Go.Proofs.YtijihmncbaoklaaGreat

/-- What a path tells of a part. -/
abbrev Sym := ByteArray × Nat
abbrev Path := List Sym
def star : Sym := (⟨#[]⟩, 0)
def T.sym (t : T) : Sym := (t.fn, t.args.length)
/-- The parts, each ahead of its arguments'. -/
def T.pre : T → List T
  | .mk v fn args => .mk v fn args :: pres args
where pres : List T → List T
  | [] => []
  | a :: r => a.pre ++ pres r
theorem T.pres_eq : ∀ l : List T, T.pre.pres l = l.flatMap T.pre
  | [] => rfl
  | a :: r => by simp [T.pre.pres, T.pres_eq r]
theorem T.pre_eq (t : T) : t.pre = t :: t.args.flatMap T.pre := by
  cases t with
  | mk v fn args => simp only [T.pre, T.args, T.pres_eq]
def T.path (t : T) : Path := t.pre.map T.sym
def fpath (l : List T) : Path := l.flatMap T.path
theorem map_flat {α β γ : Type} (f : β → γ) (g : α → List β) : ∀ l : List α, (l.flatMap g).map f = l.flatMap fun a => (g a).map f
  | [] => rfl
  | a :: r => by simp [map_flat f g r]
theorem T.path_eq (t : T) : t.path = t.sym :: fpath t.args := by
  unfold T.path fpath
  rw [T.pre_eq, List.map_cons, map_flat]
  rfl
theorem fpath_cons (a : T) (r : List T) : fpath (a :: r) = a.path ++ fpath r := by unfold fpath; rw [List.flatMap_cons]
theorem fpath_append (a b : List T) : fpath (a ++ b) = fpath a ++ fpath b := by unfold fpath; rw [List.flatMap_append]
theorem path_cons (t : T) (r : List T) : fpath (t :: r) = t.sym :: fpath (t.args ++ r) := by rw [fpath_cons, T.path_eq, fpath_append]; rfl

/-- How many parts a list of terms has. -/
def fsize (l : List T) : Nat := (l.flatMap T.pre).length
theorem fsize_nil : fsize [] = 0 := rfl
theorem fsize_cons (t : T) (r : List T) : fsize (t :: r) = t.pre.length + fsize r := by unfold fsize; rw [List.flatMap_cons, List.length_append]
theorem fsize_open (t : T) (r : List T) : fsize (t :: r) = fsize (t.args ++ r) + 1 := by
  unfold fsize
  rw [List.flatMap_cons, List.flatMap_append, T.pre_eq]
  simp only [List.cons_append, List.length_cons, List.length_append]
theorem pre_pos (t : T) : 0 < t.pre.length := by rw [T.pre_eq]; simp

open Classical in
/-- The ends that are told: of a tree whose nodes are in P, below the node p, for what is left of a term. -/
noncomputable def ends (P : Path → Prop) (p : Path) : List T → List Path
  | [] => if P p then [p] else []
  | t :: r => if P p then ends P (p ++ [star]) r ++ (if t.sym = star then [] else ends P (p ++ [t.sym]) (t.args ++ r)) else []
termination_by l => fsize l
decreasing_by
  · rw [fsize_cons]; have := pre_pos t; omega
  · rw [fsize_open]; omega

theorem ends_nil_yes {P : Path → Prop} {p : Path} (h : P p) : ends P p [] = [p] := by unfold ends; rw [if_pos h]
theorem ends_no {P : Path → Prop} {p : Path} (h : ¬ P p) (l : List T) : ends P p l = [] := by
  cases l <;> (unfold ends; rw [if_neg h])
theorem ends_star {P : Path → Prop} {p : Path} (h : P p) {t : T} (hs : t.sym = star) (r : List T) : ends P p (t :: r) = ends P (p ++ [star]) r := by
  rw [ends, if_pos h, if_pos hs, List.append_nil]
theorem ends_fn {P : Path → Prop} {p : Path} (h : P p) {t : T} (hs : t.sym ≠ star) (r : List T) : ends P p (t :: r) = ends P (p ++ [star]) r ++ ends P (p ++ [t.sym]) (t.args ++ r) := by
  rw [ends, if_pos h, if_neg hs]

/-- What is told goes on from where one stands, and is there. -/
theorem ends_pre {P : Path → Prop} : ∀ (n : Nat) (p : Path) (l : List T), fsize l ≤ n → ∀ q ∈ ends P p l, p <+: q ∧ P q := by
  intro n
  induction n with
  | zero =>
    intro p l hl q hq
    cases l with
    | nil =>
      by_cases h : P p
      · rw [ends_nil_yes h] at hq
        obtain rfl := List.mem_singleton.1 hq
        exact ⟨List.prefix_refl _, h⟩
      · rw [ends_no h] at hq; cases hq
    | cons t r => rw [fsize_cons] at hl; have := pre_pos t; omega
  | succ n ih =>
    intro p l hl q hq
    by_cases h : P p
    · cases l with
      | nil =>
        rw [ends_nil_yes h] at hq
        obtain rfl := List.mem_singleton.1 hq
        exact ⟨List.prefix_refl _, h⟩
      | cons t r =>
        have h1 : fsize r ≤ n := by rw [fsize_cons] at hl; have := pre_pos t; omega
        have h2 : fsize (t.args ++ r) ≤ n := by rw [fsize_open] at hl; omega
        by_cases hs : t.sym = star
        · rw [ends_star h hs] at hq
          obtain ⟨k1, k2⟩ := ih _ r h1 q hq
          exact ⟨(List.prefix_append p [star]).trans k1, k2⟩
        · rw [ends_fn h hs] at hq
          rcases List.mem_append.1 hq with hq | hq
          · obtain ⟨k1, k2⟩ := ih _ r h1 q hq
            exact ⟨(List.prefix_append p [star]).trans k1, k2⟩
          · obtain ⟨k1, k2⟩ := ih _ _ h2 q hq
            exact ⟨(List.prefix_append p [t.sym]).trans k1, k2⟩
    · rw [ends_no h] at hq; cases hq

theorem pre_one {p q : Path} {a b : Sym} (h1 : p ++ [a] <+: q) (h2 : p ++ [b] <+: q) : a = b := by
  obtain ⟨x, rfl⟩ := h1
  obtain ⟨y, hy⟩ := h2
  rw [List.append_assoc, List.append_assoc] at hy
  have := List.append_cancel_left hy
  simp only [List.cons_append, List.nil_append, List.cons.injEq] at this
  exact this.1.symm

/-- Each end is told once. -/
theorem ends_nodup {P : Path → Prop} : ∀ (n : Nat) (p : Path) (l : List T), fsize l ≤ n → (ends P p l).Nodup := by
  intro n
  induction n with
  | zero =>
    intro p l hl
    cases l with
    | nil =>
      by_cases h : P p
      · rw [ends_nil_yes h]; simp
      · rw [ends_no h]; simp
    | cons t r => rw [fsize_cons] at hl; have := pre_pos t; omega
  | succ n ih =>
    intro p l hl
    by_cases h : P p
    · cases l with
      | nil => rw [ends_nil_yes h]; simp
      | cons t r =>
        have h1 : fsize r ≤ n := by rw [fsize_cons] at hl; have := pre_pos t; omega
        have h2 : fsize (t.args ++ r) ≤ n := by rw [fsize_open] at hl; omega
        by_cases hs : t.sym = star
        · rw [ends_star h hs]; exact ih _ r h1
        · rw [ends_fn h hs, List.nodup_append]
          refine ⟨ih _ r h1, ih _ _ h2, fun a ha b hb e => ?_⟩
          subst e
          exact hs (pre_one (ends_pre n _ _ h1 a ha).1 (ends_pre n _ _ h2 a hb).1).symm
    · rw [ends_no h]; simp

/-- What a tree holds: numbers and terms. -/
abbrev Held := List (Int × T)
def Pre (L : Held) (p : Path) : Prop := ∃ e ∈ L, p <+: e.2.path
theorem Pre.down {L : Held} {p : Path} {s : Path} (h : Pre L (p ++ s)) : Pre L p := by
  obtain ⟨e, he, hp⟩ := h
  exact ⟨e, he, (List.prefix_append p s).trans hp⟩
theorem Pre.full {L : Held} {e : Int × T} (h : e ∈ L) : Pre L e.2.path := ⟨e, h, List.prefix_refl _⟩
theorem Pre.nil {L : Held} (h : L ≠ []) : Pre L [] := by
  cases L with
  | nil => exact absurd rfl h
  | cons e r => exact ⟨e, List.mem_cons_self, List.nil_prefix⟩

end Go.Proofs.YtijihmncbaoklaaGreat
