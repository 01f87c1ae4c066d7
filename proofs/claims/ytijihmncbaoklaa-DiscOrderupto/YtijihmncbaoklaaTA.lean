/-
  Paths of terms, what a tree holds, which ends are told: plain mathematics.
-/
import Derived.Test.YtijihmncbaoklaaA
namespace Go.Proofs.Ytijihmncbaoklaa

/-- What a path tells of a part. -/
abbrev Sym := ByteArray × Nat
abbrev Path := List Sym
def star : Sym := (⟨#[]⟩, 0)
def T.sym (t : T) : Sym := (t.fn, t.args.length)
/-- The parts, each ahead of its arguments'. -/
def T.pre : T → List T
  | .mk v fn args => .mk v fn args :: pres args
where pres : List T → List T
  | [] => []
  | a :: r => a.pre ++ pres r
theorem T.pres_eq : ∀ l : List T, T.pre.pres l = l.flatMap T.pre
  | [] => rfl
  | a :: r => by simp [T.pre.pres, T.pres_eq r]
theorem T.pre_eq (t : T) : t.pre = t :: t.args.flatMap T.pre := by
  cases t with
  | mk v fn args => simp only [T.pre, T.args, T.pres_eq]
def T.path (t : T) : Path := t.pre.map T.sym
def fpath (l : List T) : Path := l.flatMap T.path
theorem map_flat {α β γ : Type} (f : β → γ) (g : α → List β) : ∀ l : List α, (l.flatMap g).map f = l.flatMap fun a => (g a).map f
  | [] => rfl
  | a :: r => by simp [map_flat f g r]
theorem T.path_eq (t : T) : t.path = t.sym :: fpath t.args := by
  unfold T.path fpath
  rw [T.pre_eq, List.map_cons, map_flat]
  rfl
theorem fpath_cons (a : T) (r : List T) : fpath (a :: r) = a.path ++ fpath r := by unfold fpath; rw [List.flatMap_cons]
theorem fpath_append (a b : List T) : fpath (a ++ b) = fpath a ++ fpath b := by unfold fpath; rw [List.flatMap_append]
theorem path_cons (t : T) (r : List T) : fpath (t :: r) = t.sym :: fpath (t.args ++ r) := by rw [fpath_cons, T.path_eq, fpath_append]; rfl

/-- How many parts a list of terms has. -/
def fsize (l : List T) : Nat := (l.flatMap T.pre).length
theorem fsize_nil : fsize [] = 0 := rfl
theorem fsize_cons (t : T) (r : List T) : fsize (t :: r) = t.pre.length + fsize r := by unfold fsize; rw [List.flatMap_cons, List.length_append]
theorem fsize_open (t : T) (r : List T) : fsize (t :: r) = fsize (t.args ++ r) + 1 := by
  unfold fsize
  rw [List.flatMap_cons, List.flatMap_append, T.pre_eq]
  simp only [List.cons_append, List.length_cons, List.length_append]
theorem pre_pos (t : T) : 0 < t.pre.length := by rw [T.pre_eq]; simp

open Classical in
/-- The ends that are told: of a tree whose nodes are in P, below the node p, for what is left of a term. -/
noncomputable def ends (P : Path → Prop) (p : Path) : List T → List Path
  | [] => if P p then [p] else []
  | t :: r => if P p then ends P (p ++ [star]) r ++ (if t.sym = star then [] else ends P (p ++ [t.sym]) (t.args ++ r)) else []
termination_by l => fsize l
decreasing_by
  · rw [fsize_cons]; have := pre_pos t; omega
  · rw [fsize_open]; omega

theorem ends_nil_yes {P : Path → Prop} {p : Path} (h : P p) : ends P p [] = [p] := by unfold ends; rw [if_pos h]
theorem ends_no {P : Path → Prop} {p : Path} (h : ¬ P p) (l : List T) : ends P p l = [] := by
  cases l <;> (unfold ends; rw [if_neg h])
theorem ends_star {P : Path → Prop} {p : Path} (h : P p) {t : T} (hs : t.sym = star) (r : List T) : ends P p (t :: r) = ends P (p ++ [star]) r := by
  rw [ends, if_pos h, if_pos hs, List.append_nil]
theorem ends_fn {P : Path → Prop} {p : Path} (h : P p) {t : T} (hs : t.sym ≠ star) (r : List T) : ends P p (t :: r) = ends P (p ++ [star]) r ++ ends P (p ++ [t.sym]) (t.args ++ r) := by
  rw [ends, if_pos h, if_neg hs]

/-- What is told goes on from where one stands, and is there. -/
theorem ends_pre {P : Path → Prop} : ∀ (n : Nat) (p : Path) (l : List T), fsize l ≤ n → ∀ q ∈ ends P p l, p <+: q ∧ P q := by
  intro n
  induction n with
  | zero =>
    intro p l hl q hq
    cases l with
    | nil =>
      by_cases h : P p
      · rw [ends_nil_yes h] at hq
        obtain rfl := List.mem_singleton.1 hq
        exact ⟨List.prefix_refl _, h⟩
      · rw [ends_no h] at hq; cases hq
    | cons t r => rw [fsize_cons] at hl; have := pre_pos t; omega
  | succ n ih =>
    intro p l hl q hq
    by_cases h : P p
    · cases l with
      | nil =>
        rw [ends_nil_yes h] at hq
        obtain rfl := List.mem_singleton.1 hq
        exact ⟨List.prefix_refl _, h⟩
      | cons t r =>
        have h1 : fsize r ≤ n := by rw [fsize_cons] at hl; have := pre_pos t; omega
        have h2 : fsize (t.args ++ r) ≤ n := by rw [fsize_open] at hl; omega
        by_cases hs : t.sym = star
        · rw [ends_star h hs] at hq
          obtain ⟨k1, k2⟩ := ih _ r h1 q hq
          exact ⟨(List.prefix_append p [star]).trans k1, k2⟩
        · rw [ends_fn h hs] at hq
          rcases List.mem_append.1 hq with hq | hq
          · obtain ⟨k1, k2⟩ := ih _ r h1 q hq
            exact ⟨(List.prefix_append p [star]).trans k1, k2⟩
          · obtain ⟨k1, k2⟩ := ih _ _ h2 q hq
            exact ⟨(List.prefix_append p [t.sym]).trans k1, k2⟩
    · rw [ends_no h] at hq; cases hq

theorem pre_one {p q : Path} {a b : Sym} (h1 : p ++ [a] <+: q) (h2 : p ++ [b] <+: q) : a = b := by
  obtain ⟨x, rfl⟩ := h1
  obtain ⟨y, hy⟩ := h2
  rw [List.append_assoc, List.append_assoc] at hy
  have := List.append_cancel_left hy
  simp only [List.cons_append, List.nil_append, List.cons.injEq] at this
  exact this.1.symm

/-- Each end is told once. -/
theorem ends_nodup {P : Path → Prop} : ∀ (n : Nat) (p : Path) (l : List T), fsize l ≤ n → (ends P p l).Nodup := by
  intro n
  induction n with
  | zero =>
    intro p l hl
    cases l with
    | nil =>
      by_cases h : P p
      · rw [ends_nil_yes h]; simp
      · rw [ends_no h]; simp
    | cons t r => rw [fsize_cons] at hl; have := pre_pos t; omega
  | succ n ih =>
    intro p l hl
    by_cases h : P p
    · cases l with
      | nil => rw [ends_nil_yes h]; simp
      | cons t r =>
        have h1 : fsize r ≤ n := by rw [fsize_cons] at hl; have := pre_pos t; omega
        have h2 : fsize (t.args ++ r) ≤ n := by rw [fsize_open] at hl; omega
        by_cases hs : t.sym = star
        · rw [ends_star h hs]; exact ih _ r h1
        · rw [ends_fn h hs, List.nodup_append]
          refine ⟨ih _ r h1, ih _ _ h2, fun a ha b hb e => ?_⟩
          subst e
          exact hs (pre_one (ends_pre n _ _ h1 a ha).1 (ends_pre n _ _ h2 a hb).1).symm
    · rw [ends_no h]; simp

/-- What a tree holds: numbers and terms. -/
abbrev Held := List (Int × T)
def Pre (L : Held) (p : Path) : Prop := ∃ e ∈ L, p <+: e.2.path
theorem Pre.down {L : Held} {p : Path} {s : Path} (h : Pre L (p ++ s)) : Pre L p := by
  obtain ⟨e, he, hp⟩ := h
  exact ⟨e, he, (List.prefix_append p s).trans hp⟩
theorem Pre.full {L : Held} {e : Int × T} (h : e ∈ L) : Pre L e.2.path := ⟨e, h, List.prefix_refl _⟩
theorem Pre.nil {L : Held} (h : L ≠ []) : Pre L [] := by
  cases L with
  | nil => exact absurd rfl h
  | cons e r => exact ⟨e, List.mem_cons_self, List.nil_prefix⟩

end Go.Proofs.Ytijihmncbaoklaa
