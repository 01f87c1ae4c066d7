import Derived.Test.YthkinkcpfcpehaaGreatDoorTH
import Derived.Test.YthkinkcpfcpehaaGreatDoorLU
namespace Go.Proofs.YthkinkcpfcpehaaGreatDoor
open Go.RowKit
open Lx (Tk ofL)
inductive Fm where
  | mk (kind : Int) (name : ByteArray) (l r : T) (kids : List Fm)
def Fm.k : Fm → Int | .mk k _ _ _ _ => k
def Fm.nm : Fm → ByteArray | .mk _ n _ _ _ => n
def Fm.l : Fm → T | .mk _ _ l _ _ => l
def Fm.r : Fm → T | .mk _ _ _ r _ => r
def Fm.kids : Fm → List Fm | .mk _ _ _ _ ks => ks
theorem Fm.eta (f : Fm) : f = .mk f.k f.nm f.l f.r f.kids := by cases f; rfl
theorem Fm.ind {P : Fm → Prop} (h : ∀ f, (∀ a ∈ f.kids, P a) → P f) (f : Fm) : P f := by
  refine Fm.rec (motive_1 := P) (motive_2 := fun l => ∀ a ∈ l, P a) ?_ ?_ ?_ f
  · intro k n l r ks ih
    exact h _ ih
  · intro a ha; cases ha
  · intro a r ha hr x hx
    rcases List.mem_cons.1 hx with rfl | hx
    · exact ha
    · exact hr x hx
/-- No term at all. -/
abbrev t0 : T := .mk 0 ⟨#[]⟩ []
abbrev e0 : ByteArray := ⟨#[]⟩
abbrev trueT : T := .mk 0 ⟨#[36, 116, 114, 117, 101]⟩ []
def fEq (l r : T) : Fm := .mk 1 e0 l r []
/-- A predicate of a term: a sign ahead of its name. -/
def fPred (t : T) : Fm := .mk 1 e0 (.mk t.v (⟨#[64]⟩ ++ t.fn) t.args) trueT []
def fOp (k : Int) (ks : List Fm) : Fm := .mk k e0 t0 t0 ks
def fQ (k : Int) (n : ByteArray) (f : Fm) : Fm := .mk k n t0 t0 [f]
/-- What comes of reading: something, the free variables that stand in it, the tokens behind it; or the tokens that do not fit. -/
inductive Pr (α : Type) where
  | ok (a : α) (fr : List Tk) (q : List Tk)
  | no (q : List Tk)
/-- Does a mark stand here? -/
def isM (m : List UInt8) : List Tk → Bool
  | [] => false
  | t :: _ => decide (t.k = 4) && decide (t.t = m)
def isK (k : Int) : List Tk → Bool
  | [] => false
  | t :: _ => decide (t.k = k)
theorem isM_cons {m : List UInt8} {l : List Tk} (h : isM m l = true) : ∃ t r, l = t :: r ∧ t.k = 4 ∧ t.t = m := by
  cases l with
  | nil => cases h
  | cons t r => simp only [isM, Bool.and_eq_true, decide_eq_true_eq] at h; exact ⟨t, r, rfl, h.1, h.2⟩
def pTerm (bd : List (List UInt8)) : Nat → Bool → List Tk → Option (Pr (List T))
  | 0, _, _ => none
  | n + 1, false, l =>
    match l with
    | [] => some (.no [])
    | t :: r =>
      if t.k = 2 then some (.ok [.mk 0 (ofL t.t) []] (if t.t ∈ bd then [] else [t]) r)
      else if t.k = 1 then
        if isM [40] r = true then
          match pTerm bd n true r.tail with
          | none => none
          | some (.no q) => some (.no q)
          | some (.ok us fr q) => if isM [41] q = true then some (.ok [.mk 0 (ofL t.t) us] fr q.tail) else some (.no q)
        else some (.ok [.mk 0 (ofL t.t) []] [] r)
      else some (.no (t :: r))
  | n + 1, true, l =>
    match pTerm bd n false l with
    | none => none
    | some (.no q) => some (.no q)
    | some (.ok us fr q) =>
      if isM [44] q = true then
        match pTerm bd n true q.tail with
        | none => none
        | some (.no q') => some (.no q')
        | some (.ok bs fr' q') => some (.ok (us ++ bs) (fr ++ fr') q')
      else some (.ok us fr q)
theorem pTerm_succ {bd : List (List UInt8)} : ∀ {n : Nat} {b : Bool} {l : List Tk} {x : Pr (List T)}, pTerm bd n b l = some x → pTerm bd (n + 1) b l = some x
  | 0, _, _, _, h => by cases h
  | n + 1, false, l, x, h => by
    cases l with
    | nil => simpa [pTerm] using h
    | cons t r =>
      simp only [pTerm] at h ⊢
      by_cases h1 : t.k = 2
      · simpa [h1] using h
      · rw [if_neg h1] at h ⊢
        by_cases h2 : t.k = 1
        · rw [if_pos h2] at h ⊢
          by_cases h3 : isM [40] r = true
          · rw [if_pos h3] at h ⊢
            cases hy : pTerm bd n true r.tail with
            | none => rw [hy] at h; cases h
            | some y =>
              rw [hy] at h
              have := pTerm_succ hy
              simp only [pTerm] at this
              rw [this]
              exact h
          · rw [if_neg h3] at h ⊢; exact h
        · rw [if_neg h2] at h ⊢; exact h
  | n + 1, true, l, x, h => by
    rw [pTerm] at h ⊢
    cases hy : pTerm bd n false l with
    | none => rw [hy] at h; cases h
    | some y =>
      rw [hy] at h
      rw [pTerm_succ hy]
      cases y with
      | no q => exact h
      | ok us fr q =>
        simp only at h ⊢
        by_cases h3 : isM [44] q = true
        · rw [if_pos h3] at h ⊢
          cases hz : pTerm bd n true q.tail with
          | none => rw [hz] at h; cases h
          | some z =>
            rw [hz] at h
            rw [pTerm_succ hz]
            exact h
        · rw [if_neg h3] at h ⊢; exact h
theorem pTerm_le {bd : List (List UInt8)} {n m : Nat} {b : Bool} {l : List Tk} {x : Pr (List T)} (h : pTerm bd n b l = some x) (hm : n ≤ m) : pTerm bd m b l = some x := by
  induction hm with
  | refl => exact h
  | step _ ih => exact pTerm_succ ih
/-- Whatever comes of it: reading takes tokens off, and what does not fit is no longer than what stood there. -/
theorem pTerm_len {bd : List (List UInt8)} : ∀ (n : Nat) (b : Bool) (l : List Tk) (x : Pr (List T)), pTerm bd n b l = some x → match x with | .ok _ _ q => q.length < l.length | .no q => q.length ≤ l.length
  | 0, _, _, _, h => by cases h
  | n + 1, false, l, x, h => by
    cases l with
    | nil => simp only [pTerm, Option.some.injEq] at h; subst h; simp
    | cons t r =>
      simp only [pTerm] at h
      by_cases h1 : t.k = 2
      · simp only [h1, if_true, Option.some.injEq] at h; subst h; simp
      · rw [if_neg h1] at h
        by_cases h2 : t.k = 1
        · rw [if_pos h2] at h
          by_cases h3 : isM [40] r = true
          · rw [if_pos h3] at h
            obtain ⟨t1, r1, rfl, _, _⟩ := isM_cons h3
            simp only [List.tail_cons] at h
            cases hy : pTerm bd n true r1 with
            | none => rw [hy] at h; cases h
            | some y =>
              have hl := pTerm_len n true r1 y hy
              rw [hy] at h
              cases y with
              | no q => simp only [Option.some.injEq] at h; subst h; simp only [List.length_cons] at hl ⊢; omega
              | ok us fr q =>
                simp only at h hl
                by_cases h4 : isM [41] q = true
                · rw [if_pos h4] at h; simp only [Option.some.injEq] at h; subst h; simp only [List.length_cons, List.length_tail]; omega
                · rw [if_neg h4] at h; simp only [Option.some.injEq] at h; subst h; simp only [List.length_cons]; omega
          · rw [if_neg h3] at h; simp only [Option.some.injEq] at h; subst h; simp
        · rw [if_neg h2] at h; simp only [Option.some.injEq] at h; subst h; simp
  | n + 1, true, l, x, h => by
    rw [pTerm] at h
    cases hy : pTerm bd n false l with
    | none => rw [hy] at h; cases h
    | some y =>
      have hl := pTerm_len n false l y hy
      rw [hy] at h
      cases y with
      | no q => simp only [Option.some.injEq] at h; subst h; exact hl
      | ok us fr q =>
        simp only at h hl
        by_cases h3 : isM [44] q = true
        · rw [if_pos h3] at h
          obtain ⟨t1, r1, rfl, _, _⟩ := isM_cons h3
          simp only [List.tail_cons] at h
          cases hz : pTerm bd n true r1 with
          | none => rw [hz] at h; cases h
          | some z =>
            have hl2 := pTerm_len n true r1 z hz
            rw [hz] at h
            cases z with
            | no q' => simp only [Option.some.injEq] at h; subst h; simp only [List.length_cons] at hl hl2 ⊢; omega
            | ok bs fr' q' => simp only [Option.some.injEq] at h; subst h; simp only [List.length_cons] at hl hl2 ⊢; omega
        · rw [if_neg h3] at h; simp only [Option.some.injEq] at h; subst h; exact hl
/-- A term. -/
def PT (bd : List (List UInt8)) (l : List Tk) (x : Pr (List T)) : Prop := ∃ n, pTerm bd n false l = some x
/-- Terms, parted. -/
def PTs (bd : List (List UInt8)) (l : List Tk) (x : Pr (List T)) : Prop := ∃ n, pTerm bd n true l = some x
theorem PT.one {bd : List (List UInt8)} {l : List Tk} {x y : Pr (List T)} (h : PT bd l x) (h' : PT bd l y) : x = y := by
  obtain ⟨n, h⟩ := h
  obtain ⟨m, h'⟩ := h'
  have h1 := pTerm_le h (Nat.le_max_left n m)
  have h2 := pTerm_le h' (Nat.le_max_right n m)
  rw [h1] at h2
  exact Option.some.inj h2
theorem PT.len {bd : List (List UInt8)} {l : List Tk} {us : List T} {fr q : List Tk} (h : PT bd l (.ok us fr q)) : q.length < l.length := by obtain ⟨n, h⟩ := h; exact pTerm_len n _ _ _ h
section
variable {bd : List (List UInt8)}
theorem PT.nil : PT bd [] (.no []) := ⟨1, rfl⟩
theorem PT.var {t : Tk} {r : List Tk} (h : t.k = 2) : PT bd (t :: r) (.ok [.mk 0 (ofL t.t) []] (if t.t ∈ bd then [] else [t]) r) := ⟨1, by simp [pTerm, h]⟩
theorem PT.const {t : Tk} {r : List Tk} (h : t.k = 1) (hm : isM [40] r = false) : PT bd (t :: r) (.ok [.mk 0 (ofL t.t) []] [] r) := ⟨1, by simp [pTerm, h, hm]⟩
theorem PT.wrong {t : Tk} {r : List Tk} (h1 : t.k ≠ 1) (h2 : t.k ≠ 2) : PT bd (t :: r) (.no (t :: r)) := ⟨1, by simp [pTerm, h1, h2]⟩
theorem PT.fn {t : Tk} {r : List Tk} (h : t.k = 1) (hm : isM [40] r = true) {us : List T} {fr q : List Tk} (ha : PTs bd r.tail (.ok us fr q)) (hq : isM [41] q = true) : PT bd (t :: r) (.ok [.mk 0 (ofL t.t) us] fr q.tail) := by
  obtain ⟨n, ha⟩ := ha
  exact ⟨n + 1, by simp [pTerm, h, hm, ha, hq]⟩
theorem PT.fn_no {t : Tk} {r : List Tk} (h : t.k = 1) (hm : isM [40] r = true) {us : List T} {fr q : List Tk} (ha : PTs bd r.tail (.ok us fr q)) (hq : isM [41] q = false) : PT bd (t :: r) (.no q) := by
  obtain ⟨n, ha⟩ := ha
  exact ⟨n + 1, by simp [pTerm, h, hm, ha, hq]⟩
theorem PT.args_no {t : Tk} {r : List Tk} (h : t.k = 1) (hm : isM [40] r = true) {q : List Tk} (ha : PTs bd r.tail (.no q)) : PT bd (t :: r) (.no q) := by
  obtain ⟨n, ha⟩ := ha
  exact ⟨n + 1, by simp [pTerm, h, hm, ha]⟩
theorem PTs.first_no {l q : List Tk} (h : PT bd l (.no q)) : PTs bd l (.no q) := by
  obtain ⟨n, h⟩ := h
  exact ⟨n + 1, by simp [pTerm, h]⟩
theorem PTs.last {l : List Tk} {us : List T} {fr q : List Tk} (h : PT bd l (.ok us fr q)) (hq : isM [44] q = false) : PTs bd l (.ok us fr q) := by
  obtain ⟨n, h⟩ := h
  exact ⟨n + 1, by simp [pTerm, h, hq]⟩
theorem PTs.more {l : List Tk} {us bs : List T} {fr fr' q q' : List Tk} (h : PT bd l (.ok us fr q)) (hq : isM [44] q = true) (h' : PTs bd q.tail (.ok bs fr' q')) : PTs bd l (.ok (us ++ bs) (fr ++ fr') q') := by
  obtain ⟨n, h⟩ := h
  obtain ⟨m, h'⟩ := h'
  refine ⟨max n m + 1, ?_⟩
  rw [pTerm, pTerm_le h (Nat.le_max_left n m)]
  simp only [hq, if_true, pTerm_le h' (Nat.le_max_right n m)]
theorem PTs.more_no {l : List Tk} {us : List T} {fr q q' : List Tk} (h : PT bd l (.ok us fr q)) (hq : isM [44] q = true) (h' : PTs bd q.tail (.no q')) : PTs bd l (.no q') := by
  obtain ⟨n, h⟩ := h
  obtain ⟨m, h'⟩ := h'
  refine ⟨max n m + 1, ?_⟩
  rw [pTerm, pTerm_le h (Nat.le_max_left n m)]
  simp only [hq, if_true, pTerm_le h' (Nat.le_max_right n m)]
end
