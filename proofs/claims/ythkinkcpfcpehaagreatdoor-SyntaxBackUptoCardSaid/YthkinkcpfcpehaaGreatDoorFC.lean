import Derived.Test.YthkinkcpfcpehaaGreatDoorFA
import Derived.Test.YthkinkcpfcpehaaGreatDoorTRB
import Derived.Test.YthkinkcpfcpehaaGreatDoorLC
namespace Go.Proofs.YthkinkcpfcpehaaGreatDoor
section
open Go.RowKit
open Lx (Tk ofL)
/-- Names of variables, one or more, parted by commas. -/
def pVars : Nat → List Tk → Option (Pr (List (List UInt8)))
  | 0, _ => none
  | _ + 1, [] => some (.no [])
  | n + 1, t :: r =>
    if t.k = 2 then
      if isM [44] r = true then
        match pVars n r.tail with
        | none => none
        | some (.no q) => some (.no q)
        | some (.ok l _ q) => some (.ok (t.t :: l) [] q)
      else some (.ok [t.t] [] r)
    else some (.no (t :: r))
theorem pVars_succ : ∀ {n : Nat} {l : List Tk} {x : Pr (List (List UInt8))}, pVars n l = some x → pVars (n + 1) l = some x
  | 0, _, _, h => by cases h
  | n + 1, [], x, h => by simpa [pVars] using h
  | n + 1, t :: r, x, h => by
    rw [pVars] at h ⊢
    by_cases h1 : t.k = 2
    · rw [if_pos h1] at h ⊢
      by_cases h2 : isM [44] r = true
      · rw [if_pos h2] at h ⊢
        cases hy : pVars n r.tail with
        | none => rw [hy] at h; cases h
        | some y =>
          rw [hy] at h
          rw [pVars_succ hy]
          exact h
      · rw [if_neg h2] at h ⊢; exact h
    · rw [if_neg h1] at h ⊢; exact h
theorem pVars_le {n m : Nat} {l : List Tk} {x : Pr (List (List UInt8))} (h : pVars n l = some x) (hm : n ≤ m) : pVars m l = some x := by
  induction hm with
  | refl => exact h
  | step _ ih => exact pVars_succ ih
theorem pVars_len : ∀ (n : Nat) (l : List Tk) (x : Pr (List (List UInt8))), pVars n l = some x → match x with | .ok _ _ q => q.length < l.length | .no q => q.length ≤ l.length
  | 0, _, _, h => by cases h
  | n + 1, [], x, h => by simp only [pVars, Option.some.injEq] at h; subst h; simp
  | n + 1, t :: r, x, h => by
    rw [pVars] at h
    by_cases h1 : t.k = 2
    · rw [if_pos h1] at h
      by_cases h2 : isM [44] r = true
      · rw [if_pos h2] at h
        obtain ⟨t1, r1, rfl, _, _⟩ := isM_cons h2
        simp only [List.tail_cons] at h
        cases hy : pVars n r1 with
        | none => rw [hy] at h; cases h
        | some y =>
          have hl := pVars_len n r1 y hy
          rw [hy] at h
          cases y with
          | no q => simp only [Option.some.injEq] at h; subst h; simp only [List.length_cons] at hl ⊢; omega
          | ok a b q => simp only [Option.some.injEq] at h; subst h; simp only [List.length_cons] at hl ⊢; omega
      · rw [if_neg h2] at h; simp only [Option.some.injEq] at h; subst h; simp
    · rw [if_neg h1] at h; simp only [Option.some.injEq] at h; subst h; simp
def PV (l : List Tk) (x : Pr (List (List UInt8))) : Prop := ∃ n, pVars n l = some x
theorem PV.nil : PV [] (.no []) := ⟨1, rfl⟩
theorem PV.wrong {t : Tk} {r : List Tk} (h : t.k ≠ 2) : PV (t :: r) (.no (t :: r)) := ⟨1, by simp [pVars, h]⟩
theorem PV.last {t : Tk} {r : List Tk} (h : t.k = 2) (hm : isM [44] r = false) : PV (t :: r) (.ok [t.t] [] r) := ⟨1, by simp [pVars, h, hm]⟩
theorem PV.more {t : Tk} {r : List Tk} (h : t.k = 2) (hm : isM [44] r = true) {l : List (List UInt8)} {fr q : List Tk} (hv : PV r.tail (.ok l fr q)) : PV (t :: r) (.ok (t.t :: l) [] q) := by
  obtain ⟨n, hv⟩ := hv
  exact ⟨n + 1, by simp [pVars, h, hm, hv]⟩
theorem PV.more_no {t : Tk} {r : List Tk} (h : t.k = 2) (hm : isM [44] r = true) {q : List Tk} (hv : PV r.tail (.no q)) : PV (t :: r) (.no q) := by
  obtain ⟨n, hv⟩ := hv
  exact ⟨n + 1, by simp [pVars, h, hm, hv]⟩
/-- An atom, its negation. -/
def pAtom (bd : List (List UInt8)) (n : Nat) (l : List Tk) : Option (Pr Fm) :=
  match pTerm bd n false l with
  | none => none
  | some (.no q) => some (.no q)
  | some (.ok us fr q) =>
    if isM [61] q = true then
      match pTerm bd n false q.tail with
      | none => none
      | some (.no q') => some (.no q')
      | some (.ok bs fr' q') => some (.ok (fEq (us.headD t0) (bs.headD t0)) (fr ++ fr') q')
    else if isM [33, 61] q = true then
      match pTerm bd n false q.tail with
      | none => none
      | some (.no q') => some (.no q')
      | some (.ok bs fr' q') => some (.ok (fOp 2 [fEq (us.headD t0) (bs.headD t0)]) (fr ++ fr') q')
    else if isK 1 l = true then some (.ok (fPred (us.headD t0)) fr q)
    else some (.no q)
theorem pAtom_succ {bd : List (List UInt8)} {n : Nat} {l : List Tk} {x : Pr Fm} (h : pAtom bd n l = some x) : pAtom bd (n + 1) l = some x := by
  unfold pAtom at h ⊢
  cases hy : pTerm bd n false l with
  | none => rw [hy] at h; cases h
  | some y =>
    rw [hy] at h
    rw [pTerm_succ hy]
    cases y with
    | no q => exact h
    | ok us fr q =>
      simp only at h ⊢
      by_cases h1 : isM [61] q = true
      · rw [if_pos h1] at h ⊢
        cases hz : pTerm bd n false q.tail with
        | none => rw [hz] at h; cases h
        | some z => rw [hz] at h; rw [pTerm_succ hz]; exact h
      · rw [if_neg h1] at h ⊢
        by_cases h2 : isM [33, 61] q = true
        · rw [if_pos h2] at h ⊢
          cases hz : pTerm bd n false q.tail with
          | none => rw [hz] at h; cases h
          | some z => rw [hz] at h; rw [pTerm_succ hz]; exact h
        · rw [if_neg h2] at h ⊢; exact h
/-- What stands first: 0 something else, 1 not, 2 for all, 3 for some, 4 true, 5 false, 6 a parenthesis. -/
def headOf : List Tk → Nat
  | [] => 0
  | t :: _ => if t.k = 4 then (if t.t = [126] then 1 else if t.t = [33] then 2 else if t.t = [63] then 3 else if t.t = [40] then 6 else 0) else if t.k = 3 then (if t.t = Lx.dTrue then 4 else 5) else 0
/-- What joins: 5 =>, 6 <=>, 3 &, 4 |; 0 none. -/
def joinOf : List Tk → Nat
  | [] => 0
  | t :: _ => if t.k = 4 then (if t.t = [61, 62] then 5 else if t.t = [60, 61, 62] then 6 else if t.t = [38] then 3 else if t.t = [124] then 4 else 0) else 0
theorem headOf_cons {l : List Tk} (h : headOf l ≠ 0) : ∃ t r, l = t :: r := by
  cases l with
  | nil => exact absurd rfl h
  | cons t r => exact ⟨t, r, rfl⟩
theorem joinOf_cons {l : List Tk} (h : joinOf l ≠ 0) : ∃ t r, l = t :: r := by
  cases l with
  | nil => exact absurd rfl h
  | cons t r => exact ⟨t, r, rfl⟩
def wrapQ (k : Int) (l : List (List UInt8)) (f : Fm) : Fm := l.foldr (fun n f => fQ k (ofL n) f) f
abbrev f00 : Fm := fOp 9 []
/-- Mode 0: a unary; 1: a formula; 2, 3: what goes on with & or with | behind f. -/
def pFm : Nat → List (List UInt8) → Nat → Fm → List Tk → Option (Pr Fm)
  | 0, _, _, _, _ => none
  | n + 1, bd, 0, _f0, l =>
    if headOf l = 1 then
      match pFm n bd 0 f00 l.tail with
      | none => none
      | some (.no q) => some (.no q)
      | some (.ok f fr q) => some (.ok (fOp 2 [f]) fr q)
    else if headOf l = 2 ∨ headOf l = 3 then
      if isM [91] l.tail = true then
        match pVars n l.tail.tail with
        | none => none
        | some (.no q) => some (.no q)
        | some (.ok vs _ q) =>
          if isM [93] q = true then
            if isM [58] q.tail = true then
              match pFm n (vs ++ bd) 0 f00 q.tail.tail with
              | none => none
              | some (.no q') => some (.no q')
              | some (.ok f fr q') => some (.ok (wrapQ (if headOf l = 2 then 7 else 8) vs f) fr q')
            else some (.no q.tail)
          else some (.no q)
      else some (.no l.tail)
    else if headOf l = 4 then some (.ok (fOp 9 []) [] l.tail)
    else if headOf l = 5 then some (.ok (fOp 10 []) [] l.tail)
    else if headOf l = 6 then
      match pFm n bd 1 f00 l.tail with
      | none => none
      | some (.no q) => some (.no q)
      | some (.ok f fr q) => if isM [41] q = true then some (.ok f fr q.tail) else some (.no q)
    else pAtom bd n l
  | n + 1, bd, 1, _f0, l =>
    match pFm n bd 0 f00 l with
    | none => none
    | some (.no q) => some (.no q)
    | some (.ok f fr q) =>
      if joinOf q = 5 ∨ joinOf q = 6 then
        match pFm n bd 0 f00 q.tail with
        | none => none
        | some (.no q') => some (.no q')
        | some (.ok g fr' q') => some (.ok (fOp (joinOf q) [f, g]) (fr ++ fr') q')
      else if joinOf q = 3 ∨ joinOf q = 4 then
        match pFm n bd (joinOf q) f q with
        | none => none
        | some (.no q') => some (.no q')
        | some (.ok g fr' q') => some (.ok g (fr ++ fr') q')
      else some (.ok f fr q)
  | n + 1, bd, m + 2, f0, l =>
    if joinOf l = m + 2 then
      match pFm n bd 0 f00 l.tail with
      | none => none
      | some (.no q) => some (.no q)
      | some (.ok g fr q) =>
        match pFm n bd (m + 2) (fOp (m + 2 : Nat) [f0, g]) q with
        | none => none
        | some (.no q') => some (.no q')
        | some (.ok h fr' q') => some (.ok h (fr ++ fr') q')
    else some (.ok f0 [] l)
theorem pFm_succ : ∀ {n : Nat} {bd : List (List UInt8)} {m : Nat} {f0 : Fm} {l : List Tk} {x : Pr Fm}, pFm n bd m f0 l = some x → pFm (n + 1) bd m f0 l = some x
  | 0, _, _, _, _, _, h => by cases h
  | n + 1, bd, 0, f0, l, x, h => by
    rw [pFm] at h ⊢
    by_cases h1 : headOf l = 1
    · rw [if_pos h1] at h ⊢
      cases hy : pFm n bd 0 f00 l.tail with
      | none => rw [hy] at h; cases h
      | some y => rw [hy] at h; rw [pFm_succ hy]; exact h
    · rw [if_neg h1] at h ⊢
      by_cases h2 : headOf l = 2 ∨ headOf l = 3
      · rw [if_pos h2] at h ⊢
        by_cases h3 : isM [91] l.tail = true
        · rw [if_pos h3] at h ⊢
          cases hy : pVars n l.tail.tail with
          | none => rw [hy] at h; cases h
          | some y =>
            rw [hy] at h
            rw [pVars_succ hy]
            cases y with
            | no q => exact h
            | ok vs fr q =>
              simp only at h ⊢
              by_cases h4 : isM [93] q = true
              · rw [if_pos h4] at h ⊢
                by_cases h5 : isM [58] q.tail = true
                · rw [if_pos h5] at h ⊢
                  cases hz : pFm n (vs ++ bd) 0 f00 q.tail.tail with
                  | none => rw [hz] at h; cases h
                  | some z => rw [hz] at h; rw [pFm_succ hz]; exact h
                · rw [if_neg h5] at h ⊢; exact h
              · rw [if_neg h4] at h ⊢; exact h
        · rw [if_neg h3] at h ⊢; exact h
      · rw [if_neg h2] at h ⊢
        by_cases h3 : headOf l = 4
        · rw [if_pos h3] at h ⊢; exact h
        · rw [if_neg h3] at h ⊢
          by_cases h4 : headOf l = 5
          · rw [if_pos h4] at h ⊢; exact h
          · rw [if_neg h4] at h ⊢
            by_cases h5 : headOf l = 6
            · rw [if_pos h5] at h ⊢
              cases hy : pFm n bd 1 f00 l.tail with
              | none => rw [hy] at h; cases h
              | some y => rw [hy] at h; rw [pFm_succ hy]; exact h
            · rw [if_neg h5] at h ⊢
              exact pAtom_succ h
  | n + 1, bd, 1, f0, l, x, h => by
    rw [pFm] at h ⊢
    cases hy : pFm n bd 0 f00 l with
    | none => rw [hy] at h; cases h
    | some y =>
      rw [hy] at h
      rw [pFm_succ hy]
      cases y with
      | no q => exact h
      | ok f fr q =>
        simp only at h ⊢
        by_cases h1 : joinOf q = 5 ∨ joinOf q = 6
        · rw [if_pos h1] at h ⊢
          cases hz : pFm n bd 0 f00 q.tail with
          | none => rw [hz] at h; cases h
          | some z => rw [hz] at h; rw [pFm_succ hz]; exact h
        · rw [if_neg h1] at h ⊢
          by_cases h2 : joinOf q = 3 ∨ joinOf q = 4
          · rw [if_pos h2] at h ⊢
            cases hz : pFm n bd (joinOf q) f q with
            | none => rw [hz] at h; cases h
            | some z => rw [hz] at h; rw [pFm_succ hz]; exact h
          · rw [if_neg h2] at h ⊢; exact h
  | n + 1, bd, m + 2, f0, l, x, h => by
    rw [pFm] at h ⊢
    by_cases h1 : joinOf l = m + 2
    · rw [if_pos h1] at h ⊢
      cases hy : pFm n bd 0 f00 l.tail with
      | none => rw [hy] at h; cases h
      | some y =>
        rw [hy] at h
        rw [pFm_succ hy]
        cases y with
        | no q => exact h
        | ok g fr q =>
          simp only at h ⊢
          cases hz : pFm n bd (m + 2) (fOp (m + 2 : Nat) [f0, g]) q with
          | none => rw [hz] at h; cases h
          | some z => rw [hz] at h; rw [pFm_succ hz]; exact h
    · rw [if_neg h1] at h ⊢; exact h
theorem pFm_le {n m : Nat} {bd : List (List UInt8)} {k : Nat} {f0 : Fm} {l : List Tk} {x : Pr Fm} (h : pFm n bd k f0 l = some x) (hm : n ≤ m) : pFm m bd k f0 l = some x := by
  induction hm with
  | refl => exact h
  | step _ ih => exact pFm_succ ih
def Pr.fits {α : Type} (x : Pr α) (n : Nat) : Prop := match x with | .ok _ _ q => q.length < n | .no q => q.length ≤ n
theorem pAtom_len {bd : List (List UInt8)} {n : Nat} {l : List Tk} {x : Pr Fm} (h : pAtom bd n l = some x) : x.fits l.length := by
  unfold pAtom at h
  cases hy : pTerm bd n false l with
  | none => rw [hy] at h; cases h
  | some y =>
    have hl := pTerm_len n false l y hy
    rw [hy] at h
    cases y with
    | no q => simp only [Option.some.injEq] at h; subst h; exact hl
    | ok us fr q =>
      simp only at h hl
      have key : ∀ m, isM m q = true → ∀ {g : List T → Fm}, (match pTerm bd n false q.tail with | none => none | some (.no q') => some (.no q') | some (.ok bs fr' q') => some (.ok (g bs) (fr ++ fr') q') : Option (Pr Fm)) = some x → x.fits l.length := by
        intro m hm g hx
        obtain ⟨t1, r1, rfl, _, _⟩ := isM_cons hm
        simp only [List.tail_cons] at hx
        cases hz : pTerm bd n false r1 with
        | none => rw [hz] at hx; cases hx
        | some z =>
          have hl2 := pTerm_len n false r1 z hz
          rw [hz] at hx
          cases z with
          | no q' => simp only [Option.some.injEq] at hx; subst hx; simp only [List.length_cons, Pr.fits] at hl hl2 ⊢; omega
          | ok bs fr' q' => simp only [Option.some.injEq] at hx; subst hx; simp only [List.length_cons, Pr.fits] at hl hl2 ⊢; omega
      by_cases h1 : isM [61] q = true
      · rw [if_pos h1] at h; exact key _ h1 h
      · rw [if_neg h1] at h
        by_cases h2 : isM [33, 61] q = true
        · rw [if_pos h2] at h; exact key _ h2 h
        · rw [if_neg h2] at h
          by_cases h3 : isK 1 l = true
          · rw [if_pos h3] at h; simp only [Option.some.injEq] at h; subst h; exact hl
          · rw [if_neg h3] at h; simp only [Option.some.injEq] at h; subst h; simp only [Pr.fits]; omega
theorem tail_lt {l : List Tk} (h : headOf l ≠ 0) : l.tail.length < l.length := by obtain ⟨t, r, rfl⟩ := headOf_cons h; simp
theorem tail_ltJ {l : List Tk} (h : joinOf l ≠ 0) : l.tail.length < l.length := by obtain ⟨t, r, rfl⟩ := joinOf_cons h; simp
theorem tail_ltM {m : List UInt8} {l : List Tk} (h : isM m l = true) : l.tail.length < l.length := by obtain ⟨t, r, rfl, _⟩ := isM_cons h; simp
theorem pFm_len : ∀ (n : Nat) (bd : List (List UInt8)) (m : Nat) (f0 : Fm) (l : List Tk) (x : Pr Fm), pFm n bd m f0 l = some x → match x with | .ok _ _ q => (m ≤ 1 → q.length < l.length) ∧ q.length ≤ l.length | .no q => q.length ≤ l.length
  | 0, _, _, _, _, _, h => by cases h
  | n + 1, bd, 0, f0, l, x, h => by
    rw [pFm] at h
    by_cases h1 : headOf l = 1
    · rw [if_pos h1] at h
      have ht := tail_lt (l := l) (by omega)
      cases hy : pFm n bd 0 f00 l.tail with
      | none => rw [hy] at h; cases h
      | some y =>
        have hl := pFm_len n _ _ _ _ y hy
        rw [hy] at h
        cases y with
        | no q => simp only [Option.some.injEq] at h; subst h; simp only at hl ⊢; omega
        | ok f fr q => simp only [Option.some.injEq] at h; subst h; simp only at hl ⊢; have := hl.1 (by omega); omega
    · rw [if_neg h1] at h
      by_cases h2 : headOf l = 2 ∨ headOf l = 3
      · rw [if_pos h2] at h
        have ht := tail_lt (l := l) (by omega)
        by_cases h3 : isM [91] l.tail = true
        · rw [if_pos h3] at h
          have ht2 := tail_ltM h3
          cases hy : pVars n l.tail.tail with
          | none => rw [hy] at h; cases h
          | some y =>
            have hl := pVars_len n _ y hy
            rw [hy] at h
            cases y with
            | no q => simp only [Option.some.injEq] at h; subst h; simp only at hl ⊢; omega
            | ok vs fr q =>
              simp only at h hl
              by_cases h4 : isM [93] q = true
              · rw [if_pos h4] at h
                have ht3 := tail_ltM h4
                by_cases h5 : isM [58] q.tail = true
                · rw [if_pos h5] at h
                  have ht4 := tail_ltM h5
                  cases hz : pFm n (vs ++ bd) 0 f00 q.tail.tail with
                  | none => rw [hz] at h; cases h
                  | some z =>
                    have hl2 := pFm_len n _ _ _ _ z hz
                    rw [hz] at h
                    cases z with
                    | no q' => simp only [Option.some.injEq] at h; subst h; simp only at hl2 ⊢; omega
                    | ok f fr q' => simp only [Option.some.injEq] at h; subst h; simp only at hl2 ⊢; have := hl2.1 (by omega); omega
                · rw [if_neg h5] at h; simp only [Option.some.injEq] at h; subst h; simp only; omega
              · rw [if_neg h4] at h; simp only [Option.some.injEq] at h; subst h; simp only; omega
        · rw [if_neg h3] at h; simp only [Option.some.injEq] at h; subst h; simp only; omega
      · rw [if_neg h2] at h
        by_cases h3 : headOf l = 4
        · rw [if_pos h3] at h; have ht := tail_lt (l := l) (by omega); simp only [Option.some.injEq] at h; subst h; simp only; omega
        · rw [if_neg h3] at h
          by_cases h4 : headOf l = 5
          · rw [if_pos h4] at h; have ht := tail_lt (l := l) (by omega); simp only [Option.some.injEq] at h; subst h; simp only; omega
          · rw [if_neg h4] at h
            by_cases h5 : headOf l = 6
            · rw [if_pos h5] at h
              have ht := tail_lt (l := l) (by omega)
              cases hy : pFm n bd 1 f00 l.tail with
              | none => rw [hy] at h; cases h
              | some y =>
                have hl := pFm_len n _ _ _ _ y hy
                rw [hy] at h
                cases y with
                | no q => simp only [Option.some.injEq] at h; subst h; simp only at hl ⊢; omega
                | ok f fr q =>
                  simp only at h hl
                  have := hl.1 (by omega)
                  by_cases h6 : isM [41] q = true
                  · rw [if_pos h6] at h; have := tail_ltM h6; simp only [Option.some.injEq] at h; subst h; simp only; omega
                  · rw [if_neg h6] at h; simp only [Option.some.injEq] at h; subst h; simp only; omega
            · rw [if_neg h5] at h
              have := pAtom_len h
              cases x with
              | no q => exact this
              | ok f fr q => simp only [Pr.fits] at this ⊢; omega
  | n + 1, bd, 1, f0, l, x, h => by
    rw [pFm] at h
    cases hy : pFm n bd 0 f00 l with
    | none => rw [hy] at h; cases h
    | some y =>
      have hl := pFm_len n _ _ _ _ y hy
      rw [hy] at h
      cases y with
      | no q => simp only [Option.some.injEq] at h; subst h; exact hl
      | ok f fr q =>
        simp only at h hl
        have hl0 := hl.1 (by omega)
        by_cases h1 : joinOf q = 5 ∨ joinOf q = 6
        · rw [if_pos h1] at h
          have ht := tail_ltJ (l := q) (by omega)
          cases hz : pFm n bd 0 f00 q.tail with
          | none => rw [hz] at h; cases h
          | some z =>
            have hl2 := pFm_len n _ _ _ _ z hz
            rw [hz] at h
            cases z with
            | no q' => simp only [Option.some.injEq] at h; subst h; simp only at hl2 ⊢; omega
            | ok g fr' q' => simp only [Option.some.injEq] at h; subst h; simp only at hl2 ⊢; omega
        · rw [if_neg h1] at h
          by_cases h2 : joinOf q = 3 ∨ joinOf q = 4
          · rw [if_pos h2] at h
            cases hz : pFm n bd (joinOf q) f q with
            | none => rw [hz] at h; cases h
            | some z =>
              have hl2 := pFm_len n _ _ _ _ z hz
              rw [hz] at h
              cases z with
              | no q' => simp only [Option.some.injEq] at h; subst h; simp only at hl2 ⊢; omega
              | ok g fr' q' => simp only [Option.some.injEq] at h; subst h; simp only at hl2 ⊢; omega
          · rw [if_neg h2] at h; simp only [Option.some.injEq] at h; subst h; simp only; omega
  | n + 1, bd, m + 2, f0, l, x, h => by
    rw [pFm] at h
    by_cases h1 : joinOf l = m + 2
    · rw [if_pos h1] at h
      have ht := tail_ltJ (l := l) (by omega)
      cases hy : pFm n bd 0 f00 l.tail with
      | none => rw [hy] at h; cases h
      | some y =>
        have hl := pFm_len n _ _ _ _ y hy
        rw [hy] at h
        cases y with
        | no q => simp only [Option.some.injEq] at h; subst h; simp only at hl ⊢; omega
        | ok g fr q =>
          simp only at h hl
          cases hz : pFm n bd (m + 2) (fOp (m + 2 : Nat) [f0, g]) q with
          | none => rw [hz] at h; cases h
          | some z =>
            have hl2 := pFm_len n _ _ _ _ z hz
            rw [hz] at h
            cases z with
            | no q' => simp only [Option.some.injEq] at h; subst h; simp only at hl2 ⊢; omega
            | ok g2 fr' q' => simp only [Option.some.injEq] at h; subst h; simp only at hl2 ⊢; omega
    · rw [if_neg h1] at h; simp only [Option.some.injEq] at h; subst h; simp only; omega
/-- An atom; a unary; a formula; what goes on with a sign. -/
def PA (bd : List (List UInt8)) (l : List Tk) (x : Pr Fm) : Prop := ∃ n, pAtom bd n l = some x
def PU (bd : List (List UInt8)) (l : List Tk) (x : Pr Fm) : Prop := ∃ n, pFm n bd 0 f00 l = some x
def PF (bd : List (List UInt8)) (l : List Tk) (x : Pr Fm) : Prop := ∃ n, pFm n bd 1 f00 l = some x
def PM (bd : List (List UInt8)) (m : Nat) (f : Fm) (l : List Tk) (x : Pr Fm) : Prop := ∃ n, pFm n bd (m + 2) f l = some x
section
variable {bd : List (List UInt8)} {l q q' : List Tk} {fr fr' : List Tk} {f g : Fm} {us bs : List T}
theorem PF.one {x y : Pr Fm} (h : PF bd l x) (h' : PF bd l y) : x = y := by
  obtain ⟨n, h⟩ := h
  obtain ⟨m, h'⟩ := h'
  have h1 := pFm_le h (Nat.le_max_left n m)
  have h2 := pFm_le h' (Nat.le_max_right n m)
  rw [h1] at h2
  exact Option.some.inj h2
theorem PU.len (h : PU bd l (.ok f fr q)) : q.length < l.length := by obtain ⟨n, h⟩ := h; exact (pFm_len _ _ _ _ _ _ h).1 (by omega)
theorem PA.first_no (h : PT bd l (.no q)) : PA bd l (.no q) := by
  obtain ⟨n, h⟩ := h
  exact ⟨n, by simp [pAtom, h]⟩
theorem PA.eq (h : PT bd l (.ok us fr q)) (hm : isM [61] q = true) (h' : PT bd q.tail (.ok bs fr' q')) : PA bd l (.ok (fEq (us.headD t0) (bs.headD t0)) (fr ++ fr') q') := by
  obtain ⟨n, h⟩ := h
  obtain ⟨m, h'⟩ := h'
  exact ⟨max n m, by simp [pAtom, pTerm_le h (Nat.le_max_left n m), pTerm_le h' (Nat.le_max_right n m), hm]⟩
theorem PA.eq_no (h : PT bd l (.ok us fr q)) (hm : isM [61] q = true) (h' : PT bd q.tail (.no q')) : PA bd l (.no q') := by
  obtain ⟨n, h⟩ := h
  obtain ⟨m, h'⟩ := h'
  exact ⟨max n m, by simp [pAtom, pTerm_le h (Nat.le_max_left n m), pTerm_le h' (Nat.le_max_right n m), hm]⟩
theorem PA.ne (h : PT bd l (.ok us fr q)) (h0 : isM [61] q = false) (hm : isM [33, 61] q = true) (h' : PT bd q.tail (.ok bs fr' q')) : PA bd l (.ok (fOp 2 [fEq (us.headD t0) (bs.headD t0)]) (fr ++ fr') q') := by
  obtain ⟨n, h⟩ := h
  obtain ⟨m, h'⟩ := h'
  exact ⟨max n m, by simp [pAtom, pTerm_le h (Nat.le_max_left n m), pTerm_le h' (Nat.le_max_right n m), h0, hm]⟩
theorem PA.ne_no (h : PT bd l (.ok us fr q)) (h0 : isM [61] q = false) (hm : isM [33, 61] q = true) (h' : PT bd q.tail (.no q')) : PA bd l (.no q') := by
  obtain ⟨n, h⟩ := h
  obtain ⟨m, h'⟩ := h'
  exact ⟨max n m, by simp [pAtom, pTerm_le h (Nat.le_max_left n m), pTerm_le h' (Nat.le_max_right n m), h0, hm]⟩
theorem PA.pred (h : PT bd l (.ok us fr q)) (h0 : isM [61] q = false) (h1 : isM [33, 61] q = false) (hk : isK 1 l = true) : PA bd l (.ok (fPred (us.headD t0)) fr q) := by
  obtain ⟨n, h⟩ := h
  exact ⟨n, by simp [pAtom, h, h0, h1, hk]⟩
theorem PA.alone (h : PT bd l (.ok us fr q)) (h0 : isM [61] q = false) (h1 : isM [33, 61] q = false) (hk : isK 1 l = false) : PA bd l (.no q) := by
  obtain ⟨n, h⟩ := h
  exact ⟨n, by simp [pAtom, h, h0, h1, hk]⟩
theorem PU.not (hh : headOf l = 1) (h : PU bd l.tail (.ok f fr q)) : PU bd l (.ok (fOp 2 [f]) fr q) := by
  obtain ⟨n, h⟩ := h
  exact ⟨n + 1, by simp [pFm, hh, h]⟩
theorem PU.not_no (hh : headOf l = 1) (h : PU bd l.tail (.no q)) : PU bd l (.no q) := by
  obtain ⟨n, h⟩ := h
  exact ⟨n + 1, by simp [pFm, hh, h]⟩
theorem PU.q0 (hh : headOf l = 2 ∨ headOf l = 3) (h1 : isM [91] l.tail = false) : PU bd l (.no l.tail) := ⟨1, by rcases hh with h | h <;> simp [pFm, h, h1]⟩
theorem PU.q1 (hh : headOf l = 2 ∨ headOf l = 3) (h1 : isM [91] l.tail = true) (hv : PV l.tail.tail (.no q)) : PU bd l (.no q) := by
  obtain ⟨n, hv⟩ := hv
  exact ⟨n + 1, by rcases hh with h | h <;> simp [pFm, h, h1, hv]⟩
theorem PU.q2 (hh : headOf l = 2 ∨ headOf l = 3) (h1 : isM [91] l.tail = true) {vs : List (List UInt8)} (hv : PV l.tail.tail (.ok vs fr q)) (h2 : isM [93] q = false) : PU bd l (.no q) := by
  obtain ⟨n, hv⟩ := hv
  exact ⟨n + 1, by rcases hh with h | h <;> simp [pFm, h, h1, hv, h2]⟩
theorem PU.q3 (hh : headOf l = 2 ∨ headOf l = 3) (h1 : isM [91] l.tail = true) {vs : List (List UInt8)} (hv : PV l.tail.tail (.ok vs fr q)) (h2 : isM [93] q = true) (h3 : isM [58] q.tail = false) : PU bd l (.no q.tail) := by
  obtain ⟨n, hv⟩ := hv
  exact ⟨n + 1, by rcases hh with h | h <;> simp [pFm, h, h1, hv, h2, h3]⟩
theorem PU.q4 (hh : headOf l = 2 ∨ headOf l = 3) (h1 : isM [91] l.tail = true) {vs : List (List UInt8)} (hv : PV l.tail.tail (.ok vs fr q)) (h2 : isM [93] q = true) (h3 : isM [58] q.tail = true) (h4 : PU (vs ++ bd) q.tail.tail (.no q')) : PU bd l (.no q') := by
  obtain ⟨n, hv⟩ := hv
  obtain ⟨m, h4⟩ := h4
  exact ⟨max n m + 1, by rcases hh with h | h <;> simp [pFm, h, h1, pVars_le hv (Nat.le_max_left n m), h2, h3, pFm_le h4 (Nat.le_max_right n m)]⟩
theorem PU.q5 (hh : headOf l = 2 ∨ headOf l = 3) (h1 : isM [91] l.tail = true) {vs : List (List UInt8)} (hv : PV l.tail.tail (.ok vs fr q)) (h2 : isM [93] q = true) (h3 : isM [58] q.tail = true) (h4 : PU (vs ++ bd) q.tail.tail (.ok f fr' q')) : PU bd l (.ok (wrapQ (if headOf l = 2 then 7 else 8) vs f) fr' q') := by
  obtain ⟨n, hv⟩ := hv
  obtain ⟨m, h4⟩ := h4
  exact ⟨max n m + 1, by rcases hh with h | h <;> simp [pFm, h, h1, pVars_le hv (Nat.le_max_left n m), h2, h3, pFm_le h4 (Nat.le_max_right n m)]⟩
theorem PU.yes (hh : headOf l = 4) : PU bd l (.ok (fOp 9 []) [] l.tail) := ⟨1, by simp [pFm, hh]⟩
theorem PU.nope (hh : headOf l = 5) : PU bd l (.ok (fOp 10 []) [] l.tail) := ⟨1, by simp [pFm, hh]⟩
theorem PU.par (hh : headOf l = 6) (h : PF bd l.tail (.ok f fr q)) (hq : isM [41] q = true) : PU bd l (.ok f fr q.tail) := by
  obtain ⟨n, h⟩ := h
  exact ⟨n + 1, by simp [pFm, hh, h, hq]⟩
theorem PU.par_no (hh : headOf l = 6) (h : PF bd l.tail (.ok f fr q)) (hq : isM [41] q = false) : PU bd l (.no q) := by
  obtain ⟨n, h⟩ := h
  exact ⟨n + 1, by simp [pFm, hh, h, hq]⟩
theorem PU.in_no (hh : headOf l = 6) (h : PF bd l.tail (.no q)) : PU bd l (.no q) := by
  obtain ⟨n, h⟩ := h
  exact ⟨n + 1, by simp [pFm, hh, h]⟩
theorem PU.atom (hh : headOf l = 0) {x : Pr Fm} (h : PA bd l x) : PU bd l x := by
  obtain ⟨n, h⟩ := h
  exact ⟨n + 1, by simp [pFm, hh, h]⟩
theorem PF.first_no (h : PU bd l (.no q)) : PF bd l (.no q) := by
  obtain ⟨n, h⟩ := h
  exact ⟨n + 1, by simp [pFm, h]⟩
theorem PF.two (h : PU bd l (.ok f fr q)) (hj : joinOf q = 5 ∨ joinOf q = 6) (h' : PU bd q.tail (.ok g fr' q')) : PF bd l (.ok (fOp (joinOf q) [f, g]) (fr ++ fr') q') := by
  obtain ⟨n, h⟩ := h
  obtain ⟨m, h'⟩ := h'
  exact ⟨max n m + 1, by simp [pFm, pFm_le h (Nat.le_max_left n m), hj, pFm_le h' (Nat.le_max_right n m)]⟩
theorem PF.two_no (h : PU bd l (.ok f fr q)) (hj : joinOf q = 5 ∨ joinOf q = 6) (h' : PU bd q.tail (.no q')) : PF bd l (.no q') := by
  obtain ⟨n, h⟩ := h
  obtain ⟨m, h'⟩ := h'
  exact ⟨max n m + 1, by simp [pFm, pFm_le h (Nat.le_max_left n m), hj, pFm_le h' (Nat.le_max_right n m)]⟩
theorem PF.only (h : PU bd l (.ok f fr q)) (hj : joinOf q = 0) : PF bd l (.ok f fr q) := by
  obtain ⟨n, h⟩ := h
  exact ⟨n + 1, by simp [pFm, h, hj]⟩
theorem PF.many (h : PU bd l (.ok f fr q)) {m : Nat} (hj : joinOf q = m + 2) (hm : m = 1 ∨ m = 2) (h' : PM bd m f q (.ok g fr' q')) : PF bd l (.ok g (fr ++ fr') q') := by
  obtain ⟨n, h⟩ := h
  obtain ⟨k, h'⟩ := h'
  exact ⟨max n k + 1, by rcases hm with rfl | rfl <;> simp [pFm, pFm_le h (Nat.le_max_left n k), hj, pFm_le h' (Nat.le_max_right n k)]⟩
theorem PF.many_no (h : PU bd l (.ok f fr q)) {m : Nat} (hj : joinOf q = m + 2) (hm : m = 1 ∨ m = 2) (h' : PM bd m f q (.no q')) : PF bd l (.no q') := by
  obtain ⟨n, h⟩ := h
  obtain ⟨k, h'⟩ := h'
  exact ⟨max n k + 1, by rcases hm with rfl | rfl <;> simp [pFm, pFm_le h (Nat.le_max_left n k), hj, pFm_le h' (Nat.le_max_right n k)]⟩
theorem PM.stop {m : Nat} (hj : joinOf l ≠ m + 2) : PM bd m f l (.ok f [] l) := ⟨1, by simp [pFm, hj]⟩
theorem PM.more {m : Nat} (hj : joinOf l = m + 2) (h : PU bd l.tail (.ok g fr q)) {h0 : Fm} (h' : PM bd m (fOp (m + 2 : Nat) [f, g]) q (.ok h0 fr' q')) : PM bd m f l (.ok h0 (fr ++ fr') q') := by
  obtain ⟨n, h⟩ := h
  obtain ⟨k, h'⟩ := h'
  refine ⟨max n k + 1, ?_⟩
  rw [pFm, if_pos hj, pFm_le h (Nat.le_max_left n k)]
  simp only [pFm_le h' (Nat.le_max_right n k)]
theorem PM.more_no {m : Nat} (hj : joinOf l = m + 2) (h : PU bd l.tail (.ok g fr q)) (h' : PM bd m (fOp (m + 2 : Nat) [f, g]) q (.no q')) : PM bd m f l (.no q') := by
  obtain ⟨n, h⟩ := h
  obtain ⟨k, h'⟩ := h'
  refine ⟨max n k + 1, ?_⟩
  rw [pFm, if_pos hj, pFm_le h (Nat.le_max_left n k)]
  simp only [pFm_le h' (Nat.le_max_right n k)]
theorem PM.here_no {m : Nat} (hj : joinOf l = m + 2) (h : PU bd l.tail (.no q)) : PM bd m f l (.no q) := by
  obtain ⟨n, h⟩ := h
  refine ⟨n + 1, ?_⟩
  rw [pFm, if_pos hj, h]
end
end
section
open Go.RowKit Go.Maps
open Lx (Tk ofL KsAt)
/-- Formulas in a row, all their blocks with P. -/
inductive KidsP (P : Nat → Prop) (W : World) : Value → List Fm → Prop
  | mk (a : Option Addr) (c : Nat) (l : List Fm) (sl sr sk : Nat → Value) (hc : l.length ≤ c) (hm : c ≤ maxLen)
      (at0 : 0 < l.length → ∃ b o, P b ∧ b < W.heap.size ∧ a = some ⟨b, o, none⟩ ∧ ∀ i (h : i < l.length), W.cell? ⟨b, o + i * 9, none⟩ = some (.int .i64 l[i].k) ∧ W.cell? ⟨b, o + i * 9 + 1, none⟩ = some (.string l[i].nm) ∧
        (W.cell? ⟨b, o + i * 9 + 2, none⟩ = some (.int .i64 l[i].l.v) ∧ W.cell? ⟨b, o + i * 9 + 3, none⟩ = some (.string l[i].l.fn) ∧ W.cell? ⟨b, o + i * 9 + 4, none⟩ = some (sl i)) ∧
        (W.cell? ⟨b, o + i * 9 + 5, none⟩ = some (.int .i64 l[i].r.v) ∧ W.cell? ⟨b, o + i * 9 + 6, none⟩ = some (.string l[i].r.fn) ∧ W.cell? ⟨b, o + i * 9 + 7, none⟩ = some (sr i)) ∧ W.cell? ⟨b, o + i * 9 + 8, none⟩ = some (sk i))
      (subL : ∀ i (h : i < l.length), ArgsP P W (sl i) l[i].l.args) (subR : ∀ i (h : i < l.length), ArgsP P W (sr i) l[i].r.args) (subK : ∀ i (h : i < l.length), KidsP P W (sk i) l[i].kids) : KidsP P W (.slice a l.length c) l
theorem KidsP.keep {P Q : Nat → Prop} {W W' : World} {v : Value} {l : List Fm} (h : KidsP P W v l) (hs : W.heap.size ≤ W'.heap.size) (hk : ∀ k, P k → k < W.heap.size → Q k ∧ W'.heap[k]? = W.heap[k]?) : KidsP Q W' v l := by
  induction h with
  | mk a c l sl sr sk hc hm at0 subL subR subK ih =>
    refine .mk a c l sl sr sk hc hm (fun h0 => ?_) (fun i hi => (subL i hi).keep hs hk) (fun i hi => (subR i hi).keep hs hk) ih
    obtain ⟨b, o, hP, hlt, rfl, hcell⟩ := at0 h0
    have hb := (hk b hP hlt).2
    have key : ∀ k v, W.cell? ⟨b, k, none⟩ = some v → W'.cell? ⟨b, k, none⟩ = some v := fun k v hc => (World.cell?_of_block (a := ⟨b, k, none⟩) hb).trans hc
    refine ⟨b, o, (hk b hP hlt).1, Nat.lt_of_lt_of_le hlt hs, rfl, fun i hi => ?_⟩
    obtain ⟨c0, c1, ⟨c2, c3, c4⟩, ⟨c5, c6, c7⟩, c8⟩ := hcell i hi
    exact ⟨key _ _ c0, key _ _ c1, ⟨key _ _ c2, key _ _ c3, key _ _ c4⟩, ⟨key _ _ c5, key _ _ c6, key _ _ c7⟩, key _ _ c8⟩
theorem KidsP.slice {P : Nat → Prop} {W : World} {v : Value} {l : List Fm} (h : KidsP P W v l) : ∃ a c, v = .slice a l.length c ∧ l.length ≤ c ∧ c ≤ maxLen := by
  cases h with
  | mk a c l sl sr sk hc hm => exact ⟨a, c, rfl, hc, hm⟩
theorem KidsP.nil (P : Nat → Prop) (W : World) : KidsP P W (.slice none 0 0) [] := .mk none 0 [] (fun _ => .slice none 0 0) (fun _ => .slice none 0 0) (fun _ => .slice none 0 0) (Nat.le_refl _) (by decide) (fun h => absurd h (by simp)) (fun i h => absurd h (by simp)) (fun i h => absurd h (by simp)) (fun i h => absurd h (by simp))
/-- A formula's slices. -/
structure FmP (P : Nat → Prop) (W : World) (f : Fm) (sl sr sk : Value) : Prop where
  l : ArgsP P W sl f.l.args
  r : ArgsP P W sr f.r.args
  k : KidsP P W sk f.kids
theorem FmP.keep {P Q : Nat → Prop} {W W' : World} {f : Fm} {sl sr sk : Value} (h : FmP P W f sl sr sk) (hs : W.heap.size ≤ W'.heap.size) (hk : ∀ k, P k → k < W.heap.size → Q k ∧ W'.heap[k]? = W.heap[k]?) : FmP Q W' f sl sr sk := ⟨h.l.keep hs hk, h.r.keep hs hk, h.k.keep hs hk⟩
abbrev fcells (f : Fm) (sl sr sk : Value) : List Value := [.int .i64 f.k, .string f.nm, .int .i64 f.l.v, .string f.l.fn, sl, .int .i64 f.r.v, .string f.r.fn, sr, sk]
abbrev fval (f : Fm) (sl sr sk : Value) : Value := .agg #[.int .i64 f.k, .string f.nm, .int .i64 f.l.v, .string f.l.fn, sl, .int .i64 f.r.v, .string f.r.fn, sr, sk]
/-- How great a formula is. -/
def Fm.size : Fm → Int
  | .mk k _ l r ks => 1 + (if k = 1 then l.size + r.size else 0) + sizes ks
where sizes : List Fm → Int
  | [] => 0
  | a :: r => a.size + sizes r
def Fm.depth : Fm → Int
  | .mk k _ l r ks => 1 + max (if k = 1 then max l.depth r.depth else 0) (depths ks)
where depths : List Fm → Int
  | [] => 0
  | a :: r => max a.depth (depths r)
def wideT : T → Bool
  | .mk _ _ ts => decide (16 < ts.length) || wides ts
where wides : List T → Bool
  | [] => false
  | a :: r => wideT a || wides r
def Fm.wide : Fm → Bool
  | .mk _ _ l r ks => wideT l || wideT r || wides ks
where wides : List Fm → Bool
  | [] => false
  | a :: r => a.wide || wides r
/-- The signs lie as the program's text lays them. -/
def sgL : List Value := [.string ⟨#[]⟩, .string ⟨#[]⟩, .string ⟨#[126]⟩, .string ⟨#[38]⟩, .string ⟨#[124]⟩, .string ⟨#[61, 62]⟩, .string ⟨#[60, 61, 62]⟩, .string ⟨#[33]⟩, .string ⟨#[63]⟩, .string ⟨#[36, 116, 114, 117, 101]⟩, .string ⟨#[36, 102, 97, 108, 115, 101]⟩]
end
