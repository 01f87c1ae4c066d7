/-
  Variants: mathematics.
-/
import Derived.Test.YtblfbmdnkgebdaaPY
import Derived.Test.YtblfbmdnkgebdaaPS
namespace Go.Proofs.Ytblfbmdnkgebdaa
open Go.RowKit Go.Maps

theorem uvar_iff {p : T} : uvar p = true ↔ p.fn.size = 0 := by simp [uvar]
theorem uvar_congr {p t : T} (h : p.fn = t.fn) : uvar p = uvar t := by unfold uvar; rw [h]

/-- Back and forth. -/
theorem back_forth {θ θ' : Ta} {a b : T} (h : Fit θ a b) : Fit θ' b a → ∀ x, Occ x a → ∃ vt, θ x = some vt ∧ uvar vt = true ∧ ∃ xt, θ' vt.v = some xt ∧ xt.v = x := by
  induction h with
  | var a b hv h =>
    intro hb x hx
    cases hx with
    | here _ _ e =>
      refine ⟨b, by rw [← e]; exact h, ?_⟩
      by_cases hb0 : uvar b = true
      · exact ⟨hb0, a, (fit_var hb0).1 hb, e⟩
      · have hb1 : uvar b = false := by simpa using hb0
        have := ((fit_fn hb1).1 hb).1
        rw [uvar_congr this, hv] at hb1
        cases hb1
    | sub _ _ h => rw [hv] at h; cases h
  | fn a b hv hf hl h ih =>
    intro hb x hx
    have hb1 : uvar b = false := by rw [← uvar_congr hf]; exact hv
    cases hx with
    | here _ h => rw [hv] at h; cases h
    | sub _ y _ hy h2 =>
      obtain ⟨i, hi, rfl⟩ := List.mem_iff_getElem.1 hy
      have h3 := (fit_zip hl.symm).2 ((fit_fn hb1).1 hb).2.2
      exact ih i hi (hl ▸ hi) (h3 i (hl ▸ hi) hi) x h2

/-- The variable as a term. -/
def vtm (x : Int) : T := .mk x ⟨#[]⟩ []
theorem vtm_of {a : T} (hs : a.shape = true) (hv : uvar a = true) : a = vtm a.v := by
  have h0 := uvar_iff.1 hv
  rw [T.shape_eq, if_pos h0] at hs
  simp only [Bool.and_eq_true, decide_eq_true_eq] at hs
  refine same_ext rfl (ba_empty.1 h0) ?_
  exact List.eq_nil_of_length_eq_zero hs.2

def inv (s : List Bd) : Ta := fun w => (s.find? fun y => decide (y.2.v = w)).map fun y => vtm y.1
theorem inv_mem {s : List Bd} (h : Renames s) {y : Bd} (hy : y ∈ s) : inv s y.2.v = some (vtm y.1) := by
  unfold inv
  cases e : s.find? (fun z => decide (z.2.v = y.2.v)) with
  | none =>
    rw [List.find?_eq_none] at e
    exact absurd (by simp) (e y hy)
  | some z =>
    have h1 := List.mem_of_find?_eq_some e
    have h2 := List.find?_some e
    simp only [decide_eq_true_eq] at h2
    rw [h.2 z h1 y hy h2]
    rfl

theorem fit_back {s : List Bd} (hr : Renames s) {a b : T} (h : Fit (findB s) a b) : a.shape = true → Fit (inv s) b a := by
  induction h with
  | var a b hv h =>
    intro hs
    have h1 := findB_some h
    have h2 := inv_mem hr h1
    refine (fit_var (hr.1 _ h1)).2 ?_
    rw [vtm_of hs hv]
    exact h2
  | fn a b hv hf hl h ih =>
    intro hs
    have hb1 : uvar b = false := by rw [← uvar_congr hf]; exact hv
    exact .fn b a hb1 hf.symm hl.symm (fun i h1 h2 => ih i h2 h1 (shape_arg hs hv _ (List.getElem_mem h2)))

/-- Each is an instance of the other just where what stands for the variables is a renaming. -/
theorem back_iff {a b : T} {s : List Bd} (hs : a.shape = true) (hm : mres a b = some (findB s)) (hr : Rising s) : (mres b a).isSome = true ↔ Renames s := by
  obtain ⟨k1, k2, k3⟩ := (mrun_says (mres_run a b)).1 _ hm
  have hf : Fit (findB s) a b := k2 (a, b) List.mem_cons_self
  constructor
  · intro h
    obtain ⟨τ, hτ⟩ := Option.isSome_iff_exists.1 h
    have hf' : Fit τ b a := ((mrun_says (mres_run b a)).1 _ hτ).2.1 (b, a) List.mem_cons_self
    have key : ∀ y ∈ s, uvar y.2 = true ∧ ∃ xt, τ y.2.v = some xt ∧ xt.v = y.1 := fun y hy => by
      have e := findB_mem hr hy
      have ho : Occ y.1 a := by
        rcases k3 y.1 (by rw [e]; simp) with h | ⟨q, hq, h⟩
        · exact absurd rfl h
        · simp only [List.mem_singleton] at hq; subst hq; exact h
      obtain ⟨vt, h1, h2, h3⟩ := back_forth hf hf' y.1 ho
      rw [e] at h1
      cases h1
      exact ⟨h2, h3⟩
    refine ⟨fun y hy => (key y hy).1, fun y hy z hz e => ?_⟩
    obtain ⟨xt, h1, h2⟩ := (key y hy).2
    obtain ⟨zt, h3, h4⟩ := (key z hz).2
    rw [e, h3] at h1
    cases h1
    have e1 := findB_mem hr hy
    have e2 := findB_mem hr hz
    rw [← h2, h4, e2] at e1
    exact Prod.ext (h2.symm.trans h4) (Option.some.inj e1).symm
  · intro h
    cases e : mres b a with
    | some τ => rfl
    | none =>
      have h1 := fit_back h hf hs
      exact absurd (fun q hq => by simp only [List.mem_singleton] at hq; subst hq; exact h1) ((mrun_says (mres_run b a)).2 e (inv s) (ext_none _))

/-- What the document's Variant looks at. -/
def RVar (s : List Bd) : Prop := ∀ i (hi : i < s.length), s[i].2.fn.size = 0 ∧ ∀ k (hk : k < i), s[k].2.v ≠ s[i].2.v

theorem rvar_iff {s : List Bd} : RVar s ∧ Rising s ↔ Renames s ∧ Rising s := by
  constructor
  · rintro ⟨h, hr⟩
    refine ⟨⟨fun y hy => ?_, fun y hy z hz e => ?_⟩, hr⟩
    · obtain ⟨i, hi, rfl⟩ := List.mem_iff_getElem.1 hy
      exact uvar_iff.2 (h i hi).1
    · obtain ⟨i, hi, rfl⟩ := List.mem_iff_getElem.1 hy
      obtain ⟨j, hj, rfl⟩ := List.mem_iff_getElem.1 hz
      rcases Nat.lt_trichotomy i j with k | k | k
      · exact absurd e ((h j hj).2 i k)
      · subst k; rfl
      · exact absurd e.symm ((h i hi).2 j k)
  · rintro ⟨h, hr⟩
    refine ⟨fun i hi => ⟨uvar_iff.1 (h.1 _ (List.getElem_mem hi)), fun k hk e => ?_⟩, hr⟩
    have := h.2 _ (List.getElem_mem (Nat.lt_trans hk hi)) _ (List.getElem_mem hi) e
    have := hr k i hi hk
    simp_all

open Classical in
/-- What the document's Variant answers. -/
noncomputable def rvariantB (a b : T) : Bool := decide (a.rightW = 0) && decide (b.rightW = 0) && (match dmt a b [] with | some s => decide (RVar s) | none => false)

theorem variants (a b : T) (ha : a.size ≤ 1048576) : variantB a b = rvariantB a b := by
  unfold variantB rvariantB
  by_cases h1 : a.rightW = 0
  · rcases both_match a b with ⟨h2, h3⟩ | ⟨s, h2, h3, h4⟩
    · rw [h2, h3]
      simp
    · have h5 := back_iff (right_zero h1 ha).1 h2 h4
      have h6 : Renames s ↔ RVar s := ⟨fun h => (rvar_iff.2 ⟨h, h4⟩).1, fun h => (rvar_iff.1 ⟨h, h4⟩).1⟩
      rw [h2, h3]
      simp only [Option.isSome_some, Bool.and_true]
      congr 1
      rw [Bool.eq_iff_iff, h5, h6]
      simp
  · simp [h1]

end Go.Proofs.Ytblfbmdnkgebdaa
