/-
  Both tell the same: mathematics.
-/
import Derived.Test.YtblfbmdnkgebdaaPW
namespace Go.Proofs.Ytblfbmdnkgebdaa
open Go.RowKit Go.Maps

/-- θ makes p the term t. -/
inductive Fit (θ : Ta) : T → T → Prop
  | var (p t : T) (hv : uvar p = true) (h : θ p.v = some t) : Fit θ p t
  | fn (p t : T) (hv : uvar p = false) (hf : p.fn = t.fn) (hl : p.args.length = t.args.length) (h : ∀ i (h1 : i < p.args.length) (h2 : i < t.args.length), Fit θ p.args[i] t.args[i]) : Fit θ p t

/-- The variable stands in the term. -/
inductive Occ (x : Int) : T → Prop
  | here (p : T) (hv : uvar p = true) (h : p.v = x) : Occ x p
  | sub (p a : T) (hv : uvar p = false) (ha : a ∈ p.args) (h : Occ x a) : Occ x p

theorem fit_var {θ : Ta} {p t : T} (hv : uvar p = true) : Fit θ p t ↔ θ p.v = some t := by
  constructor
  · intro h
    cases h with
    | var _ _ _ h => exact h
    | fn _ _ h => rw [hv] at h; cases h
  · exact Fit.var p t hv
theorem fit_zip {θ : Ta} {l m : List T} (hl : l.length = m.length) : (∀ i (h1 : i < l.length) (h2 : i < m.length), Fit θ l[i] m[i]) ↔ ∀ q ∈ l.zip m, Fit θ q.1 q.2 := by
  constructor
  · intro h q hq
    obtain ⟨i, hi, rfl⟩ := List.mem_iff_getElem.1 hq
    rw [List.length_zip] at hi
    rw [List.getElem_zip]
    exact h i (by omega) (by omega)
  · intro h i h1 h2
    have := h ((l.zip m)[i]'(by rw [List.length_zip]; omega)) (List.getElem_mem _)
    rw [List.getElem_zip] at this
    exact this
theorem fit_fn {θ : Ta} {p t : T} (hv : uvar p = false) : Fit θ p t ↔ p.fn = t.fn ∧ p.args.length = t.args.length ∧ ∀ q ∈ p.args.zip t.args, Fit θ q.1 q.2 := by
  constructor
  · intro h
    cases h with
    | var _ _ h => rw [hv] at h; cases h
    | fn _ _ _ hf hl h => exact ⟨hf, hl, (fit_zip hl).1 h⟩
  · rintro ⟨hf, hl, h⟩
    exact Fit.fn p t hv hf hl ((fit_zip hl).2 h)

def Ext (a b : Ta) : Prop := ∀ x t, a x = some t → b x = some t

theorem fit_ext {a b : Ta} (h : Ext a b) {p t : T} (hf : Fit a p t) : Fit b p t := by
  induction hf with
  | var p t hv h1 => exact .var p t hv (h _ _ h1)
  | fn p t hv hf hl _ ih => exact .fn p t hv hf hl ih

theorem fit_one {a b : Ta} {p t : T} {x : Int} (ha : Fit a p t) (hb : Fit b p t) (hx : Occ x p) : a x = b x := by
  induction ha with
  | var p t hv h1 =>
    cases hx with
    | here _ _ e => rw [← e, h1, (fit_var hv).1 hb]
    | sub _ _ h => rw [hv] at h; cases h
  | fn p t hv hf hl h1 ih =>
    cases hx with
    | here _ h => rw [hv] at h; cases h
    | sub _ y _ hy h =>
      obtain ⟨i, hi, rfl⟩ := List.mem_iff_getElem.1 hy
      have h2 := (fit_zip hl).2 ((fit_fn hv).1 hb).2.2
      exact ih i hi (hl ▸ hi) (h2 i hi (hl ▸ hi)) h

theorem ext_put {τ : Ta} {v : Int} {t : T} (h : τ v = none ∨ τ v = some t) : Ext τ (τ.put v t) := by
  intro x t' hx
  unfold Ta.put
  by_cases e : x = v
  · rw [if_pos e]
    subst e
    rcases h with h | h
    · rw [h] at hx; cases hx
    · rw [h] at hx; exact hx
  · rw [if_neg e]; exact hx

/-- What matching with a stack tells. -/
theorem mrun_says {l : List (T × T)} {τ : Ta} {res : Option Ta} (h : MRun l τ res) :
    (∀ τ', res = some τ' → Ext τ τ' ∧ (∀ q ∈ l, Fit τ' q.1 q.2) ∧ ∀ x, τ' x ≠ none → τ x ≠ none ∨ ∃ q ∈ l, Occ x q.1) ∧
    (res = none → ∀ θ, Ext τ θ → ¬ ∀ q ∈ l, Fit θ q.1 q.2) := by
  induction h with
  | nil τ => exact ⟨fun τ' e => by cases e; exact ⟨fun _ _ h => h, by simp, fun x h => .inl h⟩, fun e => by cases e⟩
  | varOk p t r τ res hp hτ h ih =>
    obtain ⟨ih1, ih2⟩ := ih
    refine ⟨fun τ' e => ?_, fun e θ hθ hall => ?_⟩
    · obtain ⟨h1, h2, h3⟩ := ih1 τ' e
      refine ⟨fun x t' hx => h1 x t' (ext_put hτ x t' hx), fun q hq => ?_, fun x hx => ?_⟩
      · rcases List.mem_cons.1 hq with rfl | hq
        · exact (fit_var hp).2 (h1 _ _ (by simp [Ta.put]))
        · exact h2 q hq
      · rcases h3 x hx with h4 | ⟨q, hq, h4⟩
        · unfold Ta.put at h4
          by_cases e : x = p.v
          · exact .inr ⟨_, List.mem_cons_self, .here p hp e.symm⟩
          · rw [if_neg e] at h4
            exact .inl h4
        · exact .inr ⟨q, List.mem_cons_of_mem _ hq, h4⟩
    · refine ih2 e θ (fun x t' hx => ?_) (fun q hq => hall q (List.mem_cons_of_mem _ hq))
      unfold Ta.put at hx
      by_cases e : x = p.v
      · rw [if_pos e] at hx
        cases hx
        rw [e]
        exact (fit_var hp).1 (hall _ List.mem_cons_self)
      · rw [if_neg e] at hx
        exact hθ x t' hx
  | varNo p t t' r τ hp hτ hne =>
    refine ⟨fun τ' e => (by cases e), fun _ θ hθ hall => ?_⟩
    have h1 := hθ _ _ hτ
    rw [(fit_var hp).1 (hall _ List.mem_cons_self)] at h1
    cases h1
    exact hne rfl
  | fnOk p t r τ res hp hf hl h ih =>
    obtain ⟨ih1, ih2⟩ := ih
    have hmem : ∀ q, q ∈ (p.args.zip t.args).reverse ++ r ↔ q ∈ p.args.zip t.args ∨ q ∈ r := fun q => by rw [List.mem_append, List.mem_reverse]
    refine ⟨fun τ' e => ?_, fun e θ hθ hall => ?_⟩
    · obtain ⟨h1, h2, h3⟩ := ih1 τ' e
      refine ⟨h1, fun q hq => ?_, fun x hx => ?_⟩
      · rcases List.mem_cons.1 hq with rfl | hq
        · exact (fit_fn hp).2 ⟨hf, hl, fun q hq => h2 q ((hmem q).2 (.inl hq))⟩
        · exact h2 q ((hmem q).2 (.inr hq))
      · rcases h3 x hx with h4 | ⟨q, hq, h4⟩
        · exact .inl h4
        · rcases (hmem q).1 hq with hq | hq
          · exact .inr ⟨_, List.mem_cons_self, .sub p q.1 hp (List.of_mem_zip (a := q.1) (b := q.2) hq).1 h4⟩
          · exact .inr ⟨q, List.mem_cons_of_mem _ hq, h4⟩
    · refine ih2 e θ hθ (fun q hq => ?_)
      rcases (hmem q).1 hq with hq | hq
      · exact ((fit_fn hp).1 (hall _ List.mem_cons_self)).2.2 q hq
      · exact hall q (List.mem_cons_of_mem _ hq)
  | fnNo p t r τ hp hf =>
    refine ⟨fun τ' e => (by cases e), fun _ θ hθ hall => ?_⟩
    have h1 := (fit_fn hp).1 (hall _ List.mem_cons_self)
    rcases hf with hf | hf
    · exact hf h1.1
    · exact hf h1.2.1

/-- Of one list of binds: each number once. -/
theorem findB_with {s : List Bd} {x : Bd} (hn : findB s x.1 = none) (z : Int) : findB (withL s x) z = if z = x.1 then some x.2 else findB s z := by
  have hn' : ∀ y ∈ s, y.1 ≠ x.1 := by
    intro y hy e
    unfold findB at hn
    rw [Option.map_eq_none_iff, List.find?_eq_none] at hn
    exact hn y hy (by simpa using e)
  clear hn
  induction s with
  | nil =>
    unfold withL findB
    by_cases e : z = x.1
    · subst e; simp
    · have : ¬ x.1 = z := fun h => e h.symm
      simp [e, this]
  | cons y r ih =>
    have ih' := ih fun q hq => hn' q (List.mem_cons_of_mem _ hq)
    unfold withL
    split
    · rename_i h
      unfold findB at ih' ⊢
      by_cases e : y.1 = z
      · have : ¬ z = x.1 := fun h => hn' y List.mem_cons_self (e.trans h)
        simp [e, this]
      · rw [List.find?_cons_of_neg (by simpa using e), ih']
        by_cases e2 : z = x.1
        · simp [e2]
        · rw [if_neg e2, if_neg e2, List.find?_cons_of_neg (by simpa using e)]
    · unfold findB
      by_cases e : z = x.1
      · subst e; simp
      · have : ¬ x.1 = z := fun h => e h.symm
        rw [if_neg e, List.find?_cons_of_neg (by simpa using this)]

theorem findB_none {s : List Bd} {v : Int} (h : findB s v = none) : ∀ y ∈ s, y.1 ≠ v := by
  intro y hy e
  unfold findB at h
  rw [Option.map_eq_none_iff, List.find?_eq_none] at h
  exact h y hy (by simpa using e)

/-- What the document's match tells. -/
def DSays (p t : T) (s : List Bd) : Prop :=
  (∀ s', dmt p t s = some s' → Ext (findB s) (findB s') ∧ Fit (findB s') p t ∧ (∀ x, findB s' x ≠ none → findB s x ≠ none ∨ Occ x p) ∧ (Rising s → Rising s')) ∧
  (dmt p t s = none → ∀ θ, Ext (findB s) θ → ¬ Fit θ p t)

theorem dms_says : ∀ (l m : List T), l.length = m.length → (∀ a ∈ l, ∀ t s, DSays a t s) → ∀ s,
    (∀ s', dmt.dms l m s = some s' → Ext (findB s) (findB s') ∧ (∀ q ∈ l.zip m, Fit (findB s') q.1 q.2) ∧ (∀ x, findB s' x ≠ none → findB s x ≠ none ∨ ∃ a ∈ l, Occ x a) ∧ (Rising s → Rising s')) ∧
    (dmt.dms l m s = none → ∀ θ, Ext (findB s) θ → ¬ ∀ q ∈ l.zip m, Fit θ q.1 q.2)
  | [], [], _, _, s => by
    refine ⟨fun s' e => ?_, fun e => ?_⟩
    · rw [dms_nil] at e
      cases e
      exact ⟨fun _ _ h => h, by simp, fun x h => .inl h, fun h => h⟩
    · rw [dms_nil] at e
      cases e
  | [], b :: m, h, _, _ => by simp at h
  | a :: l, [], h, _, _ => by simp at h
  | a :: l, b :: m, h, hall, s => by
    have ha := hall a List.mem_cons_self b s
    refine ⟨fun s' e => ?_, fun e θ hθ hf => ?_⟩
    · rw [dms_cons] at e
      obtain ⟨s1, e1, e2⟩ := Option.bind_eq_some_iff.1 e
      obtain ⟨h1, h2, h3, h4⟩ := ha.1 s1 e1
      obtain ⟨k1, k2, k3, k4⟩ := (dms_says l m (by simpa using h) (fun x hx => hall x (List.mem_cons_of_mem _ hx)) s1).1 s' e2
      refine ⟨fun x t hx => k1 x t (h1 x t hx), fun q hq => ?_, fun x hx => ?_, fun hr => k4 (h4 hr)⟩
      · rw [List.zip_cons_cons] at hq
        rcases List.mem_cons.1 hq with rfl | hq
        · exact fit_ext k1 h2
        · exact k2 q hq
      · rcases k3 x hx with k | ⟨y, hy, k⟩
        · rcases h3 x k with k | k
          · exact .inl k
          · exact .inr ⟨a, List.mem_cons_self, k⟩
        · exact .inr ⟨y, List.mem_cons_of_mem _ hy, k⟩
    · rw [dms_cons] at e
      have hfa : Fit θ a b := hf (a, b) (by rw [List.zip_cons_cons]; exact List.mem_cons_self)
      cases e1 : dmt a b s with
      | none => exact ha.2 e1 θ hθ hfa
      | some s1 =>
        rw [e1] at e
        obtain ⟨h1, h2, h3, h4⟩ := ha.1 s1 e1
        refine (dms_says l m (by simpa using h) (fun x hx => hall x (List.mem_cons_of_mem _ hx)) s1).2 e θ (fun x t hx => ?_) (fun q hq => hf q (by rw [List.zip_cons_cons]; exact List.mem_cons_of_mem _ hq))
        rcases h3 x (by rw [hx]; simp) with k | k
        · obtain ⟨t', ht'⟩ := Option.ne_none_iff_exists'.1 k
          have := h1 x t' ht'
          rw [hx] at this
          cases this
          exact hθ x t ht'
        · rw [← fit_one h2 hfa k]
          exact hx

theorem dmt_says (p : T) : ∀ t s, DSays p t s := by
  induction p using T.ind with
  | _ p ih =>
    intro t s
    by_cases hv : uvar p = true
    · cases e : findB s p.v with
      | none =>
        have hd := dm_new (t := t) hv e
        have hw := fun z => findB_with (x := (p.v, t)) e z
        refine ⟨fun s' h => ?_, fun h => by rw [hd] at h; cases h⟩
        rw [hd] at h
        cases h
        refine ⟨fun x t' hx => ?_, (fit_var hv).2 (by rw [hw]; simp), fun x hx => ?_, fun hr => withL_rising hr (findB_none e)⟩
        · rw [hw]
          by_cases k : x = p.v
          · rw [k, e] at hx; cases hx
          · rw [if_neg k]; exact hx
        · rw [hw] at hx
          by_cases k : x = p.v
          · exact .inr (.here p hv k.symm)
          · rw [if_neg k] at hx; exact .inl hx
      | some t' =>
        have hd := dm_found (t := t) hv e
        by_cases k : same t' t = true
        · rw [if_pos k] at hd
          have kk := same_iff.1 k
          refine ⟨fun s' h => ?_, fun h => by rw [hd] at h; cases h⟩
          rw [hd] at h
          cases h
          exact ⟨fun _ _ h => h, (fit_var hv).2 (by rw [e, kk]), fun x h => .inl h, fun h => h⟩
        · rw [if_neg k] at hd
          refine ⟨fun s' h => (by rw [hd] at h; cases h), fun _ θ hθ hf => ?_⟩
          have h1 := hθ _ _ e
          rw [(fit_var hv).1 hf] at h1
          cases h1
          exact k (same_iff.2 rfl)
    · have hv' : uvar p = false := by simpa using hv
      by_cases hf : p.fn = t.fn ∧ p.args.length = t.args.length
      · have hd := dmt_fn (s := s) hv' hf.1 hf.2
        obtain ⟨h1, h2⟩ := dms_says p.args t.args hf.2 (fun a ha t s => ih a ha t s) s
        refine ⟨fun s' h => ?_, fun h θ hθ hfit => ?_⟩
        · rw [hd] at h
          obtain ⟨k1, k2, k3, k4⟩ := h1 s' h
          refine ⟨k1, (fit_fn hv').2 ⟨hf.1, hf.2, k2⟩, fun x hx => ?_, k4⟩
          rcases k3 x hx with k | ⟨a, ha, k⟩
          · exact .inl k
          · exact .inr (.sub p a hv' ha k)
        · rw [hd] at h
          exact h2 h θ hθ ((fit_fn hv').1 hfit).2.2
      · have hd := dmt_no (s := s) hv' (Decidable.or_iff_not_not_and_not.2 fun h => hf ⟨Classical.not_not.1 h.1, Classical.not_not.1 h.2⟩)
        refine ⟨fun s' h => (by rw [hd] at h; cases h), fun _ θ hθ hfit => ?_⟩
        have := (fit_fn hv').1 hfit
        exact hf ⟨this.1, this.2.1⟩

theorem ext_nil (θ : Ta) : Ext (findB []) θ := fun x t h => by cases h
theorem ext_none (θ : Ta) : Ext (fun _ => none) θ := fun x t h => by cases h

/-- Both say no, or both the same. -/
theorem both_match (p t : T) : (mres p t = none ∧ dmt p t [] = none) ∨ ∃ s, mres p t = some (findB s) ∧ dmt p t [] = some s ∧ Rising s := by
  obtain ⟨m1, m2⟩ := mrun_says (mres_run p t)
  obtain ⟨d1, d2⟩ := dmt_says p t []
  cases hm : mres p t with
  | none =>
    cases hd : dmt p t [] with
    | none => exact .inl ⟨rfl, rfl⟩
    | some s =>
      have := (d1 s hd).2.1
      exact absurd (fun q hq => by simp only [List.mem_singleton] at hq; subst hq; exact this) (m2 hm (findB s) (ext_none _))
  | some τ =>
    obtain ⟨k1, k2, k3⟩ := m1 τ hm
    have kf : Fit τ p t := k2 (p, t) List.mem_cons_self
    cases hd : dmt p t [] with
    | none => exact absurd kf (d2 hd τ (ext_nil _))
    | some s =>
      obtain ⟨n1, n2, n3, n4⟩ := d1 s hd
      refine .inr ⟨s, ?_, rfl, n4 (fun i j hj => by simp at hj)⟩
      congr 1
      funext x
      by_cases ho : Occ x p
      · exact fit_one kf n2 ho
      · have e1 : τ x = none := Classical.byContradiction fun h => by
          rcases k3 x h with h | ⟨q, hq, h⟩
          · exact h rfl
          · simp only [List.mem_singleton] at hq; subst hq; exact ho h
        have e2 : findB s x = none := Classical.byContradiction fun h => by
          rcases n3 x h with h | h
          · exact h rfl
          · exact ho h
        rw [e1, e2]

end Go.Proofs.Ytblfbmdnkgebdaa
