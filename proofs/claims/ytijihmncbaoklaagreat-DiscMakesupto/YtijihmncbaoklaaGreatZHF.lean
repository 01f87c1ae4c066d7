import Derived.Test.YtijihmncbaoklaaGreatZSL

/-
  Both tell the same: mathematics.
-/
namespace Go.Proofs.YtijihmncbaoklaaGreat
open Go.RowKit Go.Maps

/-- θ makes p the term t. -/
inductive Fit (θ : Ta) : T → T → Prop
  | var (p t : T) (hv : uvar p = true) (h : θ p.v = some t) : Fit θ p t
  | fn (p t : T) (hv : uvar p = false) (hf : p.fn = t.fn) (hl : p.args.length = t.args.length) (h : ∀ i (h1 : i < p.args.length) (h2 : i < t.args.length), Fit θ p.args[i] t.args[i]) : Fit θ p t

/-- The variable stands in the term. -/
inductive Occ (x : Int) : T → Prop
  | here (p : T) (hv : uvar p = true) (h : p.v = x) : Occ x p
  | sub (p a : T) (hv : uvar p = false) (ha : a ∈ p.args) (h : Occ x a) : Occ x p

theorem fit_var {θ : Ta} {p t : T} (hv : uvar p = true) : Fit θ p t ↔ θ p.v = some t := by
  constructor
  · intro h
    cases h with
    | var _ _ _ h => exact h
    | fn _ _ h => rw [hv] at h; cases h
  · exact Fit.var p t hv
theorem fit_zip {θ : Ta} {l m : List T} (hl : l.length = m.length) : (∀ i (h1 : i < l.length) (h2 : i < m.length), Fit θ l[i] m[i]) ↔ ∀ q ∈ l.zip m, Fit θ q.1 q.2 := by
  constructor
  · intro h q hq
    obtain ⟨i, hi, rfl⟩ := List.mem_iff_getElem.1 hq
    rw [List.length_zip] at hi
    rw [List.getElem_zip]
    exact h i (by omega) (by omega)
  · intro h i h1 h2
    have := h ((l.zip m)[i]'(by rw [List.length_zip]; omega)) (List.getElem_mem _)
    rw [List.getElem_zip] at this
    exact this
theorem fit_fn {θ : Ta} {p t : T} (hv : uvar p = false) : Fit θ p t ↔ p.fn = t.fn ∧ p.args.length = t.args.length ∧ ∀ q ∈ p.args.zip t.args, Fit θ q.1 q.2 := by
  constructor
  · intro h
    cases h with
    | var _ _ h => rw [hv] at h; cases h
    | fn _ _ _ hf hl h => exact ⟨hf, hl, (fit_zip hl).1 h⟩
  · rintro ⟨hf, hl, h⟩
    exact Fit.fn p t hv hf hl ((fit_zip hl).2 h)

def Ext (a b : Ta) : Prop := ∀ x t, a x = some t → b x = some t

theorem fit_ext {a b : Ta} (h : Ext a b) {p t : T} (hf : Fit a p t) : Fit b p t := by
  induction hf with
  | var p t hv h1 => exact .var p t hv (h _ _ h1)
  | fn p t hv hf hl _ ih => exact .fn p t hv hf hl ih

theorem fit_one {a b : Ta} {p t : T} {x : Int} (ha : Fit a p t) (hb : Fit b p t) (hx : Occ x p) : a x = b x := by
  induction ha with
  | var p t hv h1 =>
    cases hx with
    | here _ _ e => rw [← e, h1, (fit_var hv).1 hb]
    | sub _ _ h => rw [hv] at h; cases h
  | fn p t hv hf hl h1 ih =>
    cases hx with
    | here _ h => rw [hv] at h; cases h
    | sub _ y _ hy h =>
      obtain ⟨i, hi, rfl⟩ := List.mem_iff_getElem.1 hy
      have h2 := (fit_zip hl).2 ((fit_fn hv).1 hb).2.2
      exact ih i hi (hl ▸ hi) (h2 i hi (hl ▸ hi)) h

theorem ext_put {τ : Ta} {v : Int} {t : T} (h : τ v = none ∨ τ v = some t) : Ext τ (τ.put v t) := by
  intro x t' hx
  unfold Ta.put
  by_cases e : x = v
  · rw [if_pos e]
    subst e
    rcases h with h | h
    · rw [h] at hx; cases hx
    · rw [h] at hx; exact hx
  · rw [if_neg e]; exact hx

/-- What matching with a stack tells. -/
theorem mrun_says {l : List (T × T)} {τ : Ta} {res : Option Ta} (h : MRun l τ res) :
    (∀ τ', res = some τ' → Ext τ τ' ∧ (∀ q ∈ l, Fit τ' q.1 q.2) ∧ ∀ x, τ' x ≠ none → τ x ≠ none ∨ ∃ q ∈ l, Occ x q.1) ∧
    (res = none → ∀ θ, Ext τ θ → ¬ ∀ q ∈ l, Fit θ q.1 q.2) := by
  induction h with
  | nil τ => exact ⟨fun τ' e => by cases e; exact ⟨fun _ _ h => h, by simp, fun x h => .inl h⟩, fun e => by cases e⟩
  | varOk p t r τ res hp hτ h ih =>
    obtain ⟨ih1, ih2⟩ := ih
    refine ⟨fun τ' e => ?_, fun e θ hθ hall => ?_⟩
    · obtain ⟨h1, h2, h3⟩ := ih1 τ' e
      refine ⟨fun x t' hx => h1 x t' (ext_put hτ x t' hx), fun q hq => ?_, fun x hx => ?_⟩
      · rcases List.mem_cons.1 hq with rfl | hq
        · exact (fit_var hp).2 (h1 _ _ (by simp [Ta.put]))
        · exact h2 q hq
      · rcases h3 x hx with h4 | ⟨q, hq, h4⟩
        · unfold Ta.put at h4
          by_cases e : x = p.v
          · exact .inr ⟨_, List.mem_cons_self, .here p hp e.symm⟩
          · rw [if_neg e] at h4
            exact .inl h4
        · exact .inr ⟨q, List.mem_cons_of_mem _ hq, h4⟩
    · refine ih2 e θ (fun x t' hx => ?_) (fun q hq => hall q (List.mem_cons_of_mem _ hq))
      unfold Ta.put at hx
      by_cases e : x = p.v
      · rw [if_pos e] at hx
        cases hx
        rw [e]
        exact (fit_var hp).1 (hall _ List.mem_cons_self)
      · rw [if_neg e] at hx
        exact hθ x t' hx
  | varNo p t t' r τ hp hτ hne =>
    refine ⟨fun τ' e => (by cases e), fun _ θ hθ hall => ?_⟩
    have h1 := hθ _ _ hτ
    rw [(fit_var hp).1 (hall _ List.mem_cons_self)] at h1
    cases h1
    exact hne rfl
  | fnOk p t r τ res hp hf hl h ih =>
    obtain ⟨ih1, ih2⟩ := ih
    have hmem : ∀ q, q ∈ (p.args.zip t.args).reverse ++ r ↔ q ∈ p.args.zip t.args ∨ q ∈ r := fun q => by rw [List.mem_append, List.mem_reverse]
    refine ⟨fun τ' e => ?_, fun e θ hθ hall => ?_⟩
    · obtain ⟨h1, h2, h3⟩ := ih1 τ' e
      refine ⟨h1, fun q hq => ?_, fun x hx => ?_⟩
      · rcases List.mem_cons.1 hq with rfl | hq
        · exact (fit_fn hp).2 ⟨hf, hl, fun q hq => h2 q ((hmem q).2 (.inl hq))⟩
        · exact h2 q ((hmem q).2 (.inr hq))
      · rcases h3 x hx with h4 | ⟨q, hq, h4⟩
        · exact .inl h4
        · rcases (hmem q).1 hq with hq | hq
          · exact .inr ⟨_, List.mem_cons_self, .sub p q.1 hp (List.of_mem_zip (a := q.1) (b := q.2) hq).1 h4⟩
          · exact .inr ⟨q, List.mem_cons_of_mem _ hq, h4⟩
    · refine ih2 e θ hθ (fun q hq => ?_)
      rcases (hmem q).1 hq with hq | hq
      · exact ((fit_fn hp).1 (hall _ List.mem_cons_self)).2.2 q hq
      · exact hall q (List.mem_cons_of_mem _ hq)
  | fnNo p t r τ hp hf =>
    refine ⟨fun τ' e => (by cases e), fun _ θ hθ hall => ?_⟩
    have h1 := (fit_fn hp).1 (hall _ List.mem_cons_self)
    rcases hf with hf | hf
    · exact hf h1.1
    · exact hf h1.2.1

theorem ext_none (θ : Ta) : Ext (fun _ => none) θ := fun x t h => by cases h

end Go.Proofs.YtijihmncbaoklaaGreat

/-
  Shapes and instances: mathematics.
-/
namespace Go.Proofs.YtijihmncbaoklaaGreat
open Go.RowKit Go.Maps

theorem shape_var {t : T} (h : t.shape = true) (hv : uvar t = true) : t.args = [] ∧ 0 ≤ t.v ∧ t.v < 1000000 := by
  rw [t.shape_eq, if_pos (by simpa [uvar] using hv)] at h
  simp at h
  exact ⟨h.2, h.1.1, h.1.2⟩
theorem shape_fn5 {t : T} (h : t.shape = true) (hv : uvar t = false) : t.v = 0 ∧ t.args.length ≤ 16 ∧ ∀ c ∈ t.args, c.shape = true := by
  rw [t.shape_eq, if_neg (by simpa [uvar] using hv)] at h
  simp at h
  exact ⟨h.1.1.1, h.1.2, h.2⟩
theorem shapeArg {t : T} (h : t.shape = true) {l : Nat} (hl : l < t.args.length) : t.args[l].shape = true := by
  cases hv : uvar t with
  | true => have := (shape_var h hv).1; rw [this] at hl; cases hl
  | false => exact (shape_fn5 h hv).2.2 _ (List.getElem_mem hl)
theorem appV {t : T} (θ : Int → T) (h : uvar t = true) : t.app θ = θ t.v := by
  rw [T.app_eq, if_pos (by simpa [uvar] using h)]
theorem appF {t : T} (θ : Int → T) (h : uvar t = false) : t.app θ = .mk 0 t.fn (t.args.map (T.app θ)) := by
  rw [T.app_eq, if_neg (by simpa [uvar] using h)]

theorem fmax_ge : ∀ (l : List Int) (m : Int), m ≤ l.foldl max m
  | [], m => Int.le_refl _
  | a :: r, m => by have := fmax_ge r (max m a); simp only [List.foldl_cons]; omega
theorem size_ge (t : T) : 1 ≤ t.size := by have := T.nn_size t; have := T.nn_pos t; omega
theorem nn_arg {t : T} {l : Nat} (hl : l < t.args.length) : t.args[l].nn < t.nn := by
  rw [T.nn_eq t]
  have : ∀ (q : List T) (x : T), x ∈ q → x.nn ≤ (q.map T.nn).sum := by
    intro q
    induction q with
    | nil => intro x hx; cases hx
    | cons a r ih =>
      intro x hx
      simp only [List.map_cons, List.sum_cons]
      rcases List.mem_cons.1 hx with rfl | hx
      · omega
      · have := ih x hx; omega
  have := this t.args t.args[l] (List.getElem_mem hl)
  omega

end Go.Proofs.YtijihmncbaoklaaGreat

/-
  The most general unifier: what is told of it.
-/
namespace Go.Proofs.YtijihmncbaoklaaGreat
open Go.RowKit Go.Maps

/-- What stands for a variable; itself, if nothing does. -/
def Ta.sub (τ : Ta) : Int → T := fun x => (τ x).getD (var x)

end Go.Proofs.YtijihmncbaoklaaGreat

/-
  Variants: mathematics.
-/
namespace Go.Proofs.YtijihmncbaoklaaGreat
open Go.RowKit Go.Maps

theorem uvar_iff {p : T} : uvar p = true ↔ p.fn.size = 0 := by simp [uvar]
theorem uvar_congr {p t : T} (h : p.fn = t.fn) : uvar p = uvar t := by unfold uvar; rw [h]

end Go.Proofs.YtijihmncbaoklaaGreat

/-
  There is one most general unifier; what Unify answers.
-/
namespace Go.Proofs.YtijihmncbaoklaaGreat
open Go.RowKit Go.Maps

theorem var_of {t : T} (hs : t.shape = true) (hv : uvar t = true) : t = var t.v := by
  rw [T.eta t, (shape_var hs hv).1]
  have : t.fn = ⟨#[]⟩ := ba_empty.1 (by simpa [uvar] using hv)
  rw [this]
  rfl

open Classical in
open Classical in
open Classical in
open Classical in
open Classical in
theorem occ_bound {x : Int} {t : T} (h : Occ x t) : t.shape = true → 0 ≤ x ∧ x < 1000000 := by
  induction h with
  | here p hv e => intro hs; have := shape_var hs hv; omega
  | sub p a hv ha _ ih => intro hs; exact ih ((shape_fn5 hs hv).2.2 a ha)
theorem var_shape {x : Int} (h : 0 ≤ x ∧ x < 1000000) : (var x).shape = true := by
  rw [T.shape_eq, if_pos (by rfl)]
  simp [var, T.v, T.args, h.1, h.2]

end Go.Proofs.YtijihmncbaoklaaGreat

/-
  What Match tells makes the pattern the term: mathematics.
-/
namespace Go.Proofs.YtijihmncbaoklaaGreat
open Go.RowKit Go.Maps

/-- Right, without the machine's numbers. -/
structure OkT (t : T) : Prop where
  shape : t.shape = true
  size : t.size ≤ 4000
  depth : t.depth ≤ 60

theorem depth_arg {t : T} {l : Nat} (hl : l < t.args.length) : t.args[l].depth < t.depth := by
  rw [T.depth_eq t]
  have key : ∀ (q : List T) (x : T) (m : Int), x ∈ q → x.depth ≤ (q.map T.depth).foldl max m := by
    intro q
    induction q with
    | nil => intro x m hx; cases hx
    | cons a r ih =>
      intro x m hx
      simp only [List.map_cons, List.foldl_cons]
      rcases List.mem_cons.1 hx with rfl | hx
      · have := fmax_ge (r.map T.depth) (max m x.depth); omega
      · exact ih x _ hx
  have := key t.args t.args[l] 0 (List.getElem_mem hl)
  omega

theorem OkT.arg {t : T} (h : OkT t) {l : Nat} (hl : l < t.args.length) : OkT t.args[l] := by
  have h1 := nn_arg hl
  have h2 := T.nn_size t
  have h3 := T.nn_size t.args[l]
  have h4 := depth_arg hl
  exact ⟨shapeArg h.shape hl, by have := h.size; omega, by have := h.depth; omega⟩

theorem ok_of {t : T} (h : t.rightW = 0) (hs : t.size ≤ 1048576) : OkT t := by
  have hsh := right_shape h
  obtain ⟨_, hn⟩ := right_zero h hs
  have h2 := T.nn_size t
  have hd : t.depth ≤ t.size := by
    have key : ∀ t : T, t.depth ≤ t.size := by
      intro t
      induction t using T.ind with
      | _ t ih =>
        rw [T.depth_eq, T.size_eq]
        have : ∀ (q : List T) (m : Int), (∀ a ∈ q, a.depth ≤ a.size) → 0 ≤ m → (q.map T.depth).foldl max m ≤ m + (q.map T.size).sum := by
          intro q
          induction q with
          | nil => intro m _ _; simp
          | cons a r ihr =>
            intro m hq hm
            simp only [List.map_cons, List.foldl_cons, List.sum_cons]
            have h1 := hq a List.mem_cons_self
            have h2 := size_ge a
            have h3 := ihr (max m a.depth) (fun x hx => hq x (List.mem_cons_of_mem _ hx)) (by omega)
            have h4 : 0 ≤ (r.map T.size).sum := by
              clear h3 ihr hq
              induction r with
              | nil => simp
              | cons b s ihs => have := size_ge b; simp only [List.map_cons, List.sum_cons]; omega
            omega
        have := this t.args 0 ih (Int.le_refl _)
        omega
    exact key t
  have hdw := depthW_small t (by omega)
  refine ⟨hsh, by omega, ?_⟩
  unfold T.rightW at h
  rw [if_neg (by rw [hsh]; simp)] at h
  by_cases e : 60 < t.depthW
  · rw [if_pos e] at h; omega
  · rw [hdw] at e; omega

theorem OkT.right {t : T} (h : OkT t) : t.rightW = 0 := by
  have h1 := h.size
  have h2 := h.depth
  have h3 := size_ge t
  have hdw := depthW_small t (by omega)
  unfold T.rightW
  rw [if_neg (by rw [h.shape]; simp), if_neg (by rw [hdw]; omega), if_neg (by unfold wrap64; omega)]
theorem OkT.rt {t : T} (h : OkT t) : Rt t := ⟨h.shape, h.size, h.depth, (short_of t (by have := h.size; omega)).1⟩
theorem find_list {τ : Ta} {n : Int} : ∀ {ks : List Int}, ks.Pairwise (· < ·) → ((ks.filterMap (bindOf τ)).find? fun b => decide (b.1 = n)) = if n ∈ ks then bindOf τ n else none
  | [], _ => by simp
  | k :: r, h => by
    obtain ⟨h1, h2⟩ := List.pairwise_cons.1 h
    have ih := find_list (τ := τ) (n := n) h2
    by_cases e : n = k
    · subst e
      have hn : n ∉ r := fun hm => by have := h1 n hm; omega
      rw [if_pos List.mem_cons_self]
      rw [if_neg hn] at ih
      cases hb : bindOf τ n with
      | none => rw [List.filterMap_cons_none hb]; exact ih
      | some x =>
        have : x.1 = n := by
          unfold bindOf at hb
          split at hb
          · split at hb
            · cases hb
            · cases hb; rfl
          · cases hb
        rw [List.filterMap_cons_some hb, List.find?_cons, decide_eq_true this]
    · have e2 : (n ∈ k :: r) ↔ n ∈ r := by simp [e]
      cases hb : bindOf τ k with
      | none => rw [List.filterMap_cons_none hb, ih]; simp only [e2]
      | some x =>
        have hx : x.1 = k := by
          unfold bindOf at hb
          split at hb
          · split at hb
            · cases hb
            · cases hb; rfl
          · cases hb
        rw [List.filterMap_cons_some hb, List.find?_cons, decide_eq_false (by rw [hx]; exact fun h => e h.symm), ih]
        simp only [e2]

/-- The list does what τ does. -/
theorem img_list {τ : Ta} {ks : List Int} (hk : RiseT τ ks) (hs : ∀ x t, τ x = some t → t.shape = true) : img (listB τ ks) = τ.sub := by
  funext n
  unfold img listB
  rw [find_list hk.1]
  by_cases hn : n ∈ ks
  · rw [if_pos hn]
    obtain ⟨t, ht⟩ := Option.ne_none_iff_exists'.1 ((hk.2 n).1 hn)
    unfold Ta.sub
    rw [ht]
    unfold bindOf
    rw [ht]
    by_cases h : uvar t = true ∧ t.v = n
    · simp only [h, and_self, if_true]
      show var n = t
      rw [var_of (hs n t ht) h.1, h.2]
    · simp only [if_neg h]
      rfl
  · rw [if_neg hn]
    have : τ n = none := Classical.byContradiction fun h => hn ((hk.2 n).2 h)
    unfold Ta.sub
    rw [this]
    rfl

theorem fit_app {τ : Ta} {p t : T} (h : Fit τ p t) : t.shape = true → p.app τ.sub = t := by
  induction h with
  | var p t hv h => intro _; rw [appV _ hv]; unfold Ta.sub; rw [h]; rfl
  | fn p t hv hf hl h ih =>
    intro hs
    have hv' : uvar t = false := by rw [← uvar_congr hf]; exact hv
    rw [appF _ hv, T.eta t, (shape_fn5 hs hv').1, hf]
    congr 1
    refine List.ext_getElem (by rw [List.length_map, hl]) fun i h1 h2 => ?_
    rw [List.getElem_map]
    rw [List.length_map] at h1
    exact ih i h1 h2 (shapeArg hs h2)

theorem fit_part {τ : Ta} {x : Int} {p : T} (ho : Occ x p) : ∀ {t u : T}, Fit τ p t → τ x = some u → OkT t → OkT u := by
  induction ho with
  | here p hv h =>
    intro t u hf hx hk
    rw [fit_var hv, h, hx] at hf
    cases hf
    exact hk
  | sub p a hv ha _ ih =>
    intro t u hf hx hk
    cases hf with
    | var _ _ hv' _ => rw [hv] at hv'; cases hv'
    | fn _ _ _ hff hl h =>
      obtain ⟨i, hi, rfl⟩ := List.getElem_of_mem ha
      exact ih (h i hi (by omega)) hx (hk.arg (by omega))

theorem nodup_le : ∀ {l m : List Int}, l.Nodup → (∀ x ∈ l, x ∈ m) → l.length ≤ m.length
  | [], _, _, _ => by simp
  | a :: r, m, h, hs => by
    obtain ⟨h1, h2⟩ := List.nodup_cons.1 h
    have ha := hs a List.mem_cons_self
    have := nodup_le (l := r) (m := m.erase a) h2 (fun x hx => (List.mem_erase_of_ne (fun e => h1 (by first | (rw [← e]; exact hx) | (rw [e]; exact hx) | (subst e; exact hx)))).2 (hs x (List.mem_cons_of_mem _ hx)))
    rw [List.length_erase_of_mem ha] at this
    have : 0 < m.length := List.length_pos_of_mem ha
    simp only [List.length_cons]
    omega

/-- The variables of a term, as they stand. -/
def T.vl : T → List Int
  | .mk v fn args => if fn.size = 0 then [v] else vls args
where vls : List T → List Int
  | [] => []
  | a :: r => T.vl a ++ vls r
theorem T.vls_eq : ∀ l : List T, T.vl.vls l = l.flatMap T.vl
  | [] => rfl
  | a :: r => by simp [T.vl.vls, T.vls_eq r]
theorem T.vl_eq (t : T) : t.vl = if t.fn.size = 0 then [t.v] else t.args.flatMap T.vl := by
  cases t with
  | mk v fn args => simp [T.vl, T.v, T.fn, T.args, T.vls_eq]
theorem occ_vl {x : Int} {t : T} (h : Occ x t) : x ∈ t.vl := by
  induction h with
  | here p hv e => rw [T.vl_eq, if_pos (uvar_iff.1 hv)]; simp [e]
  | sub p a hv ha _ ih => rw [T.vl_eq, if_neg (fun h => by rw [uvar_iff.2 h] at hv; cases hv)]; exact List.mem_flatMap.2 ⟨a, ha, ih⟩
theorem vl_len (t : T) : t.vl.length ≤ t.nn := by
  induction t using T.ind with
  | _ t ih =>
    rw [T.vl_eq, T.nn_eq]
    split
    · simp
    · have : ∀ q : List T, (∀ a ∈ q, a.vl.length ≤ a.nn) → (q.flatMap T.vl).length ≤ (q.map T.nn).sum := by
        intro q
        induction q with
        | nil => intro _; simp
        | cons a r ihr =>
          intro hq
          have h1 := hq a List.mem_cons_self
          have h2 := ihr fun x hx => hq x (List.mem_cons_of_mem _ hx)
          simp only [List.flatMap_cons, List.length_append, List.map_cons, List.sum_cons]
          omega
      have := this t.args ih
      omega

theorem list_mem {τ : Ta} {ks : List Int} {x : Bd} (h : x ∈ listB τ ks) : x.1 ∈ ks ∧ τ x.1 = some x.2 ∧ ¬ (uvar x.2 = true ∧ x.2.v = x.1) := by
  unfold listB at h
  obtain ⟨k, hk, hb⟩ := List.mem_filterMap.1 h
  unfold bindOf at hb
  split at hb
  · rename_i t ht
    split at hb
    · cases hb
    · rename_i hn
      cases hb
      exact ⟨hk, ht, hn⟩
  · cases hb
theorem list_rise {τ : Ta} {ks : List Int} (h : ks.Pairwise (· < ·)) : (listB τ ks).Pairwise fun a b => a.1 < b.1 := by
  unfold listB
  rw [List.pairwise_filterMap]
  refine h.imp fun {a b} hab x hx y hy => ?_
  have e1 : x.1 = a := by
    unfold bindOf at hx
    split at hx
    · split at hx
      · cases hx
      · cases hx; rfl
    · cases hx
  have e2 : y.1 = b := by
    unfold bindOf at hy
    split at hy
    · split at hy
      · cases hy
      · cases hy; rfl
    · cases hy
  omega

/-- A list of binds of such terms, of few variables, is a substitution. -/
theorem list_sub {τ : Ta} {ks : List Int} (hk : RiseT τ ks) (hd : ∀ x, τ x ≠ none → 0 ≤ x ∧ x < 1000000) (ho : ∀ x t, τ x = some t → OkT t) (hl : (listB τ ks).length ≤ 4000) : Sb (listB τ ks) := by
  have hr := list_rise (τ := τ) hk.1
  refine ⟨⟨hl, fun j hj => ?_⟩, fun x hx => (ho x.1 x.2 (list_mem hx).2.1).rt⟩
  obtain ⟨h1, h2, h3⟩ := list_mem (List.getElem_mem hj)
  have hb := hd _ (by rw [h2]; simp)
  have hprv : prv (listB τ ks) j < (listB τ ks)[j].1 := by
    cases j with
    | zero => show (-1 : Int) < _; omega
    | succ j =>
      rw [prv_succ _ j (by omega)]
      exact List.pairwise_iff_getElem.1 hr j (j + 1) (by omega) hj (by omega)
  unfold okb own1
  simp only [Bool.and_eq_true, decide_eq_true_eq, Bool.not_eq_true', Bool.and_eq_false_iff, decide_eq_false_iff_not]
  refine ⟨⟨⟨hprv, hb.2⟩, ?_⟩, (ho _ _ h2).right⟩
  by_cases hv : (listB τ ks)[j].2.fn.size = 0
  · exact .inr fun e => h3 ⟨uvar_iff.2 hv, e⟩
  · exact .inl hv

/-- What Match tells: a substitution that makes the pattern the term. -/
theorem match_sub {a b : T} {τ : Ta} {ks : List Int} (ha : OkT a) (hb : OkT b) (hm : mres a b = some τ) (hk : RiseT τ ks) : Sb (listB τ ks) ∧ a.app (img (listB τ ks)) = b := by
  obtain ⟨_, k2, k3⟩ := (mrun_says (mres_run a b)).1 τ hm
  have kf : Fit τ a b := k2 (a, b) List.mem_cons_self
  have kd : ∀ x, τ x ≠ none → Occ x a := fun x h => by
    rcases k3 x h with h | ⟨q, hq, h⟩
    · exact absurd rfl h
    · simp only [List.mem_singleton] at hq; subst hq; exact h
  have hok : ∀ x t, τ x = some t → OkT t := fun x t hx => fit_part (kd x (by rw [hx]; simp)) kf hx hb
  refine ⟨list_sub hk (fun x hx => occ_bound (kd x hx) ha.shape) hok ?_, ?_⟩
  · have h1 := listB_len τ ks
    have h2 := nodup_le (l := ks) (m := a.vl) (hk.1.imp (fun h => by omega)) (fun x hx => occ_vl (kd x ((hk.2 x).1 hx)))
    have h3 := vl_len a
    have h4 := T.nn_size a
    have h5 := ha.size
    omega
  · rw [img_list hk (fun x t hx => (hok x t hx).shape)]
    exact fit_app kf hb.shape

end Go.Proofs.YtijihmncbaoklaaGreat
