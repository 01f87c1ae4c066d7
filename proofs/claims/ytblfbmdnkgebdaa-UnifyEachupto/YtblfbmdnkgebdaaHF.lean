import Derived.Test.YtblfbmdnkgebdaaHC
import Derived.Test.YtblfbmdnkgebdaaPZ

/-
  There is one most general unifier; what Unify answers.
-/
namespace Go.Proofs.Ytblfbmdnkgebdaa
open Go.RowKit Go.Maps

theorem Mgu.symm {a b : T} {τ : Ta} (h : Mgu a b τ) : Mgu b a τ :=
  ⟨fun x => (h.dom x).trans or_comm, h.unif.symm, fun θ hθ => h.gen θ hθ.symm, h.least, h.shp⟩

theorem var_of {t : T} (hs : t.shape = true) (hv : uvar t = true) : t = var t.v := by
  rw [T.eta t, (shape_var hs hv).1]
  have : t.fn = ⟨#[]⟩ := ba_empty.1 (by simpa [uvar] using hv)
  rw [this]
  rfl

theorem occ_back {σ σ' : Int → T} {y : Int} {t : T} (ho : Occ y t) : t.shape = true → (t.app σ').app σ = t → (σ' y).app σ = var y := by
  induction ho with
  | here p hv h =>
    intro hs e
    rw [appV σ' hv, h] at e
    rw [e, var_of hs hv, h]
  | sub p a hv ha _ ih =>
    intro hs e
    have hv2 : uvar (T.mk 0 p.fn (p.args.map (T.app σ'))) = false := by simpa [uvar, T.fn] using hv
    rw [appF σ' hv, appF σ hv2] at e
    have e2 := congrArg T.args e
    have e3 : (p.args.map (T.app σ')).map (T.app σ) = p.args := e2
    rw [List.map_map] at e3
    obtain ⟨l, hl, rfl⟩ := List.getElem_of_mem ha
    refine ih (shapeArg hs hl) ?_
    have e4 : (p.args.map (T.app σ ∘ T.app σ'))[l]? = p.args[l]? := by rw [e3]
    rw [List.getElem?_map, List.getElem?_eq_getElem hl] at e4
    simpa using e4

theorem app_fix {σ : Int → T} (t : T) : t.shape = true → (∀ y, Occ y t → σ y = var y) → t.app σ = t := by
  induction t using T.ind with
  | _ t ih =>
    intro hs h
    cases hv : uvar t with
    | true =>
      rw [appV σ hv, h t.v (.here t hv rfl)]
      exact (var_of hs hv).symm
    | false =>
      rw [appF σ hv]
      obtain ⟨h1, _, h3⟩ := shape_fn hs hv
      have e : t.args.map (T.app σ) = t.args := by
        conv => rhs; rw [← List.map_id t.args]
        exact List.map_congr_left fun a ha => ih a ha (h3 a ha) (fun y hy => h y (.sub t a hv ha hy))
      rw [e, T.eta t, h1]
      rfl

/-- There is but one. -/
theorem mgu_one {a b : T} {τ τ' : Ta} (h : Mgu a b τ) (h' : Mgu a b τ') : τ = τ' := by
  funext x
  cases hx : τ x with
  | none =>
    have : ¬ (τ' x ≠ none) := fun hc => (h.dom x).2 ((h'.dom x).1 hc) hx
    exact (Classical.not_not.1 this).symm
  | some t =>
    have hx' : τ' x = some (τ'.sub x) := sub_some' ((h'.dom x).2 ((h.dom x).1 (by rw [hx]; simp)))
    have e1 := h.gen τ'.sub h'.unif x t hx
    have e2 := h'.gen τ.sub h.unif x _ hx'
    rw [hx']
    congr 1
    rw [← e1]
    refine (app_fix t (h.shp x t hx) fun y hy => ?_).symm
    have e3 : (t.app τ'.sub).app τ.sub = t := by
      rw [e1, e2]
      unfold Ta.sub
      rw [hx]
      rfl
    have b := occ_back hy (h.shp x t hx) e3
    cases hy' : τ' y with
    | none => unfold Ta.sub; rw [hy']; rfl
    | some u =>
      have eu : τ'.sub y = u := by unfold Ta.sub; rw [hy']; rfl
      rw [eu] at b ⊢
      have hu : uvar u = true := by
        cases hu : uvar u with
        | true => rfl
        | false =>
          rw [appF _ hu] at b
          have b2 := congrArg T.fn b
          have b3 : u.fn = ⟨#[]⟩ := b2
          rw [uvar, b3] at hu
          cases hu
      rw [appV _ hu] at b
      have l1 := h'.least y u hy' hu
      have ev : u.v = y := by
        cases hz : τ u.v with
        | none =>
          have : τ.sub u.v = var u.v := by unfold Ta.sub; rw [hz]; rfl
          rw [this] at b
          exact congrArg T.v b
        | some s =>
          have es : τ.sub u.v = s := by unfold Ta.sub; rw [hz]; rfl
          rw [es] at b
          have l2 := h.least u.v s hz (by rw [b]; rfl)
          rw [b] at l2
          have l3 : y ≤ u.v := l2
          omega
      rw [var_of (h'.shp y u hy') hu, ev]
where
  sub_some' {τ : Ta} {x : Int} (h : τ x ≠ none) : τ x = some (τ.sub x) := by
    obtain ⟨t, ht⟩ := Option.ne_none_iff_exists'.1 h
    unfold Ta.sub
    rw [ht]; rfl

open Classical in
noncomputable def uT (a b : T) : Ta := if h : ∃ τ, Mgu a b τ then Classical.choose h else fun _ => none
theorem uT_eq {a b : T} {τ : Ta} (h : Mgu a b τ) : uT a b = τ := by
  have hx : ∃ τ, Mgu a b τ := ⟨τ, h⟩
  unfold uT
  rw [dif_pos hx]
  exact mgu_one (Classical.choose_spec hx) h
theorem uT_symm (a b : T) : uT a b = uT b a := by
  by_cases hx : ∃ τ, Mgu a b τ
  · obtain ⟨τ, h⟩ := hx
    rw [uT_eq h, uT_eq h.symm]
  · have hy : ¬ ∃ τ, Mgu b a τ := fun ⟨τ, h⟩ => hx ⟨τ, h.symm⟩
    unfold uT
    rw [dif_neg hx, dif_neg hy]
open Classical in
noncomputable def uK (τ : Ta) : List Int := if h : ∃ ks, RiseT τ ks then Classical.choose h else []
theorem uK_eq {τ : Ta} {ks : List Int} (h : RiseT τ ks) : uK τ = ks := by
  have hx : ∃ ks, RiseT τ ks := ⟨ks, h⟩
  unfold uK
  rw [dif_pos hx]
  have h2 := Classical.choose_spec hx
  exact rising_eq h2.1 h.1 fun x => by rw [h2.2 x, h.2 x]
/-- Does Unify say yes; its error; its list. -/
def UOk (a b : T) : Prop := (a.rightW = 0 ∧ b.rightW = 0) ∧ (∃ τ, Mgu a b τ) ∧ FitsT (uT a b)
open Classical in
noncomputable def uB (a b : T) : Bool := decide (UOk a b)
open Classical in
noncomputable def uE (a b : T) : Int := if ¬ (a.rightW = 0 ∧ b.rightW = 0) then 1 else if (∃ τ, Mgu a b τ) ∧ ¬ FitsT (uT a b) then 3 else 0
open Classical in
noncomputable def uL (a b : T) : List Bd := if UOk a b then listB (uT a b) (uK (uT a b)) else []

theorem unify_ans {a b : T} {e : Ending} {W : World} (h : UnifyIs a b e W) : ∃ v, e = .returned (.tuple #[v, .bool (uB a b), .int .i64 (uE a b)]) ∧ BindsAt W v (uL a b) := by
  unfold uB uE uL UOk
  rcases h with ⟨h1, rfl⟩ | ⟨h1, h2, rfl⟩ | ⟨h1, τ, hM, (⟨⟨x, t, hx, hn⟩, rfl⟩ | ⟨hf, v, ks, rfl, h3, h4⟩)⟩
  · exact ⟨.slice none 0 0, by simp [h1], by simp [h1]; exact binds_nil W⟩
  · have hno : ¬ ∃ τ, Mgu a b τ := fun ⟨τ, hM⟩ => h2 _ hM.unif
    exact ⟨.slice none 0 0, by simp [h1, hno], by simp [hno]; exact binds_nil W⟩
  · have hex : ∃ τ, Mgu a b τ := ⟨τ, hM⟩
    have hnf : ¬ FitsT (uT a b) := by rw [uT_eq hM]; exact fun hf => hn (hf x t hx)
    exact ⟨.slice none 0 0, by simp [h1, hex, hnf], by simp [hnf]; exact binds_nil W⟩
  · have hex : ∃ τ, Mgu a b τ := ⟨τ, hM⟩
    have hf' : FitsT (uT a b) := by rw [uT_eq hM]; exact hf
    refine ⟨v, by simp [h1, hex, hf'], ?_⟩
    rw [if_pos ⟨h1, hex, hf'⟩, uT_eq hM, uK_eq h3]
    exact h4

theorem uok_symm {a b : T} : UOk a b ↔ UOk b a := by
  unfold UOk
  rw [uT_symm a b]
  constructor
  · rintro ⟨h1, ⟨τ, h2⟩, h3⟩; exact ⟨h1.symm, ⟨τ, h2.symm⟩, h3⟩
  · rintro ⟨h1, ⟨τ, h2⟩, h3⟩; exact ⟨h1.symm, ⟨τ, h2.symm⟩, h3⟩
theorem u_symm (a b : T) : uB a b = uB b a ∧ uE a b = uE b a ∧ uL a b = uL b a := by
  have hm : (∃ τ, Mgu a b τ) ↔ ∃ τ, Mgu b a τ := ⟨fun ⟨τ, h⟩ => ⟨τ, h.symm⟩, fun ⟨τ, h⟩ => ⟨τ, h.symm⟩⟩
  have hr : (a.rightW = 0 ∧ b.rightW = 0) ↔ (b.rightW = 0 ∧ a.rightW = 0) := and_comm
  refine ⟨?_, ?_, ?_⟩
  · unfold uB
    by_cases h : UOk a b
    · have h' := uok_symm.1 h; simp [h, h']
    · have h' : ¬ UOk b a := fun h' => h (uok_symm.2 h'); simp [h, h']
  · unfold uE
    rw [uT_symm a b]
    by_cases h : a.rightW = 0 ∧ b.rightW = 0
    · rw [if_neg (show ¬ ¬ (a.rightW = 0 ∧ b.rightW = 0) from fun hc => hc h), if_neg (show ¬ ¬ (b.rightW = 0 ∧ a.rightW = 0) from fun hc => hc (hr.1 h))]
      by_cases q : (∃ τ, Mgu a b τ) ∧ ¬ FitsT (uT b a)
      · rw [if_pos q, if_pos ⟨hm.1 q.1, q.2⟩]
      · rw [if_neg q, if_neg (fun q' => q ⟨hm.2 q'.1, q'.2⟩)]
    · have h' : ¬ (b.rightW = 0 ∧ a.rightW = 0) := fun h' => h (hr.2 h')
      rw [if_pos h, if_pos h']
  · unfold uL
    rw [uT_symm a b]
    by_cases h : UOk a b
    · rw [if_pos h, if_pos (uok_symm.1 h)]
    · rw [if_neg h, if_neg (fun h' => h (uok_symm.2 h'))]

theorem occ_bound {x : Int} {t : T} (h : Occ x t) : t.shape = true → 0 ≤ x ∧ x < 1000000 := by
  induction h with
  | here p hv e => intro hs; have := shape_var hs hv; omega
  | sub p a hv ha _ ih => intro hs; exact ih ((shape_fn hs hv).2.2 a ha)
theorem var_shape {x : Int} (h : 0 ≤ x ∧ x < 1000000) : (var x).shape = true := by
  rw [T.shape_eq, if_pos (by rfl)]
  simp [var, T.v, T.args, h.1, h.2]

/-- A term with itself. -/
theorem u_self {a : T} (h : a.rightW = 0) : uB a a = true ∧ uE a a = 0 ∧ uL a a = [] := by
  classical
  have hs := right_shape h
  have hM : Mgu a a (fun x => if Occ x a then some (var x) else none) := by
    refine ⟨fun x => ?_, rfl, fun θ _ x t hx => ?_, fun x t hx hv => ?_, fun x t hx => ?_⟩
    · by_cases ho : Occ x a <;> simp [ho]
    · by_cases ho : Occ x a
      · simp [ho] at hx; subst hx; exact var_app x θ
      · simp [ho] at hx
    · by_cases ho : Occ x a
      · simp [ho] at hx; subst hx; exact Int.le_refl _
      · simp [ho] at hx
    · by_cases ho : Occ x a
      · simp [ho] at hx; subst hx; exact var_shape (occ_bound ho hs)
      · simp [ho] at hx
  have hf : FitsT (uT a a) := by
    rw [uT_eq hM]
    intro x t hx
    by_cases ho : Occ x a
    · simp [ho] at hx; subst hx; have := var_size x; omega
    · simp [ho] at hx
  have hok : UOk a a := ⟨⟨h, h⟩, ⟨_, hM⟩, hf⟩
  refine ⟨by unfold uB; simp [hok], ?_, ?_⟩
  · unfold uE; simp [h, hf]
  · unfold uL
    rw [if_pos hok, uT_eq hM]
    unfold listB
    rw [List.filterMap_eq_nil_iff]
    intro k _
    unfold bindOf
    by_cases ho : Occ k a
    · simp [ho]
      exact ⟨rfl, rfl⟩
    · simp [ho]

end Go.Proofs.Ytblfbmdnkgebdaa

/-
  What Match tells makes the pattern the term: mathematics.
-/
namespace Go.Proofs.Ytblfbmdnkgebdaa
open Go.RowKit Go.Maps

/-- Right, without the machine's numbers. -/
structure OkT (t : T) : Prop where
  shape : t.shape = true
  size : t.size ≤ 4000
  depth : t.depth ≤ 60

theorem depth_arg {t : T} {l : Nat} (hl : l < t.args.length) : t.args[l].depth < t.depth := by
  rw [T.depth_eq t]
  have key : ∀ (q : List T) (x : T) (m : Int), x ∈ q → x.depth ≤ (q.map T.depth).foldl max m := by
    intro q
    induction q with
    | nil => intro x m hx; cases hx
    | cons a r ih =>
      intro x m hx
      simp only [List.map_cons, List.foldl_cons]
      rcases List.mem_cons.1 hx with rfl | hx
      · have := fmax_ge (r.map T.depth) (max m x.depth); omega
      · exact ih x _ hx
  have := key t.args t.args[l] 0 (List.getElem_mem hl)
  omega

theorem OkT.arg {t : T} (h : OkT t) {l : Nat} (hl : l < t.args.length) : OkT t.args[l] := by
  have h1 := nn_arg hl
  have h2 := T.nn_size t
  have h3 := T.nn_size t.args[l]
  have h4 := depth_arg hl
  exact ⟨shapeArg h.shape hl, by have := h.size; omega, by have := h.depth; omega⟩

theorem ok_of {t : T} (h : t.rightW = 0) (hs : t.size ≤ 1048576) : OkT t := by
  have hsh := right_shape h
  obtain ⟨_, hn⟩ := right_zero h hs
  have h2 := T.nn_size t
  have hd : t.depth ≤ t.size := by
    have key : ∀ t : T, t.depth ≤ t.size := by
      intro t
      induction t using T.ind with
      | _ t ih =>
        rw [T.depth_eq, T.size_eq]
        have : ∀ (q : List T) (m : Int), (∀ a ∈ q, a.depth ≤ a.size) → 0 ≤ m → (q.map T.depth).foldl max m ≤ m + (q.map T.size).sum := by
          intro q
          induction q with
          | nil => intro m _ _; simp
          | cons a r ihr =>
            intro m hq hm
            simp only [List.map_cons, List.foldl_cons, List.sum_cons]
            have h1 := hq a List.mem_cons_self
            have h2 := size_ge a
            have h3 := ihr (max m a.depth) (fun x hx => hq x (List.mem_cons_of_mem _ hx)) (by omega)
            have h4 : 0 ≤ (r.map T.size).sum := by
              clear h3 ihr hq
              induction r with
              | nil => simp
              | cons b s ihs => have := size_ge b; simp only [List.map_cons, List.sum_cons]; omega
            omega
        have := this t.args 0 ih (Int.le_refl _)
        omega
    exact key t
  have hdw := depthW_small t (by omega)
  refine ⟨hsh, by omega, ?_⟩
  unfold T.rightW at h
  rw [if_neg (by rw [hsh]; simp)] at h
  by_cases e : 60 < t.depthW
  · rw [if_pos e] at h; omega
  · rw [hdw] at e; omega

theorem OkT.right {t : T} (h : OkT t) : t.rightW = 0 := by
  have h1 := h.size
  have h2 := h.depth
  have h3 := size_ge t
  have hdw := depthW_small t (by omega)
  unfold T.rightW
  rw [if_neg (by rw [h.shape]; simp), if_neg (by rw [hdw]; omega), if_neg (by unfold wrap64; omega)]
theorem OkT.rt {t : T} (h : OkT t) : Rt t := ⟨h.shape, h.size, h.depth, (short_of t (by have := h.size; omega)).1⟩
theorem OkT.fits {t : T} (h : OkT t) : fitsW t = 0 := by
  unfold fitsW
  rw [if_neg (by have := h.depth; omega), if_neg (by have := h.size; omega)]

theorem find_list {τ : Ta} {n : Int} : ∀ {ks : List Int}, ks.Pairwise (· < ·) → ((ks.filterMap (bindOf τ)).find? fun b => decide (b.1 = n)) = if n ∈ ks then bindOf τ n else none
  | [], _ => by simp
  | k :: r, h => by
    obtain ⟨h1, h2⟩ := List.pairwise_cons.1 h
    have ih := find_list (τ := τ) (n := n) h2
    by_cases e : n = k
    · subst e
      have hn : n ∉ r := fun hm => by have := h1 n hm; omega
      rw [if_pos List.mem_cons_self]
      rw [if_neg hn] at ih
      cases hb : bindOf τ n with
      | none => rw [List.filterMap_cons_none hb]; exact ih
      | some x =>
        have : x.1 = n := by
          unfold bindOf at hb
          split at hb
          · split at hb
            · cases hb
            · cases hb; rfl
          · cases hb
        rw [List.filterMap_cons_some hb, List.find?_cons, decide_eq_true this]
    · have e2 : (n ∈ k :: r) ↔ n ∈ r := by simp [e]
      cases hb : bindOf τ k with
      | none => rw [List.filterMap_cons_none hb, ih]; simp only [e2]
      | some x =>
        have hx : x.1 = k := by
          unfold bindOf at hb
          split at hb
          · split at hb
            · cases hb
            · cases hb; rfl
          · cases hb
        rw [List.filterMap_cons_some hb, List.find?_cons, decide_eq_false (by rw [hx]; exact fun h => e h.symm), ih]
        simp only [e2]

/-- The list does what τ does. -/
theorem img_list {τ : Ta} {ks : List Int} (hk : RiseT τ ks) (hs : ∀ x t, τ x = some t → t.shape = true) : img (listB τ ks) = τ.sub := by
  funext n
  unfold img listB
  rw [find_list hk.1]
  by_cases hn : n ∈ ks
  · rw [if_pos hn]
    obtain ⟨t, ht⟩ := Option.ne_none_iff_exists'.1 ((hk.2 n).1 hn)
    unfold Ta.sub
    rw [ht]
    unfold bindOf
    rw [ht]
    by_cases h : uvar t = true ∧ t.v = n
    · simp only [h, and_self, if_true]
      show var n = t
      rw [var_of (hs n t ht) h.1, h.2]
    · simp only [if_neg h]
      rfl
  · rw [if_neg hn]
    have : τ n = none := Classical.byContradiction fun h => hn ((hk.2 n).2 h)
    unfold Ta.sub
    rw [this]
    rfl

theorem fit_app {τ : Ta} {p t : T} (h : Fit τ p t) : t.shape = true → p.app τ.sub = t := by
  induction h with
  | var p t hv h => intro _; rw [appV _ hv]; unfold Ta.sub; rw [h]; rfl
  | fn p t hv hf hl h ih =>
    intro hs
    have hv' : uvar t = false := by rw [← uvar_congr hf]; exact hv
    rw [appF _ hv, T.eta t, (shape_fn hs hv').1, hf]
    congr 1
    refine List.ext_getElem (by rw [List.length_map, hl]) fun i h1 h2 => ?_
    rw [List.getElem_map]
    rw [List.length_map] at h1
    exact ih i h1 h2 (shapeArg hs h2)

theorem fit_part {τ : Ta} {x : Int} {p : T} (ho : Occ x p) : ∀ {t u : T}, Fit τ p t → τ x = some u → OkT t → OkT u := by
  induction ho with
  | here p hv h =>
    intro t u hf hx hk
    rw [fit_var hv, h, hx] at hf
    cases hf
    exact hk
  | sub p a hv ha _ ih =>
    intro t u hf hx hk
    cases hf with
    | var _ _ hv' _ => rw [hv] at hv'; cases hv'
    | fn _ _ _ hff hl h =>
      obtain ⟨i, hi, rfl⟩ := List.getElem_of_mem ha
      exact ih (h i hi (by omega)) hx (hk.arg (by omega))

theorem nodup_le : ∀ {l m : List Int}, l.Nodup → (∀ x ∈ l, x ∈ m) → l.length ≤ m.length
  | [], _, _, _ => by simp
  | a :: r, m, h, hs => by
    obtain ⟨h1, h2⟩ := List.nodup_cons.1 h
    have ha := hs a List.mem_cons_self
    have := nodup_le (l := r) (m := m.erase a) h2 (fun x hx => (List.mem_erase_of_ne (fun e => h1 (by first | (rw [← e]; exact hx) | (rw [e]; exact hx) | (subst e; exact hx)))).2 (hs x (List.mem_cons_of_mem _ hx)))
    rw [List.length_erase_of_mem ha] at this
    have : 0 < m.length := List.length_pos_of_mem ha
    simp only [List.length_cons]
    omega

/-- The variables of a term, as they stand. -/
def T.vl : T → List Int
  | .mk v fn args => if fn.size = 0 then [v] else vls args
where vls : List T → List Int
  | [] => []
  | a :: r => T.vl a ++ vls r
theorem T.vls_eq : ∀ l : List T, T.vl.vls l = l.flatMap T.vl
  | [] => rfl
  | a :: r => by simp [T.vl.vls, T.vls_eq r]
theorem T.vl_eq (t : T) : t.vl = if t.fn.size = 0 then [t.v] else t.args.flatMap T.vl := by
  cases t with
  | mk v fn args => simp [T.vl, T.v, T.fn, T.args, T.vls_eq]
theorem occ_vl {x : Int} {t : T} (h : Occ x t) : x ∈ t.vl := by
  induction h with
  | here p hv e => rw [T.vl_eq, if_pos (uvar_iff.1 hv)]; simp [e]
  | sub p a hv ha _ ih => rw [T.vl_eq, if_neg (fun h => by rw [uvar_iff.2 h] at hv; cases hv)]; exact List.mem_flatMap.2 ⟨a, ha, ih⟩
theorem vl_len (t : T) : t.vl.length ≤ t.nn := by
  induction t using T.ind with
  | _ t ih =>
    rw [T.vl_eq, T.nn_eq]
    split
    · simp
    · have : ∀ q : List T, (∀ a ∈ q, a.vl.length ≤ a.nn) → (q.flatMap T.vl).length ≤ (q.map T.nn).sum := by
        intro q
        induction q with
        | nil => intro _; simp
        | cons a r ihr =>
          intro hq
          have h1 := hq a List.mem_cons_self
          have h2 := ihr fun x hx => hq x (List.mem_cons_of_mem _ hx)
          simp only [List.flatMap_cons, List.length_append, List.map_cons, List.sum_cons]
          omega
      have := this t.args ih
      omega

theorem list_mem {τ : Ta} {ks : List Int} {x : Bd} (h : x ∈ listB τ ks) : x.1 ∈ ks ∧ τ x.1 = some x.2 ∧ ¬ (uvar x.2 = true ∧ x.2.v = x.1) := by
  unfold listB at h
  obtain ⟨k, hk, hb⟩ := List.mem_filterMap.1 h
  unfold bindOf at hb
  split at hb
  · rename_i t ht
    split at hb
    · cases hb
    · rename_i hn
      cases hb
      exact ⟨hk, ht, hn⟩
  · cases hb
theorem list_rise {τ : Ta} {ks : List Int} (h : ks.Pairwise (· < ·)) : (listB τ ks).Pairwise fun a b => a.1 < b.1 := by
  unfold listB
  rw [List.pairwise_filterMap]
  refine h.imp fun {a b} hab x hx y hy => ?_
  have e1 : x.1 = a := by
    unfold bindOf at hx
    split at hx
    · split at hx
      · cases hx
      · cases hx; rfl
    · cases hx
  have e2 : y.1 = b := by
    unfold bindOf at hy
    split at hy
    · split at hy
      · cases hy
      · cases hy; rfl
    · cases hy
  omega

/-- A list of binds of such terms, of few variables, is a substitution. -/
theorem list_sub {τ : Ta} {ks : List Int} (hk : RiseT τ ks) (hd : ∀ x, τ x ≠ none → 0 ≤ x ∧ x < 1000000) (ho : ∀ x t, τ x = some t → OkT t) (hl : (listB τ ks).length ≤ 4000) : Sb (listB τ ks) := by
  have hr := list_rise (τ := τ) hk.1
  refine ⟨⟨hl, fun j hj => ?_⟩, fun x hx => (ho x.1 x.2 (list_mem hx).2.1).rt⟩
  obtain ⟨h1, h2, h3⟩ := list_mem (List.getElem_mem hj)
  have hb := hd _ (by rw [h2]; simp)
  have hprv : prv (listB τ ks) j < (listB τ ks)[j].1 := by
    cases j with
    | zero => show (-1 : Int) < _; omega
    | succ j =>
      rw [prv_succ _ j (by omega)]
      exact List.pairwise_iff_getElem.1 hr j (j + 1) (by omega) hj (by omega)
  unfold okb own1
  simp only [Bool.and_eq_true, decide_eq_true_eq, Bool.not_eq_true', Bool.and_eq_false_iff, decide_eq_false_iff_not]
  refine ⟨⟨⟨hprv, hb.2⟩, ?_⟩, (ho _ _ h2).right⟩
  by_cases hv : (listB τ ks)[j].2.fn.size = 0
  · exact .inr fun e => h3 ⟨uvar_iff.2 hv, e⟩
  · exact .inl hv

/-- What Match tells: a substitution that makes the pattern the term. -/
theorem match_sub {a b : T} {τ : Ta} {ks : List Int} (ha : OkT a) (hb : OkT b) (hm : mres a b = some τ) (hk : RiseT τ ks) : Sb (listB τ ks) ∧ a.app (img (listB τ ks)) = b := by
  obtain ⟨_, k2, k3⟩ := (mrun_says (mres_run a b)).1 τ hm
  have kf : Fit τ a b := k2 (a, b) List.mem_cons_self
  have kd : ∀ x, τ x ≠ none → Occ x a := fun x h => by
    rcases k3 x h with h | ⟨q, hq, h⟩
    · exact absurd rfl h
    · simp only [List.mem_singleton] at hq; subst hq; exact h
  have hok : ∀ x t, τ x = some t → OkT t := fun x t hx => fit_part (kd x (by rw [hx]; simp)) kf hx hb
  refine ⟨list_sub hk (fun x hx => occ_bound (kd x hx) ha.shape) hok ?_, ?_⟩
  · have h1 := listB_len τ ks
    have h2 := nodup_le (l := ks) (m := a.vl) (hk.1.imp (fun h => by omega)) (fun x hx => occ_vl (kd x ((hk.2 x).1 hx)))
    have h3 := vl_len a
    have h4 := T.nn_size a
    have h5 := ha.size
    omega
  · rw [img_list hk (fun x t hx => (hok x t hx).shape)]
    exact fit_app kf hb.shape

end Go.Proofs.Ytblfbmdnkgebdaa
