import Derived.Test.YtblfbmdnkgebdaaHC
import Derived.Test.YtblfbmdnkgebdaaPZ
import Derived.Test.YtblfbmdnkgebdaaHD
import Derived.Test.YtblfbmdnkgebdaaQB
import Derived.Test.YtblfbmdnkgebdaaSZ

/-
  There is one most general unifier; what Unify answers.
-/
namespace Go.Proofs.Ytblfbmdnkgebdaa
open Go.RowKit Go.Maps

theorem Mgu.symm {a b : T} {τ : Ta} (h : Mgu a b τ) : Mgu b a τ :=
  ⟨fun x => (h.dom x).trans or_comm, h.unif.symm, fun θ hθ => h.gen θ hθ.symm, h.least, h.shp⟩

theorem var_of {t : T} (hs : t.shape = true) (hv : uvar t = true) : t = var t.v := by
  rw [T.eta t, (shape_var hs hv).1]
  have : t.fn = ⟨#[]⟩ := ba_empty.1 (by simpa [uvar] using hv)
  rw [this]
  rfl

theorem occ_back {σ σ' : Int → T} {y : Int} {t : T} (ho : Occ y t) : t.shape = true → (t.app σ').app σ = t → (σ' y).app σ = var y := by
  induction ho with
  | here p hv h =>
    intro hs e
    rw [appV σ' hv, h] at e
    rw [e, var_of hs hv, h]
  | sub p a hv ha _ ih =>
    intro hs e
    have hv2 : uvar (T.mk 0 p.fn (p.args.map (T.app σ'))) = false := by simpa [uvar, T.fn] using hv
    rw [appF σ' hv, appF σ hv2] at e
    have e2 := congrArg T.args e
    have e3 : (p.args.map (T.app σ')).map (T.app σ) = p.args := e2
    rw [List.map_map] at e3
    obtain ⟨l, hl, rfl⟩ := List.getElem_of_mem ha
    refine ih (shapeArg hs hl) ?_
    have e4 : (p.args.map (T.app σ ∘ T.app σ'))[l]? = p.args[l]? := by rw [e3]
    rw [List.getElem?_map, List.getElem?_eq_getElem hl] at e4
    simpa using e4

theorem app_fix {σ : Int → T} (t : T) : t.shape = true → (∀ y, Occ y t → σ y = var y) → t.app σ = t := by
  induction t using T.ind with
  | _ t ih =>
    intro hs h
    cases hv : uvar t with
    | true =>
      rw [appV σ hv, h t.v (.here t hv rfl)]
      exact (var_of hs hv).symm
    | false =>
      rw [appF σ hv]
      obtain ⟨h1, _, h3⟩ := shape_fn hs hv
      have e : t.args.map (T.app σ) = t.args := by
        conv => rhs; rw [← List.map_id t.args]
        exact List.map_congr_left fun a ha => ih a ha (h3 a ha) (fun y hy => h y (.sub t a hv ha hy))
      rw [e, T.eta t, h1]
      rfl

/-- There is but one. -/
theorem mgu_one {a b : T} {τ τ' : Ta} (h : Mgu a b τ) (h' : Mgu a b τ') : τ = τ' := by
  funext x
  cases hx : τ x with
  | none =>
    have : ¬ (τ' x ≠ none) := fun hc => (h.dom x).2 ((h'.dom x).1 hc) hx
    exact (Classical.not_not.1 this).symm
  | some t =>
    have hx' : τ' x = some (τ'.sub x) := sub_some' ((h'.dom x).2 ((h.dom x).1 (by rw [hx]; simp)))
    have e1 := h.gen τ'.sub h'.unif x t hx
    have e2 := h'.gen τ.sub h.unif x _ hx'
    rw [hx']
    congr 1
    rw [← e1]
    refine (app_fix t (h.shp x t hx) fun y hy => ?_).symm
    have e3 : (t.app τ'.sub).app τ.sub = t := by
      rw [e1, e2]
      unfold Ta.sub
      rw [hx]
      rfl
    have b := occ_back hy (h.shp x t hx) e3
    cases hy' : τ' y with
    | none => unfold Ta.sub; rw [hy']; rfl
    | some u =>
      have eu : τ'.sub y = u := by unfold Ta.sub; rw [hy']; rfl
      rw [eu] at b ⊢
      have hu : uvar u = true := by
        cases hu : uvar u with
        | true => rfl
        | false =>
          rw [appF _ hu] at b
          have b2 := congrArg T.fn b
          have b3 : u.fn = ⟨#[]⟩ := b2
          rw [uvar, b3] at hu
          cases hu
      rw [appV _ hu] at b
      have l1 := h'.least y u hy' hu
      have ev : u.v = y := by
        cases hz : τ u.v with
        | none =>
          have : τ.sub u.v = var u.v := by unfold Ta.sub; rw [hz]; rfl
          rw [this] at b
          exact congrArg T.v b
        | some s =>
          have es : τ.sub u.v = s := by unfold Ta.sub; rw [hz]; rfl
          rw [es] at b
          have l2 := h.least u.v s hz (by rw [b]; rfl)
          rw [b] at l2
          have l3 : y ≤ u.v := l2
          omega
      rw [var_of (h'.shp y u hy') hu, ev]
where
  sub_some' {τ : Ta} {x : Int} (h : τ x ≠ none) : τ x = some (τ.sub x) := by
    obtain ⟨t, ht⟩ := Option.ne_none_iff_exists'.1 h
    unfold Ta.sub
    rw [ht]; rfl

open Classical in
noncomputable def uT (a b : T) : Ta := if h : ∃ τ, Mgu a b τ then Classical.choose h else fun _ => none
theorem uT_eq {a b : T} {τ : Ta} (h : Mgu a b τ) : uT a b = τ := by
  have hx : ∃ τ, Mgu a b τ := ⟨τ, h⟩
  unfold uT
  rw [dif_pos hx]
  exact mgu_one (Classical.choose_spec hx) h
theorem uT_symm (a b : T) : uT a b = uT b a := by
  by_cases hx : ∃ τ, Mgu a b τ
  · obtain ⟨τ, h⟩ := hx
    rw [uT_eq h, uT_eq h.symm]
  · have hy : ¬ ∃ τ, Mgu b a τ := fun ⟨τ, h⟩ => hx ⟨τ, h.symm⟩
    unfold uT
    rw [dif_neg hx, dif_neg hy]
open Classical in
noncomputable def uK (τ : Ta) : List Int := if h : ∃ ks, RiseT τ ks then Classical.choose h else []
theorem uK_eq {τ : Ta} {ks : List Int} (h : RiseT τ ks) : uK τ = ks := by
  have hx : ∃ ks, RiseT τ ks := ⟨ks, h⟩
  unfold uK
  rw [dif_pos hx]
  have h2 := Classical.choose_spec hx
  exact rising_eq h2.1 h.1 fun x => by rw [h2.2 x, h.2 x]
/-- Does Unify say yes; its error; its list. -/
def UOk (a b : T) : Prop := (a.rightW = 0 ∧ b.rightW = 0) ∧ (∃ τ, Mgu a b τ) ∧ FitsT (uT a b)
open Classical in
noncomputable def uB (a b : T) : Bool := decide (UOk a b)
open Classical in
noncomputable def uE (a b : T) : Int := if ¬ (a.rightW = 0 ∧ b.rightW = 0) then 1 else if (∃ τ, Mgu a b τ) ∧ ¬ FitsT (uT a b) then 3 else 0
open Classical in
noncomputable def uL (a b : T) : List Bd := if UOk a b then listB (uT a b) (uK (uT a b)) else []

theorem unify_ans {a b : T} {e : Ending} {W : World} (h : UnifyIs a b e W) : ∃ v, e = .returned (.tuple #[v, .bool (uB a b), .int .i64 (uE a b)]) ∧ BindsAt W v (uL a b) := by
  unfold uB uE uL UOk
  rcases h with ⟨h1, rfl⟩ | ⟨h1, h2, rfl⟩ | ⟨h1, τ, hM, (⟨⟨x, t, hx, hn⟩, rfl⟩ | ⟨hf, v, ks, rfl, h3, h4⟩)⟩
  · exact ⟨.slice none 0 0, by simp [h1], by simp [h1]; exact binds_nil W⟩
  · have hno : ¬ ∃ τ, Mgu a b τ := fun ⟨τ, hM⟩ => h2 _ hM.unif
    exact ⟨.slice none 0 0, by simp [h1, hno], by simp [hno]; exact binds_nil W⟩
  · have hex : ∃ τ, Mgu a b τ := ⟨τ, hM⟩
    have hnf : ¬ FitsT (uT a b) := by rw [uT_eq hM]; exact fun hf => hn (hf x t hx)
    exact ⟨.slice none 0 0, by simp [h1, hex, hnf], by simp [hnf]; exact binds_nil W⟩
  · have hex : ∃ τ, Mgu a b τ := ⟨τ, hM⟩
    have hf' : FitsT (uT a b) := by rw [uT_eq hM]; exact hf
    refine ⟨v, by simp [h1, hex, hf'], ?_⟩
    rw [if_pos ⟨h1, hex, hf'⟩, uT_eq hM, uK_eq h3]
    exact h4

theorem uok_symm {a b : T} : UOk a b ↔ UOk b a := by
  unfold UOk
  rw [uT_symm a b]
  constructor
  · rintro ⟨h1, ⟨τ, h2⟩, h3⟩; exact ⟨h1.symm, ⟨τ, h2.symm⟩, h3⟩
  · rintro ⟨h1, ⟨τ, h2⟩, h3⟩; exact ⟨h1.symm, ⟨τ, h2.symm⟩, h3⟩
theorem u_symm (a b : T) : uB a b = uB b a ∧ uE a b = uE b a ∧ uL a b = uL b a := by
  have hm : (∃ τ, Mgu a b τ) ↔ ∃ τ, Mgu b a τ := ⟨fun ⟨τ, h⟩ => ⟨τ, h.symm⟩, fun ⟨τ, h⟩ => ⟨τ, h.symm⟩⟩
  have hr : (a.rightW = 0 ∧ b.rightW = 0) ↔ (b.rightW = 0 ∧ a.rightW = 0) := and_comm
  refine ⟨?_, ?_, ?_⟩
  · unfold uB
    by_cases h : UOk a b
    · have h' := uok_symm.1 h; simp [h, h']
    · have h' : ¬ UOk b a := fun h' => h (uok_symm.2 h'); simp [h, h']
  · unfold uE
    rw [uT_symm a b]
    by_cases h : a.rightW = 0 ∧ b.rightW = 0
    · rw [if_neg (show ¬ ¬ (a.rightW = 0 ∧ b.rightW = 0) from fun hc => hc h), if_neg (show ¬ ¬ (b.rightW = 0 ∧ a.rightW = 0) from fun hc => hc (hr.1 h))]
      by_cases q : (∃ τ, Mgu a b τ) ∧ ¬ FitsT (uT b a)
      · rw [if_pos q, if_pos ⟨hm.1 q.1, q.2⟩]
      · rw [if_neg q, if_neg (fun q' => q ⟨hm.2 q'.1, q'.2⟩)]
    · have h' : ¬ (b.rightW = 0 ∧ a.rightW = 0) := fun h' => h (hr.2 h')
      rw [if_pos h, if_pos h']
  · unfold uL
    rw [uT_symm a b]
    by_cases h : UOk a b
    · rw [if_pos h, if_pos (uok_symm.1 h)]
    · rw [if_neg h, if_neg (fun h' => h (uok_symm.2 h'))]

theorem occ_bound {x : Int} {t : T} (h : Occ x t) : t.shape = true → 0 ≤ x ∧ x < 1000000 := by
  induction h with
  | here p hv e => intro hs; have := shape_var hs hv; omega
  | sub p a hv ha _ ih => intro hs; exact ih ((shape_fn hs hv).2.2 a ha)
theorem var_shape {x : Int} (h : 0 ≤ x ∧ x < 1000000) : (var x).shape = true := by
  rw [T.shape_eq, if_pos (by rfl)]
  simp [var, T.v, T.args, h.1, h.2]

/-- A term with itself. -/
theorem u_self {a : T} (h : a.rightW = 0) : uB a a = true ∧ uE a a = 0 ∧ uL a a = [] := by
  classical
  have hs := right_shape h
  have hM : Mgu a a (fun x => if Occ x a then some (var x) else none) := by
    refine ⟨fun x => ?_, rfl, fun θ _ x t hx => ?_, fun x t hx hv => ?_, fun x t hx => ?_⟩
    · by_cases ho : Occ x a <;> simp [ho]
    · by_cases ho : Occ x a
      · simp [ho] at hx; subst hx; exact var_app x θ
      · simp [ho] at hx
    · by_cases ho : Occ x a
      · simp [ho] at hx; subst hx; exact Int.le_refl _
      · simp [ho] at hx
    · by_cases ho : Occ x a
      · simp [ho] at hx; subst hx; exact var_shape (occ_bound ho hs)
      · simp [ho] at hx
  have hf : FitsT (uT a a) := by
    rw [uT_eq hM]
    intro x t hx
    by_cases ho : Occ x a
    · simp [ho] at hx; subst hx; have := var_size x; omega
    · simp [ho] at hx
  have hok : UOk a a := ⟨⟨h, h⟩, ⟨_, hM⟩, hf⟩
  refine ⟨by unfold uB; simp [hok], ?_, ?_⟩
  · unfold uE; simp [h, hf]
  · unfold uL
    rw [if_pos hok, uT_eq hM]
    unfold listB
    rw [List.filterMap_eq_nil_iff]
    intro k _
    unfold bindOf
    by_cases ho : Occ k a
    · simp [ho]
      exact ⟨rfl, rfl⟩
    · simp [ho]

end Go.Proofs.Ytblfbmdnkgebdaa

/-
  What Match tells makes the pattern the term: mathematics.
-/
namespace Go.Proofs.Ytblfbmdnkgebdaa
open Go.RowKit Go.Maps

/-- Right, without the machine's numbers. -/
structure OkT (t : T) : Prop where
  shape : t.shape = true
  size : t.size ≤ 4000
  depth : t.depth ≤ 60

theorem depth_arg {t : T} {l : Nat} (hl : l < t.args.length) : t.args[l].depth < t.depth := by
  rw [T.depth_eq t]
  have key : ∀ (q : List T) (x : T) (m : Int), x ∈ q → x.depth ≤ (q.map T.depth).foldl max m := by
    intro q
    induction q with
    | nil => intro x m hx; cases hx
    | cons a r ih =>
      intro x m hx
      simp only [List.map_cons, List.foldl_cons]
      rcases List.mem_cons.1 hx with rfl | hx
      · have := fmax_ge (r.map T.depth) (max m x.depth); omega
      · exact ih x _ hx
  have := key t.args t.args[l] 0 (List.getElem_mem hl)
  omega

theorem OkT.arg {t : T} (h : OkT t) {l : Nat} (hl : l < t.args.length) : OkT t.args[l] := by
  have h1 := nn_arg hl
  have h2 := T.nn_size t
  have h3 := T.nn_size t.args[l]
  have h4 := depth_arg hl
  exact ⟨shapeArg h.shape hl, by have := h.size; omega, by have := h.depth; omega⟩

theorem ok_of {t : T} (h : t.rightW = 0) (hs : t.size ≤ 1048576) : OkT t := by
  have hsh := right_shape h
  obtain ⟨_, hn⟩ := right_zero h hs
  have h2 := T.nn_size t
  have hd : t.depth ≤ t.size := by
    have key : ∀ t : T, t.depth ≤ t.size := by
      intro t
      induction t using T.ind with
      | _ t ih =>
        rw [T.depth_eq, T.size_eq]
        have : ∀ (q : List T) (m : Int), (∀ a ∈ q, a.depth ≤ a.size) → 0 ≤ m → (q.map T.depth).foldl max m ≤ m + (q.map T.size).sum := by
          intro q
          induction q with
          | nil => intro m _ _; simp
          | cons a r ihr =>
            intro m hq hm
            simp only [List.map_cons, List.foldl_cons, List.sum_cons]
            have h1 := hq a List.mem_cons_self
            have h2 := size_ge a
            have h3 := ihr (max m a.depth) (fun x hx => hq x (List.mem_cons_of_mem _ hx)) (by omega)
            have h4 : 0 ≤ (r.map T.size).sum := by
              clear h3 ihr hq
              induction r with
              | nil => simp
              | cons b s ihs => have := size_ge b; simp only [List.map_cons, List.sum_cons]; omega
            omega
        have := this t.args 0 ih (Int.le_refl _)
        omega
    exact key t
  have hdw := depthW_small t (by omega)
  refine ⟨hsh, by omega, ?_⟩
  unfold T.rightW at h
  rw [if_neg (by rw [hsh]; simp)] at h
  by_cases e : 60 < t.depthW
  · rw [if_pos e] at h; omega
  · rw [hdw] at e; omega

theorem OkT.right {t : T} (h : OkT t) : t.rightW = 0 := by
  have h1 := h.size
  have h2 := h.depth
  have h3 := size_ge t
  have hdw := depthW_small t (by omega)
  unfold T.rightW
  rw [if_neg (by rw [h.shape]; simp), if_neg (by rw [hdw]; omega), if_neg (by unfold wrap64; omega)]
theorem OkT.rt {t : T} (h : OkT t) : Rt t := ⟨h.shape, h.size, h.depth, (short_of t (by have := h.size; omega)).1⟩
theorem OkT.fits {t : T} (h : OkT t) : fitsW t = 0 := by
  unfold fitsW
  rw [if_neg (by have := h.depth; omega), if_neg (by have := h.size; omega)]

theorem find_list {τ : Ta} {n : Int} : ∀ {ks : List Int}, ks.Pairwise (· < ·) → ((ks.filterMap (bindOf τ)).find? fun b => decide (b.1 = n)) = if n ∈ ks then bindOf τ n else none
  | [], _ => by simp
  | k :: r, h => by
    obtain ⟨h1, h2⟩ := List.pairwise_cons.1 h
    have ih := find_list (τ := τ) (n := n) h2
    by_cases e : n = k
    · subst e
      have hn : n ∉ r := fun hm => by have := h1 n hm; omega
      rw [if_pos List.mem_cons_self]
      rw [if_neg hn] at ih
      cases hb : bindOf τ n with
      | none => rw [List.filterMap_cons_none hb]; exact ih
      | some x =>
        have : x.1 = n := by
          unfold bindOf at hb
          split at hb
          · split at hb
            · cases hb
            · cases hb; rfl
          · cases hb
        rw [List.filterMap_cons_some hb, List.find?_cons, decide_eq_true this]
    · have e2 : (n ∈ k :: r) ↔ n ∈ r := by simp [e]
      cases hb : bindOf τ k with
      | none => rw [List.filterMap_cons_none hb, ih]; simp only [e2]
      | some x =>
        have hx : x.1 = k := by
          unfold bindOf at hb
          split at hb
          · split at hb
            · cases hb
            · cases hb; rfl
          · cases hb
        rw [List.filterMap_cons_some hb, List.find?_cons, decide_eq_false (by rw [hx]; exact fun h => e h.symm), ih]
        simp only [e2]

/-- The list does what τ does. -/
theorem img_list {τ : Ta} {ks : List Int} (hk : RiseT τ ks) (hs : ∀ x t, τ x = some t → t.shape = true) : img (listB τ ks) = τ.sub := by
  funext n
  unfold img listB
  rw [find_list hk.1]
  by_cases hn : n ∈ ks
  · rw [if_pos hn]
    obtain ⟨t, ht⟩ := Option.ne_none_iff_exists'.1 ((hk.2 n).1 hn)
    unfold Ta.sub
    rw [ht]
    unfold bindOf
    rw [ht]
    by_cases h : uvar t = true ∧ t.v = n
    · simp only [h, and_self, if_true]
      show var n = t
      rw [var_of (hs n t ht) h.1, h.2]
    · simp only [if_neg h]
      rfl
  · rw [if_neg hn]
    have : τ n = none := Classical.byContradiction fun h => hn ((hk.2 n).2 h)
    unfold Ta.sub
    rw [this]
    rfl

theorem fit_app {τ : Ta} {p t : T} (h : Fit τ p t) : t.shape = true → p.app τ.sub = t := by
  induction h with
  | var p t hv h => intro _; rw [appV _ hv]; unfold Ta.sub; rw [h]; rfl
  | fn p t hv hf hl h ih =>
    intro hs
    have hv' : uvar t = false := by rw [← uvar_congr hf]; exact hv
    rw [appF _ hv, T.eta t, (shape_fn hs hv').1, hf]
    congr 1
    refine List.ext_getElem (by rw [List.length_map, hl]) fun i h1 h2 => ?_
    rw [List.getElem_map]
    rw [List.length_map] at h1
    exact ih i h1 h2 (shapeArg hs h2)

theorem fit_part {τ : Ta} {x : Int} {p : T} (ho : Occ x p) : ∀ {t u : T}, Fit τ p t → τ x = some u → OkT t → OkT u := by
  induction ho with
  | here p hv h =>
    intro t u hf hx hk
    rw [fit_var hv, h, hx] at hf
    cases hf
    exact hk
  | sub p a hv ha _ ih =>
    intro t u hf hx hk
    cases hf with
    | var _ _ hv' _ => rw [hv] at hv'; cases hv'
    | fn _ _ _ hff hl h =>
      obtain ⟨i, hi, rfl⟩ := List.getElem_of_mem ha
      exact ih (h i hi (by omega)) hx (hk.arg (by omega))

theorem nodup_le : ∀ {l m : List Int}, l.Nodup → (∀ x ∈ l, x ∈ m) → l.length ≤ m.length
  | [], _, _, _ => by simp
  | a :: r, m, h, hs => by
    obtain ⟨h1, h2⟩ := List.nodup_cons.1 h
    have ha := hs a List.mem_cons_self
    have := nodup_le (l := r) (m := m.erase a) h2 (fun x hx => (List.mem_erase_of_ne (fun e => h1 (by first | (rw [← e]; exact hx) | (rw [e]; exact hx) | (subst e; exact hx)))).2 (hs x (List.mem_cons_of_mem _ hx)))
    rw [List.length_erase_of_mem ha] at this
    have : 0 < m.length := List.length_pos_of_mem ha
    simp only [List.length_cons]
    omega

/-- The variables of a term, as they stand. -/
def T.vl : T → List Int
  | .mk v fn args => if fn.size = 0 then [v] else vls args
where vls : List T → List Int
  | [] => []
  | a :: r => T.vl a ++ vls r
theorem T.vls_eq : ∀ l : List T, T.vl.vls l = l.flatMap T.vl
  | [] => rfl
  | a :: r => by simp [T.vl.vls, T.vls_eq r]
theorem T.vl_eq (t : T) : t.vl = if t.fn.size = 0 then [t.v] else t.args.flatMap T.vl := by
  cases t with
  | mk v fn args => simp [T.vl, T.v, T.fn, T.args, T.vls_eq]
theorem occ_vl {x : Int} {t : T} (h : Occ x t) : x ∈ t.vl := by
  induction h with
  | here p hv e => rw [T.vl_eq, if_pos (uvar_iff.1 hv)]; simp [e]
  | sub p a hv ha _ ih => rw [T.vl_eq, if_neg (fun h => by rw [uvar_iff.2 h] at hv; cases hv)]; exact List.mem_flatMap.2 ⟨a, ha, ih⟩
theorem vl_len (t : T) : t.vl.length ≤ t.nn := by
  induction t using T.ind with
  | _ t ih =>
    rw [T.vl_eq, T.nn_eq]
    split
    · simp
    · have : ∀ q : List T, (∀ a ∈ q, a.vl.length ≤ a.nn) → (q.flatMap T.vl).length ≤ (q.map T.nn).sum := by
        intro q
        induction q with
        | nil => intro _; simp
        | cons a r ihr =>
          intro hq
          have h1 := hq a List.mem_cons_self
          have h2 := ihr fun x hx => hq x (List.mem_cons_of_mem _ hx)
          simp only [List.flatMap_cons, List.length_append, List.map_cons, List.sum_cons]
          omega
      have := this t.args ih
      omega

theorem list_mem {τ : Ta} {ks : List Int} {x : Bd} (h : x ∈ listB τ ks) : x.1 ∈ ks ∧ τ x.1 = some x.2 ∧ ¬ (uvar x.2 = true ∧ x.2.v = x.1) := by
  unfold listB at h
  obtain ⟨k, hk, hb⟩ := List.mem_filterMap.1 h
  unfold bindOf at hb
  split at hb
  · rename_i t ht
    split at hb
    · cases hb
    · rename_i hn
      cases hb
      exact ⟨hk, ht, hn⟩
  · cases hb
theorem list_rise {τ : Ta} {ks : List Int} (h : ks.Pairwise (· < ·)) : (listB τ ks).Pairwise fun a b => a.1 < b.1 := by
  unfold listB
  rw [List.pairwise_filterMap]
  refine h.imp fun {a b} hab x hx y hy => ?_
  have e1 : x.1 = a := by
    unfold bindOf at hx
    split at hx
    · split at hx
      · cases hx
      · cases hx; rfl
    · cases hx
  have e2 : y.1 = b := by
    unfold bindOf at hy
    split at hy
    · split at hy
      · cases hy
      · cases hy; rfl
    · cases hy
  omega

/-- A list of binds of such terms, of few variables, is a substitution. -/
theorem list_sub {τ : Ta} {ks : List Int} (hk : RiseT τ ks) (hd : ∀ x, τ x ≠ none → 0 ≤ x ∧ x < 1000000) (ho : ∀ x t, τ x = some t → OkT t) (hl : (listB τ ks).length ≤ 4000) : Sb (listB τ ks) := by
  have hr := list_rise (τ := τ) hk.1
  refine ⟨⟨hl, fun j hj => ?_⟩, fun x hx => (ho x.1 x.2 (list_mem hx).2.1).rt⟩
  obtain ⟨h1, h2, h3⟩ := list_mem (List.getElem_mem hj)
  have hb := hd _ (by rw [h2]; simp)
  have hprv : prv (listB τ ks) j < (listB τ ks)[j].1 := by
    cases j with
    | zero => show (-1 : Int) < _; omega
    | succ j =>
      rw [prv_succ _ j (by omega)]
      exact List.pairwise_iff_getElem.1 hr j (j + 1) (by omega) hj (by omega)
  unfold okb own1
  simp only [Bool.and_eq_true, decide_eq_true_eq, Bool.not_eq_true', Bool.and_eq_false_iff, decide_eq_false_iff_not]
  refine ⟨⟨⟨hprv, hb.2⟩, ?_⟩, (ho _ _ h2).right⟩
  by_cases hv : (listB τ ks)[j].2.fn.size = 0
  · exact .inr fun e => h3 ⟨uvar_iff.2 hv, e⟩
  · exact .inl hv

/-- What Match tells: a substitution that makes the pattern the term. -/
theorem match_sub {a b : T} {τ : Ta} {ks : List Int} (ha : OkT a) (hb : OkT b) (hm : mres a b = some τ) (hk : RiseT τ ks) : Sb (listB τ ks) ∧ a.app (img (listB τ ks)) = b := by
  obtain ⟨_, k2, k3⟩ := (mrun_says (mres_run a b)).1 τ hm
  have kf : Fit τ a b := k2 (a, b) List.mem_cons_self
  have kd : ∀ x, τ x ≠ none → Occ x a := fun x h => by
    rcases k3 x h with h | ⟨q, hq, h⟩
    · exact absurd rfl h
    · simp only [List.mem_singleton] at hq; subst hq; exact h
  have hok : ∀ x t, τ x = some t → OkT t := fun x t hx => fit_part (kd x (by rw [hx]; simp)) kf hx hb
  refine ⟨list_sub hk (fun x hx => occ_bound (kd x hx) ha.shape) hok ?_, ?_⟩
  · have h1 := listB_len τ ks
    have h2 := nodup_le (l := ks) (m := a.vl) (hk.1.imp (fun h => by omega)) (fun x hx => occ_vl (kd x ((hk.2 x).1 hx)))
    have h3 := vl_len a
    have h4 := T.nn_size a
    have h5 := ha.size
    omega
  · rw [img_list hk (fun x t hx => (hok x t hx).shape)]
    exact fit_app kf hb.shape

end Go.Proofs.Ytblfbmdnkgebdaa

/-
  UnifyEach: the walk.
-/
namespace Go.Proofs.Ytblfbmdnkgebdaa
open Go.RowKit Go.Maps

/-- Both terms in their boxes, and what is called with them. -/
structure EX (w W0 : World) (a b : T) (pa : Option Addr) (pc : Nat) (ta : Option Addr) (tc : Nat) (Z : World) : Prop where
  c : (Z.cell? ⟨w.heap.size, 0, none⟩ = some (.int .i64 a.v) ∧ Z.cell? ⟨w.heap.size, 1, none⟩ = some (.string a.fn) ∧ Z.cell? ⟨w.heap.size, 2, none⟩ = some (.slice pa a.args.length pc)) ∧ (Z.cell? ⟨w.heap.size + 1, 0, none⟩ = some (.int .i64 b.v) ∧ Z.cell? ⟨w.heap.size + 1, 1, none⟩ = some (.string b.fn) ∧ Z.cell? ⟨w.heap.size + 1, 2, none⟩ = some (.slice ta b.args.length tc))
  a : ArgsAt Z (.slice pa a.args.length pc) a.args
  b : ArgsAt Z (.slice ta b.args.length tc) b.args
  bel : Below W0.heap.size W0 Z
  s : w.heap.size + 1 < Z.heap.size

theorem EX.keep {w W0 : World} {a b : T} {pa : Option Addr} {pc : Nat} {ta : Option Addr} {tc : Nat} {Z Z' : World} (h : EX w W0 a b pa pc ta tc Z) (hb : Below Z.heap.size Z Z') : EX w W0 a b pa pc ta tc Z' := by
  obtain ⟨⟨⟨a0, a1, a2⟩, b0, b1, b2⟩, ha, hbb, hbel, hs⟩ := h
  exact ⟨⟨⟨kc hb (by omega) a0, kc hb (by omega) a1, kc hb (by omega) a2⟩, kc hb (by omega) b0, kc hb (by omega) b1, kc hb (by omega) b2⟩, ArgsAt.keep hb (Nat.le_refl _) ha, ArgsAt.keep hb (Nat.le_refl _) hbb, hbel.trans (hb.mono hbel.size), Nat.lt_of_lt_of_le hs hb.size⟩

theorem fit_self (t : T) : t.shape = true → Fit (fun x => some (var x)) t t := by
  induction t using T.ind with
  | _ t ih =>
    intro hs
    cases hv : uvar t with
    | true => exact .var t t hv (by rw [← var_of hs hv])
    | false => exact .fn t t hv rfl rfl (fun i h1 h2 => ih _ (List.getElem_mem h1) (shapeArg hs h1))

theorem binds_zero {W : World} {v : Value} (h : BindsAt W v []) : ∃ a c, v = .slice a 0 c := by
  obtain ⟨a, c, rfl, _⟩ := h
  exact ⟨a, c, rfl⟩

set_option maxRecDepth 100000 in
set_option maxHeartbeats 4000000 in
theorem each_no (a b : T) (sa sb : Value) (w : World) (ha : ArgsAt w sa a.args) (hb : ArgsAt w sb b.args) (hno : ¬ (a.rightW = 0 ∧ b.rightW = 0)) :
    Calls Try.prog 7 #[tval a sa, tval b sb] w fun e W => e = .returned (.bool true) ∧ Below w.heap.size w W := by
  obtain ⟨pa, pc, rfl, _, _⟩ := ha.slice
  obtain ⟨ta, tc, rfl, _, _⟩ := hb.slice
  have hb2 : Below w.heap.size w (tbox2 w a (.slice pa a.args.length pc) b (.slice ta b.args.length tc)) := below_box2 w _ _
  have hX : EX w (tbox2 w a (.slice pa a.args.length pc) b (.slice ta b.args.length tc)) a b pa pc ta tc (tbox2 w a (.slice pa a.args.length pc) b (.slice ta b.args.length tc)) := ⟨tbox2_cells w a _ b _, ArgsAt.keep hb2 (Nat.le_refl _) ha, ArgsAt.keep hb2 (Nat.le_refl _) hb, Below.refl _ _, by simp⟩
  obtain ⟨W0, hW0⟩ : ∃ X, tbox2 w a (.slice pa a.args.length pc) b (.slice ta b.args.length tc) = X := ⟨_, rfl⟩
  have HW0 : Hid (((w.alloc (.cells #[.int .i64 a.v, .string a.fn, .slice pa a.args.length pc] 24)).alloc (.cells #[.int .i64 b.v, .string b.fn, .slice ta b.args.length tc] 24)) = W0) := hW0
  rw [hW0] at hX hb2
  have HX := hid hX
  have HB := hid hb2
  have h23 := rright_any a _ W0 hX.a
  obtain ⟨⟨⟨p0, p1, p2⟩, q0, q1, q2⟩, _⟩ := hX
  clear hW0 hb2 ha hb
  by_cases h1 : a.rightW = 0
  · have h1' : (a.rightW != 0) = false := by rw [bne_eq_false_iff_eq]; exact h1
    have h2' : (b.rightW != 0) = true := by rw [bne_iff_ne]; exact fun h2 => hno ⟨h1, h2⟩
    clear h1 hno
    go_enter Try.func7, Try.ntmps7
    go_upto_region 1 with fail
    rw [HW0.out]
    go_wp2_with fail
    refine h23.mono ?_
    rintro e W1 ⟨rfl, b1⟩
    have x1 := HX.out.keep b1
    have h23b := rright_any b _ W1 x1.b
    obtain ⟨⟨⟨r0, r1, r2⟩, s0, s1, s2⟩, _⟩ := x1
    go_wp2_with fail
    refine h23b.mono ?_
    rintro e W2 ⟨rfl, b2⟩
    go_wp2_with fail
    refine (alive_any W2).mono ?_
    rintro e W3 ⟨rfl, b3⟩
    go_wp2
    go_ret
    exact ⟨rfl, ((HB.out.trans (b1.mono HB.out.size)).trans (b2.mono (Nat.le_trans HB.out.size b1.size))).trans (b3.mono (Nat.le_trans HB.out.size (Nat.le_trans b1.size b2.size)))⟩
  · have h1' : (a.rightW != 0) = true := by rw [bne_iff_ne]; exact h1
    clear h1 hno
    go_enter Try.func7, Try.ntmps7
    go_upto_region 1 with fail
    rw [HW0.out]
    go_wp2_with fail
    refine h23.mono ?_
    rintro e W1 ⟨rfl, b1⟩
    go_wp2_with fail
    refine (alive_any W1).mono ?_
    rintro e W3 ⟨rfl, b3⟩
    go_wp2
    go_ret
    exact ⟨rfl, (HB.out.trans (b1.mono HB.out.size)).trans (b3.mono (Nat.le_trans HB.out.size b1.size))⟩

set_option maxRecDepth 100000 in
set_option maxHeartbeats 4000000 in
theorem each_yes (a b : T) (sa sb : Value) (w : World) (ha : ArgsAt w sa a.args) (hb : ArgsAt w sb b.args) (hr : a.rightW = 0 ∧ b.rightW = 0) (hsa : a.size ≤ 1048576) (hsb : b.size ≤ 1048576) :
    Calls Try.prog 7 #[tval a sa, tval b sb] w fun e W => e = .returned (.bool true) ∧ Below w.heap.size w W := by
  obtain ⟨pa, pc, rfl, _, _⟩ := ha.slice
  obtain ⟨ta, tc, rfl, _, _⟩ := hb.slice
  have hb2 : Below w.heap.size w (tbox2 w a (.slice pa a.args.length pc) b (.slice ta b.args.length tc)) := below_box2 w _ _
  have hX : EX w (tbox2 w a (.slice pa a.args.length pc) b (.slice ta b.args.length tc)) a b pa pc ta tc (tbox2 w a (.slice pa a.args.length pc) b (.slice ta b.args.length tc)) := ⟨tbox2_cells w a _ b _, ArgsAt.keep hb2 (Nat.le_refl _) ha, ArgsAt.keep hb2 (Nat.le_refl _) hb, Below.refl _ _, by simp⟩
  obtain ⟨W0, hW0⟩ : ∃ X, tbox2 w a (.slice pa a.args.length pc) b (.slice ta b.args.length tc) = X := ⟨_, rfl⟩
  have HW0 : Hid (((w.alloc (.cells #[.int .i64 a.v, .string a.fn, .slice pa a.args.length pc] 24)).alloc (.cells #[.int .i64 b.v, .string b.fn, .slice ta b.args.length tc] 24)) = W0) := hW0
  rw [hW0] at hX hb2
  have HX := hid hX
  have HB := hid hb2
  have HR : Hid (a.rightW = 0 ∧ b.rightW = 0 ∧ a.size ≤ 1048576 ∧ b.size ≤ 1048576) := ⟨hr.1, hr.2, hsa, hsb⟩
  have h1' : (a.rightW != 0) = false := by rw [bne_eq_false_iff_eq]; exact hr.1
  have h2' : (b.rightW != 0) = false := by rw [bne_eq_false_iff_eq]; exact hr.2
  have h23 := rright_any a _ W0 hX.a
  obtain ⟨⟨⟨p0, p1, p2⟩, q0, q1, q2⟩, _⟩ := hX
  clear hW0 hb2 ha hb hr hsa hsb
  go_enter Try.func7, Try.ntmps7
  go_upto_region 1 with fail
  rw [HW0.out]
  go_wp2_with fail
  refine h23.mono ?_
  rintro e W1 ⟨rfl, b1⟩
  have X1 := hid (HX.out.keep b1)
  have h23b := rright_any b _ W1 X1.out.b
  obtain ⟨⟨⟨r0, r1, r2⟩, s0, s1, s2⟩, _⟩ := X1.out
  clear b1 h23 p0 p1 p2 q0 q1 q2
  go_wp2_with fail
  refine h23b.mono ?_
  rintro e W2 ⟨rfl, b2⟩
  have X2 := hid (X1.out.keep b2)
  have hu1 := unify_any a a _ _ W2 X2.out.a X2.out.a HR.out.2.2.1 HR.out.2.2.1
  obtain ⟨⟨⟨p0, p1, p2⟩, q0, q1, q2⟩, _⟩ := X2.out
  clear b2 h23b r0 r1 r2 s0 s1 s2
  go_wp2_with fail
  refine hu1.mono ?_
  rintro e W3 ⟨hu, b3⟩
  obtain ⟨v3, rfl, l3⟩ := unify_ans hu
  obtain ⟨u1, u2, u3⟩ := u_self HR.out.1
  rw [u1, u2]
  rw [u3] at l3
  obtain ⟨a3, c3, rfl⟩ := binds_zero l3
  have X3 := hid (X2.out.keep b3)
  clear b3 hu1 hu l3 u1 u2 u3 p0 p1 p2 q0 q1 q2
  obtain ⟨vb, hvb⟩ : ∃ x, variantB a b = x := ⟨_, rfl⟩
  have hvs : variantB b a = vb := by
    rw [← hvb]
    unfold variantB
    cases (mres a b).isSome <;> cases (mres b a).isSome <;> simp [Bool.and_comm]
  have hvv : variantB a a = true := by
    unfold variantB
    have : (mres a a).isSome = true := by
      cases hm : mres a a with
      | some τ => rfl
      | none =>
        refine absurd ?_ ((mrun_says (mres_run a a)).2 hm (fun x => some (var x)) (ext_none _))
        intro q hq
        simp only [List.mem_singleton] at hq
        subst hq
        exact fit_self a (right_shape HR.out.1)
    simp [this, HR.out.1]
  have hcaa : ∀ Z, Below W3.heap.size W3 Z → Calls Try.prog 15 #[tval a (.slice pa a.args.length pc), tval a (.slice pa a.args.length pc)] Z fun e w' => e = .returned (.bool true) ∧ Below Z.heap.size Z w' := fun Z h => by
    have hx := X3.out.keep h
    rw [← hvv]
    exact variant_any a a _ _ Z hx.a hx.a HR.out.2.2.1 HR.out.2.2.1
  have hcab : ∀ Z, Below W3.heap.size W3 Z → Calls Try.prog 15 #[tval a (.slice pa a.args.length pc), tval b (.slice ta b.args.length tc)] Z fun e w' => e = .returned (.bool vb) ∧ Below Z.heap.size Z w' := fun Z h => by
    have hx := X3.out.keep h
    rw [← hvb]
    exact variant_any a b _ _ Z hx.a hx.b HR.out.2.2.1 HR.out.2.2.2
  have hcba : ∀ Z, Below W3.heap.size W3 Z → Calls Try.prog 15 #[tval b (.slice ta b.args.length tc), tval a (.slice pa a.args.length pc)] Z fun e w' => e = .returned (.bool vb) ∧ Below Z.heap.size Z w' := fun Z h => by
    have hx := X3.out.keep h
    rw [← hvs]
    exact variant_any b a _ _ Z hx.b hx.a HR.out.2.2.2 HR.out.2.2.1
  obtain ⟨⟨⟨c0, c1, c2⟩, d0, d1, d2⟩, _, _, _, hs3⟩ := X3.out
  have l0 : w.heap.size < W3.heap.size := by omega
  have m0 := fun q => cell_far l0 c0 q
  have m1 := fun q => cell_far l0 c1 q
  have m2 := fun q => cell_far l0 c2 q
  have n0 := fun q => cell_far hs3 d0 q
  have n1 := fun q => cell_far hs3 d1 q
  have n2 := fun q => cell_far hs3 d2 q
  have hvn : (vb != vb) = false := by cases vb <;> rfl
  clear hvb hvs hvv c0 c1 c2 d0 d1 d2
  go_wp2
  refine wp_region_far (by kernel_rfl) ?_
  iterate 20 (first | go_big_quiet_step (exact calls_far hcaa _) | quiet_step (exact calls_far hcaa _))
  iterate 1 (first | go_big_quiet_step (exact calls_far hcab _) | quiet_step (exact calls_far hcab _))
  repeat (first | go_big_quiet_step (exact calls_far hcba _) | quiet_step (exact calls_far hcba _))
  refine wpQuiet_nil ?_
  intro W4 hw'
  have b4 : Below W3.heap.size W3 W4 := by
    obtain ⟨pf, hp⟩ := hw'
    rw [hp]
    exact below_far _ pf
  have X4 := hid (X3.out.keep b4)
  have hu2 := unify_any a b _ _ W4 X4.out.a X4.out.b HR.out.2.2.1 HR.out.2.2.2
  obtain ⟨⟨⟨p0, p1, p2⟩, q0, q1, q2⟩, _⟩ := X4.out
  clear hw' b4 hcaa hcab hcba m0 m1 m2 n0 n1 n2 l0 hs3
  go_wp2_with fail
  refine hu2.mono ?_
  rintro e W5 ⟨hu, b5⟩
  obtain ⟨v5, rfl, l5⟩ := unify_ans hu
  have X5 := hid (X4.out.keep b5)
  have hu3 := unify_any b a _ _ W5 X5.out.b X5.out.a HR.out.2.2.2 HR.out.2.2.1
  obtain ⟨⟨⟨r0, r1, r2⟩, s0, s1, s2⟩, _⟩ := X5.out
  clear hu2 hu b5 p0 p1 p2 q0 q1 q2
  go_wp2_with fail
  refine hu3.mono ?_
  rintro e W6 ⟨hu, b6⟩
  obtain ⟨v6, rfl, l6⟩ := unify_ans hu
  have X6 := hid (X5.out.keep b6)
  obtain ⟨y1, y2, y3⟩ := u_symm b a
  rw [y3] at l6
  rw [y1, y2]
  have h11 := binds_same _ v5 v6 W6 (l5.keep b6) l6
  obtain ⟨⟨⟨p0, p1, p2⟩, q0, q1, q2⟩, _⟩ := X6.out
  clear hu3 hu b6 r0 r1 r2 s0 s1 s2 l5 l6 y1 y2 y3
  obtain ⟨ub, hub⟩ : ∃ x, uB a b = x := ⟨_, rfl⟩
  obtain ⟨ue, hue⟩ : ∃ x, uE a b = x := ⟨_, rfl⟩
  rw [hub, hue]
  have hb' : (ub != ub) = false := by cases ub <;> rfl
  have he' : (ue != ue) = false := by rw [bne_eq_false_iff_eq]
  clear hub hue
  go_wp2_with fail
  refine h11.mono ?_
  rintro e W7 ⟨rfl, b7⟩
  have X7 := hid (X6.out.keep b7)
  have hma := match_any a b _ _ W7 X7.out.a X7.out.b HR.out.2.2.1 HR.out.2.2.2
  obtain ⟨⟨⟨r0, r1, r2⟩, s0, s1, s2⟩, _⟩ := X7.out
  clear h11 b7 p0 p1 p2 q0 q1 q2
  go_wp2_with fail
  refine hma.mono ?_
  rintro e W8 ⟨hm, b8⟩
  have X8 := hid (X7.out.keep b8)
  obtain ⟨⟨⟨p0, p1, p2⟩, q0, q1, q2⟩, _⟩ := X8.out
  clear hma b8 r0 r1 r2 s0 s1 s2
  rcases hm with ⟨g1, g2⟩ | ⟨g1, g2, g3⟩ | ⟨g1, τ, v, ks, g2, g3, g4, g5⟩
  · exact absurd ⟨HR.out.1, HR.out.2.1⟩ g1
  · subst g3
    go_wp2_with fail
    refine (alive_any W8).mono ?_
    rintro e W9 ⟨rfl, b9⟩
    go_wp2
    go_ret
    exact ⟨rfl, HB.out.trans ((X8.out.bel.trans (b9.mono X8.out.bel.size)).mono HB.out.size)⟩
  · subst g3
    have hoa := ok_of HR.out.1 HR.out.2.2.1
    have hob := ok_of HR.out.2.1 HR.out.2.2.2
    obtain ⟨k1, k2⟩ := match_sub hoa hob g2 g4
    have h17 := apply_ok _ k1 a hoa.rt HR.out.1 (by rw [k2]; exact hob.fits) v _ W8 g5 X8.out.a
    rw [k2] at h17
    clear g1 g2 g4 g5 hoa hob k1 k2
    go_wp2_with fail
    refine h17.mono ?_
    rintro e W9 ⟨sl, rfl, k9, b9⟩
    clear p0 p1 p2 q0 q1 q2
    have X9 := hid (X8.out.keep b9)
    obtain ⟨xa, xc, rfl, _, _⟩ := k9.slice
    have bA : Below W9.heap.size W9 (W9.alloc (.cells #[.int .i64 b.v, .string b.fn, .slice xa b.args.length xc] 24)) := below_box W9 _
    have X10 := hid (X9.out.keep bA)
    have h18 := rsame_any b b (.slice xa b.args.length xc) _ _ (ArgsAt.keep bA (Nat.le_refl _) k9) X10.out.b
    rw [same_iff.mpr rfl] at h18
    obtain ⟨⟨⟨p0, p1, p2⟩, q0, q1, q2⟩, _⟩ := X10.out
    clear h17 k9 b9 bA
    go_wp2_with fail
    refine h18.mono ?_
    rintro e W11 ⟨rfl, b11⟩
    have X11 := hid (X10.out.keep b11)
    clear h18 b11 p0 p1 p2 q0 q1 q2
    go_wp2_with fail
    refine (alive_any W11).mono ?_
    rintro e W12 ⟨rfl, b12⟩
    go_wp2
    go_ret
    exact ⟨rfl, HB.out.trans ((X11.out.bel.trans (b12.mono X11.out.bel.size)).mono HB.out.size)⟩

/-- UnifyEach answers true at every two terms. -/
theorem each_any (a b : T) (sa sb : Value) (w : World) (ha : ArgsAt w sa a.args) (hb : ArgsAt w sb b.args) (hsa : a.size ≤ 1048576) (hsb : b.size ≤ 1048576) :
    Calls Try.prog 7 #[tval a sa, tval b sb] w fun e W => e = .returned (.bool true) ∧ Below w.heap.size w W := by
  by_cases h : a.rightW = 0 ∧ b.rightW = 0
  · exact each_yes a b sa sb w ha hb h hsa hsb
  · exact each_no a b sa sb w ha hb h

end Go.Proofs.Ytblfbmdnkgebdaa

/-
  UnifyGeneral: instances and their parts; Of; Apply, whatever it answers.
-/
namespace Go.Proofs.Ytblfbmdnkgebdaa
open Go.RowKit Go.Maps

theorem sum_mono {f g : T → Int} : ∀ {q : List T}, (∀ a ∈ q, f a ≤ g a) → (q.map f).sum ≤ (q.map g).sum
  | [], _ => by simp
  | a :: r, h => by
    have h1 := h a List.mem_cons_self
    have h2 := sum_mono (q := r) fun x hx => h x (List.mem_cons_of_mem _ hx)
    simp only [List.map_cons, List.sum_cons]
    omega
theorem max_mono {f g : T → Int} : ∀ {q : List T} {m m' : Int}, m ≤ m' → (∀ a ∈ q, f a ≤ g a) → (q.map f).foldl max m ≤ (q.map g).foldl max m'
  | [], _, _, h, _ => by simpa using h
  | a :: r, m, m', hm, h => by
    have h1 := h a List.mem_cons_self
    simp only [List.map_cons, List.foldl_cons]
    exact max_mono (q := r) (by omega) fun x hx => h x (List.mem_cons_of_mem _ hx)

/-- A term is no greater than an instance of it. -/
theorem inst_ge (σ : Int → T) (t : T) : t.shape = true → t.size ≤ (t.app σ).size ∧ t.depth ≤ (t.app σ).depth := by
  induction t using T.ind with
  | _ t ih =>
    intro hs
    cases hv : uvar t with
    | true =>
      have h0 := (shape_var hs hv).1
      have h1 := size_ge (t.app σ)
      have h2 := depth_pos (t.app σ)
      rw [T.size_eq t, T.depth_eq t, h0]
      simp
      omega
    | false =>
      have hf : ¬ t.fn.size = 0 := by simpa [uvar] using hv
      have hsh := (shape_fn hs hv).2.2
      have k1 := sum_mono (f := T.size) (g := fun a => (a.app σ).size) (q := t.args) fun a ha => (ih a ha (hsh a ha)).1
      have k2 := max_mono (f := T.depth) (g := fun a => (a.app σ).depth) (q := t.args) (m := 0) (m' := 0) (Int.le_refl _) fun a ha => (ih a ha (hsh a ha)).2
      rw [T.app_eq, if_neg hf, T.size_eq t, T.depth_eq t, T.size_eq (.mk _ _ _), T.depth_eq (.mk _ _ _)]
      show _ ≤ 1 + ((t.args.map (T.app σ)).map T.size).sum ∧ _ ≤ ((t.args.map (T.app σ)).map T.depth).foldl max 0 + 1
      simp only [List.map_map, Function.comp_def]
      omega

theorem ok_part {σ : Int → T} {t u : T} (hs : t.shape = true) (h : t.app σ = u) (hu : OkT u) : OkT t := by
  have k := inst_ge σ t hs
  rw [h] at k
  exact ⟨hs, by have := hu.size; omega, by have := hu.depth; omega⟩

theorem ok_var {n : Int} (h : 0 ≤ n ∧ n < 1000000) : OkT (var n) := by
  refine ⟨var_shape h, ?_, ?_⟩
  · rw [T.size_eq]; simp [var, T.args]
  · rw [T.depth_eq]; simp [var, T.args]

/-- What Is allows. -/
theorem sub_of {l : List Bd} (h : isSub l = true) (hs : ∀ x ∈ l, x.2.size ≤ 1048576) : Sb l ∧ ∀ n, 0 ≤ n ∧ n < 1000000 → OkT (img l n) := by
  have hi := isSub_iff.1 h
  have ho : ∀ x ∈ l, OkT x.2 := fun x hx => by
    obtain ⟨j, hj, rfl⟩ := List.mem_iff_getElem.1 hx
    have hk := hi.2 j hj
    unfold okb at hk
    simp only [Bool.and_eq_true, decide_eq_true_eq] at hk
    exact ok_of hk.2 (hs _ hx)
  refine ⟨⟨hi, fun x hx => (ho x hx).rt⟩, fun n hn => ?_⟩
  by_cases e : ∃ k, ∃ h : k < l.length, l[k].1 = n
  · obtain ⟨k, hk, rfl⟩ := e
    rw [img_yes hi.rising hk rfl]
    exact ho _ (List.getElem_mem hk)
  · rw [img_no fun k hk h' => e ⟨k, hk, h'⟩]
    exact ok_var hn

theorem img_first {l : List Bd} {n : Int} {i : Nat} (hi : i < l.length) (h : ∀ j (hj : j < l.length), j < i → l[j].1 ≠ n) (e : l[i].1 = n) : img l n = l[i].2 := by
  have h3 : l = l.take i ++ l[i] :: l.drop (i + 1) := by rw [List.getElem_cons_drop, List.take_append_drop]
  have h4 : (l.take i).find? (fun b => decide (b.1 = n)) = none := List.find?_eq_none.2 (by
    intro b hb
    obtain ⟨j, hj, rfl⟩ := List.mem_iff_getElem.1 hb
    have hj' : j < i ∧ j < l.length := by simp at hj; omega
    rw [List.getElem_take]
    simpa using h j hj'.2 hj'.1)
  have h5 := congrArg (List.find? (fun b => decide (b.1 = n))) h3
  rw [List.find?_append, h4, Option.none_or, List.find?_cons_of_pos (by simpa using e)] at h5
  unfold img
  rw [h5]
  rfl

set_option maxRecDepth 100000 in
set_option maxHeartbeats 2000000 in
theorem of_any (W0 : World) (l : List Bd) (n : Int) (v : Value) (hl : BindsAt W0 v l) (w : World) (hw : Below W0.heap.size W0 w) :
    Calls Try.prog 22 #[v, .int .i64 n] w fun e w' => ∃ sl, e = .returned (tval (img l n) sl) ∧ ArgsAt W0 sl (img l n).args ∧ Below w.heap.size w w' := by
  have hlen := hl.len
  obtain ⟨a, c, rfl⟩ := hl.slice
  have HL : Hid (BindsAt W0 (.slice a l.length c) l) := hl
  have hz : (w.alloc (.cells #[.int .i64 0, .string ⟨#[]⟩, .slice none 0 0] 24)).heap[w.heap.size]? = some (.cells #[.int .i64 0, .string ⟨#[]⟩, .slice none 0 0] 24 (0, 0)) := (MapKept.heap_alloc w _).1
  clear hl
  go_enter Try.func22, Try.ntmps22
  go_wp2
  go_loopw [5] (fun vi wr => ∃ i : Nat, vi = .int .i64 i ∧ i ≤ l.length ∧ (∀ j (hj : j < l.length), j < i → l[j].1 ≠ n) ∧ wr = w.alloc (.cells #[.int .i64 0, .string ⟨#[]⟩, .slice none 0 0] 24)) (fun vi _ => l.length - (intOf vi).toNat)
  case atStart => exact ⟨0, rfl, Nat.zero_le _, fun j _ h => absurd h (by omega), rfl⟩
  case round =>
    obtain ⟨i, rfl, hi, hno, hwr⟩ := hrel
    have hb0 : Below w.heap.size w wr := by rw [hwr]; exact below_box w _
    have hzr : wr.heap[w.heap.size]? = some (.cells #[.int .i64 0, .string ⟨#[]⟩, .slice none 0 0] 24 (0, 0)) := by rw [hwr]; exact hz
    obtain ⟨⟨z0, z1, z2⟩, y0, y1, y2⟩ := box_facts hzr
    by_cases hlt : i < l.length
    · obtain ⟨b, o, s, e', hB0⟩ := HL.out.nth hlt
      cases e'
      have hB := hB0.keep (hw.trans (hb0.mono hw.size))
      have HI : Hid (l[i].1 = n → img l n = l[i].2) := img_first hlt hno
      have HN : Hid (l[i].1 ≠ n → ∀ j (hj : j < l.length), j < i + 1 → l[j].1 ≠ n) := fun hne j hj hji => by
        by_cases e : j = i
        · subst e; exact hne
        · exact hno j hj (by omega)
      obtain ⟨x, hx⟩ : ∃ x, l[i] = x := ⟨_, rfl⟩
      rw [hx] at hB hB0 HI HN
      obtain ⟨sa, sc, rfl, _, _⟩ := hB.sub.slice
      obtain ⟨g0, g1, g2, g3⟩ : wr.cell? ⟨b, o + i * 4, none⟩ = some (.int .i64 x.1) ∧ wr.cell? ⟨b, o + i * 4 + 1, none⟩ = some (.int .i64 x.2.v) ∧ wr.cell? ⟨b, o + i * 4 + 2, none⟩ = some (.string x.2.fn) ∧ wr.cell? ⟨b, o + i * 4 + 3, none⟩ = some (.slice sa x.2.args.length sc) := ⟨hB.c0, hB.c1, hB.c2, hB.c3⟩
      have HA : Hid (ArgsAt W0 (.slice sa x.2.args.length sc) x.2.args ∧ Below w.heap.size w wr ∧ wr = w.alloc (.cells #[.int .i64 0, .string ⟨#[]⟩, .slice none 0 0] 24)) := ⟨hB0.sub, hb0, hwr⟩
      clear hB hB0 hx hb0 hno hwr hzr hz
      by_cases he : x.1 = n
      · have hd : (x.1 == n) = true := decide_eq_true he
        have HE : Hid (img l n = x.2) := HI.out he
        clear he HI HN
        go_wp2
        refine bodyPost_ret (v := tval x.2 (.slice sa x.2.args.length sc)) (by simp [results, Try.results22, go_sem, *]) rfl ⟨_, by rw [HE], by rw [HE]; exact HA.out.1, ?_⟩
        exact set3_below HA.out.2.1 _ 0 _ _ _ (Nat.le_refl _)
      · have hd : (x.1 == n) = false := decide_eq_false he
        have HE : Hid (∀ j (hj : j < l.length), j < i + 1 → l[j].1 ≠ n) := HN.out he
        clear he HI HN
        go_wp2
        go_roundw
        case rel => exact ⟨i + 1, by go_num, by omega, HE, HA.out.2.2⟩
        case measure => simp [intOf]; omega
    · have HE : Hid (img l n = var n) := img_no fun k hk => hno k hk (by omega)
      have HB : Hid (Below w.heap.size w wr) := hb0
      clear hno hwr hzr hz hb0
      go_wp2
      refine bodyPost_ret (v := tval (var n) (.slice none 0 0)) (by simp [results, Try.results22, go_sem, *, var, T.v, T.fn]) rfl ⟨_, by rw [HE], by rw [HE]; exact (ArgsFr.nil 0 _).args, ?_⟩
      exact set3_below HB.out _ 0 _ _ _ (Nat.le_refl _)


/-- What Apply answers, whatever term it gets. -/
def apE (l : List Bd) (t : T) : Int := if t.rightW = 0 then fitsW (t.app (img l)) else 1
def apT (l : List Bd) (t : T) : T := if t.rightW = 0 ∧ fitsW (t.app (img l)) = 0 then t.app (img l) else zt
theorem ap_zero {l : List Bd} {t : T} (h : apE l t = 0) : t.rightW = 0 ∧ apT l t = t.app (img l) := by
  unfold apE at h
  by_cases h1 : t.rightW = 0
  · rw [if_pos h1] at h
    exact ⟨h1, by unfold apT; rw [if_pos ⟨h1, h⟩]⟩
  · rw [if_neg h1] at h
    cases h

theorem apply_all (l : List Bd) (hl : Sb l) (t : T) (hs : t.size ≤ 1048576) (v sl : Value) (w : World) (hb : BindsAt w v l) (ha : ArgsAt w sl t.args) :
    Calls Try.prog 17 #[v, tval t sl] w fun e W' => ∃ sl', e = .returned (.tuple #[tval (apT l t) sl', .int .i64 (apE l t)]) ∧ ArgsAt W' sl' (apT l t).args ∧ Below w.heap.size w W' := by
  by_cases h1 : t.rightW = 0
  · have ho := ok_of h1 hs
    by_cases h2 : fitsW (t.app (img l)) = 0
    · refine (apply_ok l hl t ho.rt h1 h2 v sl w hb ha).mono fun e W' ⟨s, k1, k2, k3⟩ => ?_
      have e1 : apT l t = t.app (img l) := by unfold apT; rw [if_pos ⟨h1, h2⟩]
      have e2 : apE l t = 0 := by unfold apE; rw [if_pos h1, h2]
      rw [e1, e2]
      exact ⟨s, k1, k2, k3⟩
    · refine (apply_big l hl t ho.rt h1 h2 v sl w hb ha).mono fun e W' ⟨k1, k3⟩ => ?_
      have e1 : apT l t = zt := by unfold apT; rw [if_neg fun h => h2 h.2]
      have e2 : apE l t = fitsW (t.app (img l)) := by unfold apE; rw [if_pos h1]
      rw [e1, e2]
      exact ⟨_, k1, (ArgsFr.nil 0 _).args, k3⟩
  · refine (apply_arg l (fun x hx => (hl.rt x hx).short) t (short_of t hs).1 (.inr h1) v sl w hb ha).mono fun e W' ⟨k1, k3⟩ => ?_
    have e1 : apT l t = zt := by unfold apT; rw [if_neg fun h => h1 h.1]
    have e2 : apE l t = 1 := by unfold apE; rw [if_neg h1]
    rw [e1, e2]
    exact ⟨_, k1, (ArgsFr.nil 0 _).args, k3⟩

/-- Where an instance of both is known, Unify finds the general one. -/
theorem general_of {a b : T} {l : List Bd} {e : Ending} {W : World} (h : UnifyIs a b e W) (ha : a.rightW = 0) (hb : b.rightW = 0) (hl : ∀ n, 0 ≤ n ∧ n < 1000000 → OkT (img l n)) (he : a.app (img l) = b.app (img l)) :
    ∃ (m : List Bd) (v : Value), e = .returned (.tuple #[v, .bool true, .int .i64 0]) ∧ BindsAt W v m ∧ ∀ x ∈ m, OkT x.2 ∧ OkT (img l x.1) ∧ x.2.app (img l) = img l x.1 := by
  rcases h with ⟨h1, _⟩ | ⟨_, h2, _⟩ | ⟨_, τ, hm, h⟩
  · exact absurd ⟨ha, hb⟩ h1
  · exact absurd he (h2 _)
  · have hx : ∀ x t, τ x = some t → OkT t ∧ OkT (img l x) ∧ t.app (img l) = img l x := fun x t hx => by
      have hbd : 0 ≤ x ∧ x < 1000000 := by
        rcases (hm.dom x).1 (by rw [hx]; simp) with h | h
        · exact occ_bound h (right_shape ha)
        · exact occ_bound h (right_shape hb)
      have hg := hm.gen _ he x t hx
      exact ⟨ok_part (hm.shp x t hx) hg (hl x hbd), hl x hbd, hg⟩
    rcases h with ⟨⟨x, t, h1, h2⟩, _⟩ | ⟨_, v, ks, h2, h3, h4⟩
    · exact absurd ⟨(hx x t h1).1.size, (hx x t h1).1.depth⟩ h2
    · exact ⟨_, v, h2, h4, fun y hy => hx _ _ (list_mem hy).2.1⟩

end Go.Proofs.Ytblfbmdnkgebdaa

/-
  UnifyGeneral: the walk.
-/
namespace Go.Proofs.Ytblfbmdnkgebdaa
open Go.RowKit Go.Maps

/-- Both terms in their boxes, and the substitution. -/
structure GE (w W0 : World) (a b : T) (pa : Option Addr) (pc : Nat) (ta : Option Addr) (tc : Nat) (v : Value) (l : List Bd) (Z : World) : Prop where
  ex : EX w W0 a b pa pc ta tc Z
  bi : BindsAt Z v l
theorem GE.keep {w W0 : World} {a b : T} {pa : Option Addr} {pc : Nat} {ta : Option Addr} {tc : Nat} {v : Value} {l : List Bd} {Z Z' : World} (h : GE w W0 a b pa pc ta tc v l Z) (hb : Below Z.heap.size Z Z') : GE w W0 a b pa pc ta tc v l Z' :=
  ⟨h.ex.keep hb, h.bi.keep hb⟩

theorem wrap_id {n : Int} (h0 : 0 ≤ n) (h : n ≤ 4194304) : wrap64 n = n := by unfold wrap64; omega

set_option maxRecDepth 100000 in
set_option maxHeartbeats 4000000 in
theorem general_no (a b : T) (l : List Bd) (sa sb v : Value) (w : World) (ha : ArgsAt w sa a.args) (hb : ArgsAt w sb b.args) (hl : BindsAt w v l) (hsa : a.size ≤ 1048576) (hsb : b.size ≤ 1048576) (hsl : ∀ x ∈ l, x.2.size ≤ 1048576) (hno : ¬ (a.size + b.size ≤ 2000 ∧ l.length ≤ 50 ∧ isSub l = true)) :
    Calls Try.prog 6 #[tval a sa, tval b sb, v] w fun e W => e = .returned (.bool true) ∧ Below w.heap.size w W := by
  obtain ⟨pa, pc, rfl, _, _⟩ := ha.slice
  obtain ⟨ta, tc, rfl, _, _⟩ := hb.slice
  obtain ⟨va, vc, rfl⟩ := hl.slice
  have hlen := hl.len
  have hb2 : Below w.heap.size w (tbox2 w a (.slice pa a.args.length pc) b (.slice ta b.args.length tc)) := below_box2 w _ _
  have hX : GE w (tbox2 w a (.slice pa a.args.length pc) b (.slice ta b.args.length tc)) a b pa pc ta tc (.slice va l.length vc) l (tbox2 w a (.slice pa a.args.length pc) b (.slice ta b.args.length tc)) := ⟨⟨tbox2_cells w a _ b _, ArgsAt.keep hb2 (Nat.le_refl _) ha, ArgsAt.keep hb2 (Nat.le_refl _) hb, Below.refl _ _, by simp⟩, hl.keep hb2⟩
  obtain ⟨W0, hW0⟩ : ∃ X, tbox2 w a (.slice pa a.args.length pc) b (.slice ta b.args.length tc) = X := ⟨_, rfl⟩
  have HW0 : Hid (((w.alloc (.cells #[.int .i64 a.v, .string a.fn, .slice pa a.args.length pc] 24)).alloc (.cells #[.int .i64 b.v, .string b.fn, .slice ta b.args.length tc] 24)) = W0) := hW0
  rw [hW0] at hX hb2
  have HX := hid hX
  have HB := hid hb2
  have HS : Hid (a.size ≤ 1048576 ∧ b.size ≤ 1048576 ∧ ∀ x ∈ l, x.2.size ≤ 1048576) := ⟨hsa, hsb, hsl⟩
  obtain ⟨za, hza⟩ : ∃ x, a.size = x := ⟨_, rfl⟩
  obtain ⟨zb, hzb⟩ : ∃ x, b.size = x := ⟨_, rfl⟩
  have g1 : 1 ≤ za ∧ za ≤ 1048576 := by have := size_ge a; omega
  have g2 : 1 ≤ zb ∧ zb ≤ 1048576 := by have := size_ge b; omega
  have hca : ∀ Z, Below W0.heap.size W0 Z → Calls Try.prog 20 #[tval a (.slice pa a.args.length pc)] Z fun e w' => e = .returned (.int .i64 za) ∧ Below Z.heap.size Z w' := fun Z h => (rsize_any a _ Z (HX.out.keep h).ex.a).mono fun e w' ⟨k1, k2⟩ => ⟨by rw [k1, hza, wrap_id (by omega) (by omega)], k2⟩
  have hcb : ∀ Z, Below W0.heap.size W0 Z → Calls Try.prog 20 #[tval b (.slice ta b.args.length tc)] Z fun e w' => e = .returned (.int .i64 zb) ∧ Below Z.heap.size Z w' := fun Z h => (rsize_any b _ Z (HX.out.keep h).ex.b).mono fun e w' ⟨k1, k2⟩ => ⟨by rw [k1, hzb, wrap_id (by omega) (by omega)], k2⟩
  have hsum : wrap64 (za + zb) = za + zb := wrap_id (by omega) (by omega)
  obtain ⟨⟨⟨⟨c0, c1, c2⟩, d0, d1, d2⟩, _, _, _, hs3⟩, _⟩ := hX
  have l0 : w.heap.size < W0.heap.size := by omega
  have m0 := fun q => cell_far l0 c0 q
  have m1 := fun q => cell_far l0 c1 q
  have m2 := fun q => cell_far l0 c2 q
  have n0 := fun q => cell_far hs3 d0 q
  have n1 := fun q => cell_far hs3 d1 q
  have n2 := fun q => cell_far hs3 d2 q
  obtain ⟨ib, hib⟩ : ∃ x, isSub l = x := ⟨_, rfl⟩
  have hc21 : ∀ Z, Below W0.heap.size W0 Z → Calls Try.prog 21 #[.slice va l.length vc] Z fun e w' => e = .returned (.bool ib) ∧ Below Z.heap.size Z w' := fun Z h => by
    rw [← hib]
    exact ris_any l _ Z (HX.out.keep h).bi
  clear hW0 hb2 ha hb hl hsa hsb hsl c0 c1 c2 d0 d1 d2
  rw [hza, hzb, hib] at hno
  clear hza hzb hib
  by_cases q1 : za + zb ≤ 2000
  · have e1 : decide (2000 < za + zb) = false := decide_eq_false (by omega)
    by_cases q2 : l.length ≤ 50
    · have e2 : decide (50 < (l.length : Int)) = false := decide_eq_false (by omega)
      cases ib with
      | true => exact absurd ⟨q1, q2, rfl⟩ hno
      | false =>
        clear hno
        go_enter Try.func6, Try.ntmps6
        go_upto_region 1 with fail
        rw [HW0.out]
        refine wp_region_far (by kernel_rfl) ?_
        iterate 2 (first | go_big_quiet_step (exact calls_far hca _) | quiet_step (exact calls_far hca _))
        iterate 2 (first | go_big_quiet_step (exact calls_far hcb _) | quiet_step (exact calls_far hcb _))
        repeat (first | go_big_quiet_step (exact calls_far hc21 _) | quiet_step (exact calls_far hc21 _))
        refine wpQuiet_nil ?_
        intro W1 hw'
        have b1 : Below W0.heap.size W0 W1 := by
          obtain ⟨pf, hp⟩ := hw'
          rw [hp]
          exact below_far _ pf
        clear hw' hca hcb hc21 m0 m1 m2 n0 n1 n2
        go_wp2_with fail
        refine (alive_any W1).mono ?_
        rintro e W2 ⟨rfl, b2⟩
        go_wp2
        go_ret
        exact ⟨rfl, HB.out.trans ((b1.trans (b2.mono b1.size)).mono HB.out.size)⟩
    · have e2 : decide (50 < (l.length : Int)) = true := decide_eq_true (by omega)
      clear hno
      go_enter Try.func6, Try.ntmps6
      go_upto_region 1 with fail
      rw [HW0.out]
      refine wp_region_far (by kernel_rfl) ?_
      iterate 2 (first | go_big_quiet_step (exact calls_far hca _) | quiet_step (exact calls_far hca _))
      iterate 2 (first | go_big_quiet_step (exact calls_far hcb _) | quiet_step (exact calls_far hcb _))
      repeat (first | go_big_quiet_step (exact calls_far hc21 _) | quiet_step (exact calls_far hc21 _))
      refine wpQuiet_nil ?_
      intro W1 hw'
      have b1 : Below W0.heap.size W0 W1 := by
        obtain ⟨pf, hp⟩ := hw'
        rw [hp]
        exact below_far _ pf
      clear hw' hca hcb hc21 m0 m1 m2 n0 n1 n2
      go_wp2_with fail
      refine (alive_any W1).mono ?_
      rintro e W2 ⟨rfl, b2⟩
      go_wp2
      go_ret
      exact ⟨rfl, HB.out.trans ((b1.trans (b2.mono b1.size)).mono HB.out.size)⟩
  · have e1 : decide (2000 < za + zb) = true := decide_eq_true (by omega)
    clear hno
    go_enter Try.func6, Try.ntmps6
    go_upto_region 1 with fail
    rw [HW0.out]
    refine wp_region_far (by kernel_rfl) ?_
    iterate 2 (first | go_big_quiet_step (exact calls_far hca _) | quiet_step (exact calls_far hca _))
    iterate 2 (first | go_big_quiet_step (exact calls_far hcb _) | quiet_step (exact calls_far hcb _))
    repeat (first | go_big_quiet_step (exact calls_far hc21 _) | quiet_step (exact calls_far hc21 _))
    refine wpQuiet_nil ?_
    intro W1 hw'
    have b1 : Below W0.heap.size W0 W1 := by
      obtain ⟨pf, hp⟩ := hw'
      rw [hp]
      exact below_far _ pf
    clear hw' hca hcb hc21 m0 m1 m2 n0 n1 n2
    go_wp2_with fail
    refine (alive_any W1).mono ?_
    rintro e W2 ⟨rfl, b2⟩
    go_wp2
    go_ret
    exact ⟨rfl, HB.out.trans ((b1.trans (b2.mono b1.size)).mono HB.out.size)⟩

set_option maxRecDepth 100000 in
set_option maxHeartbeats 4000000 in
theorem general_yes (a b : T) (l : List Bd) (sa sb v : Value) (w : World) (ha : ArgsAt w sa a.args) (hb : ArgsAt w sb b.args) (hl : BindsAt w v l) (hsa : a.size ≤ 1048576) (hsb : b.size ≤ 1048576) (hsl : ∀ x ∈ l, x.2.size ≤ 1048576) (hyes : a.size + b.size ≤ 2000 ∧ l.length ≤ 50 ∧ isSub l = true) :
    Calls Try.prog 6 #[tval a sa, tval b sb, v] w fun e W => e = .returned (.bool true) ∧ Below w.heap.size w W := by
  have HO := hid (sub_of hyes.2.2 hsl)
  obtain ⟨pa, pc, rfl, _, _⟩ := ha.slice
  obtain ⟨ta, tc, rfl, _, _⟩ := hb.slice
  obtain ⟨va, vc, rfl⟩ := hl.slice
  have hlen := hl.len
  have hb2 : Below w.heap.size w (tbox2 w a (.slice pa a.args.length pc) b (.slice ta b.args.length tc)) := below_box2 w _ _
  have hX : GE w (tbox2 w a (.slice pa a.args.length pc) b (.slice ta b.args.length tc)) a b pa pc ta tc (.slice va l.length vc) l (tbox2 w a (.slice pa a.args.length pc) b (.slice ta b.args.length tc)) := ⟨⟨tbox2_cells w a _ b _, ArgsAt.keep hb2 (Nat.le_refl _) ha, ArgsAt.keep hb2 (Nat.le_refl _) hb, Below.refl _ _, by simp⟩, hl.keep hb2⟩
  obtain ⟨W0, hW0⟩ : ∃ X, tbox2 w a (.slice pa a.args.length pc) b (.slice ta b.args.length tc) = X := ⟨_, rfl⟩
  have HW0 : Hid (((w.alloc (.cells #[.int .i64 a.v, .string a.fn, .slice pa a.args.length pc] 24)).alloc (.cells #[.int .i64 b.v, .string b.fn, .slice ta b.args.length tc] 24)) = W0) := hW0
  rw [hW0] at hX hb2
  have HX := hid hX
  have HB := hid hb2
  have HS : Hid (a.size ≤ 1048576 ∧ b.size ≤ 1048576 ∧ ∀ x ∈ l, x.2.size ≤ 1048576) := ⟨hsa, hsb, hsl⟩
  obtain ⟨za, hza⟩ : ∃ x, a.size = x := ⟨_, rfl⟩
  obtain ⟨zb, hzb⟩ : ∃ x, b.size = x := ⟨_, rfl⟩
  have g1 : 1 ≤ za ∧ za ≤ 1048576 := by have := size_ge a; omega
  have g2 : 1 ≤ zb ∧ zb ≤ 1048576 := by have := size_ge b; omega
  have hca : ∀ Z, Below W0.heap.size W0 Z → Calls Try.prog 20 #[tval a (.slice pa a.args.length pc)] Z fun e w' => e = .returned (.int .i64 za) ∧ Below Z.heap.size Z w' := fun Z h => (rsize_any a _ Z (HX.out.keep h).ex.a).mono fun e w' ⟨k1, k2⟩ => ⟨by rw [k1, hza, wrap_id (by omega) (by omega)], k2⟩
  have hcb : ∀ Z, Below W0.heap.size W0 Z → Calls Try.prog 20 #[tval b (.slice ta b.args.length tc)] Z fun e w' => e = .returned (.int .i64 zb) ∧ Below Z.heap.size Z w' := fun Z h => (rsize_any b _ Z (HX.out.keep h).ex.b).mono fun e w' ⟨k1, k2⟩ => ⟨by rw [k1, hzb, wrap_id (by omega) (by omega)], k2⟩
  have hsum : wrap64 (za + zb) = za + zb := wrap_id (by omega) (by omega)
  obtain ⟨⟨⟨⟨c0, c1, c2⟩, d0, d1, d2⟩, _, _, _, hs3⟩, _⟩ := hX
  have l0 : w.heap.size < W0.heap.size := by omega
  have m0 := fun q => cell_far l0 c0 q
  have m1 := fun q => cell_far l0 c1 q
  have m2 := fun q => cell_far l0 c2 q
  have n0 := fun q => cell_far hs3 d0 q
  have n1 := fun q => cell_far hs3 d1 q
  have n2 := fun q => cell_far hs3 d2 q
  obtain ⟨ib, hib⟩ : ∃ x, isSub l = x := ⟨_, rfl⟩
  have hc21 : ∀ Z, Below W0.heap.size W0 Z → Calls Try.prog 21 #[.slice va l.length vc] Z fun e w' => e = .returned (.bool ib) ∧ Below Z.heap.size Z w' := fun Z h => by
    rw [← hib]
    exact ris_any l _ Z (HX.out.keep h).bi
  clear hW0 hb2 ha hb hl hsa hsb hsl c0 c1 c2 d0 d1 d2
  rw [hza, hzb, hib] at hyes
  clear hza hzb hib
  obtain ⟨q1, q2, rfl⟩ := hyes
  have e1 : decide (2000 < za + zb) = false := decide_eq_false (by omega)
  have e2 : decide (50 < (l.length : Int)) = false := decide_eq_false (by omega)
  go_enter Try.func6, Try.ntmps6
  go_upto_region 1 with fail
  rw [HW0.out]
  refine wp_region_far (by kernel_rfl) ?_
  iterate 2 (first | go_big_quiet_step (exact calls_far hca _) | quiet_step (exact calls_far hca _))
  iterate 2 (first | go_big_quiet_step (exact calls_far hcb _) | quiet_step (exact calls_far hcb _))
  repeat (first | go_big_quiet_step (exact calls_far hc21 _) | quiet_step (exact calls_far hc21 _))
  refine wpQuiet_nil ?_
  intro W1 hw'
  have b1 : Below W0.heap.size W0 W1 := by
    obtain ⟨pf, hp⟩ := hw'
    rw [hp]
    exact below_far _ pf
  have G1 := hid (HX.out.keep b1)
  clear hw' b1 hca hcb hc21 m0 m1 m2 n0 n1 n2 e1 e2 q1 q2 g1 g2 hsum l0 hs3
  go_wp2
  go_loopw [7] (fun vi wr => ∃ i : Nat, vi = .int .i64 i ∧ i ≤ l.length ∧ GE w W0 a b pa pc ta tc (.slice va l.length vc) l wr) (fun vi _ => l.length - (intOf vi).toNat)
  case atStart => exact ⟨0, rfl, Nat.zero_le _, G1.out⟩
  case round =>
    obtain ⟨i, rfl, hi, hG0⟩ := hrel
    have hG := hid hG0
    clear hG0
    by_cases hlt : i < l.length
    · obtain ⟨bb, bo, s, e', hX⟩ := hG.out.bi.nth hlt
      cases e'
      have hsz := HS.out.2.2 _ (List.getElem_mem hlt)
      obtain ⟨x, hx⟩ : ∃ x, l[i] = x := ⟨_, rfl⟩
      rw [hx] at hX hsz
      obtain ⟨xa, xc, rfl, _, _⟩ := hX.sub.slice
      obtain ⟨zx, hzx⟩ : ∃ z, x.2.size = z := ⟨_, rfl⟩
      have h20 := (rsize_any x.2 _ wr hX.sub).mono (R' := fun e w' => e = .returned (.int .i64 zx) ∧ Below wr.heap.size wr w') fun e w' ⟨k1, k2⟩ => ⟨by rw [k1, hzx, wrap_id (by have := size_ge x.2; omega) (by omega)], k2⟩
      obtain ⟨c0, c1, c2, c3⟩ : wr.cell? ⟨bb, bo + i * 4, none⟩ = some (.int .i64 x.1) ∧ wr.cell? ⟨bb, bo + i * 4 + 1, none⟩ = some (.int .i64 x.2.v) ∧ wr.cell? ⟨bb, bo + i * 4 + 2, none⟩ = some (.string x.2.fn) ∧ wr.cell? ⟨bb, bo + i * 4 + 3, none⟩ = some (.slice xa x.2.args.length xc) := ⟨hX.c0, hX.c1, hX.c2, hX.c3⟩
      have i0 : (i : Int) < (l.length : Int) := by omega
      have i1 : (0 : Int) ≤ (i : Int) := by omega
      clear hX hsz hx hzx
      by_cases hz : 500 < zx
      · have e1 : decide (500 < zx) = true := decide_eq_true hz
        go_wp2_with fail
        refine h20.mono ?_
        rintro e W2 ⟨rfl, b2⟩
        have G2 := hid (hG.out.keep b2)
        clear h20 b2 c0 c1 c2 c3
        go_wp2_with fail
        refine (alive_any W2).mono ?_
        rintro e W3 ⟨rfl, b3⟩
        go_wp2
        go_ret
        exact ⟨rfl, HB.out.trans ((G2.out.ex.bel.trans (b3.mono G2.out.ex.bel.size)).mono HB.out.size)⟩
      · have e1 : decide (500 < zx) = false := decide_eq_false hz
        go_wp2_with fail
        refine h20.mono ?_
        rintro e W2 ⟨rfl, b2⟩
        have G2 := hid (hG.out.keep b2)
        clear h20 b2 c0 c1 c2 c3
        go_wp2
        go_roundw
        case rel => exact ⟨i + 1, by go_num, by omega, G2.out⟩
        case measure => simp [intOf]; omega
    · have hla : ¬ ((i : Int) < (l.length : Int)) := by omega
      have h17a := apply_all l HO.out.1 a HS.out.1 _ _ wr hG.out.bi hG.out.ex.a
      obtain ⟨⟨⟨p0, p1, p2⟩, q0, q1, q2⟩, _⟩ := hG.out.ex
      obtain ⟨xt, hxt⟩ : ∃ x, apT l a = x := ⟨_, rfl⟩
      obtain ⟨ex, hex⟩ : ∃ x, apE l a = x := ⟨_, rfl⟩
      obtain ⟨yt, hyt⟩ : ∃ x, apT l b = x := ⟨_, rfl⟩
      obtain ⟨ey, hey⟩ : ∃ x, apE l b = x := ⟨_, rfl⟩
      rw [hxt, hex] at h17a
      have HQ : Hid (apT l a = xt ∧ apE l a = ex ∧ apT l b = yt ∧ apE l b = ey) := ⟨hxt, hex, hyt, hey⟩
      clear hxt hex hyt hey
      go_wp2_with fail
      refine h17a.mono ?_
      rintro e W3 ⟨sx, rfl, kx, b3⟩
      obtain ⟨xa, xc, rfl, _, _⟩ := kx.slice
      have bA : Below W3.heap.size W3 (W3.alloc (.cells #[.int .i64 xt.v, .string xt.fn, .slice xa xt.args.length xc] 24)) := below_box W3 _
      have cx := tbox_cells W3 xt (.slice xa xt.args.length xc)
      obtain ⟨W4, hW4⟩ : ∃ X, W3.alloc (.cells #[.int .i64 xt.v, .string xt.fn, .slice xa xt.args.length xc] 24) = X := ⟨_, rfl⟩
      have sz4 : W3.heap.size < W4.heap.size := by rw [← hW4]; simp
      have cx4 : W4.cell? ⟨W3.heap.size, 0, none⟩ = some (.int .i64 xt.v) ∧ W4.cell? ⟨W3.heap.size, 1, none⟩ = some (.string xt.fn) ∧ W4.cell? ⟨W3.heap.size, 2, none⟩ = some (.slice xa xt.args.length xc) := by rw [← hW4]; exact cx
      have HW4 := hid hW4
      rw [hW4] at bA
      have G4 := hid ((hG.out.keep b3).keep bA)
      have KX := hid (ArgsAt.keep bA (Nat.le_refl _) kx)
      have CX := hid cx4
      have h17b := apply_all l HO.out.1 b HS.out.2.1 _ _ W4 G4.out.bi G4.out.ex.b
      rw [HQ.out.2.2.1, HQ.out.2.2.2] at h17b
      clear h17a kx b3 bA cx hW4 cx4 p0 p1 p2 q0 q1 q2
      go_upto_region 9 with fail
      rw [HW4.out]
      obtain ⟨⟨⟨p0, p1, p2⟩, q0, q1, q2⟩, _⟩ := G4.out.ex
      go_wp2_with fail
      refine h17b.mono ?_
      rintro e W5 ⟨sy, rfl, ky, b5⟩
      obtain ⟨ya, yc, rfl, _, _⟩ := ky.slice
      have bA : Below W5.heap.size W5 (W5.alloc (.cells #[.int .i64 yt.v, .string yt.fn, .slice ya yt.args.length yc] 24)) := below_box W5 _
      have cy := tbox_cells W5 yt (.slice ya yt.args.length yc)
      obtain ⟨W6, hW6⟩ : ∃ X, W5.alloc (.cells #[.int .i64 yt.v, .string yt.fn, .slice ya yt.args.length yc] 24) = X := ⟨_, rfl⟩
      have cy6 : W6.cell? ⟨W5.heap.size, 0, none⟩ = some (.int .i64 yt.v) ∧ W6.cell? ⟨W5.heap.size, 1, none⟩ = some (.string yt.fn) ∧ W6.cell? ⟨W5.heap.size, 2, none⟩ = some (.slice ya yt.args.length yc) := by rw [← hW6]; exact cy
      have HW6 := hid hW6
      rw [hW6] at bA
      have G6 := hid ((G4.out.keep b5).keep bA)
      have KY := hid (ArgsAt.keep bA (Nat.le_refl _) ky)
      have b46 := b5.trans (bA.mono b5.size)
      have KX6 := hid (ArgsAt.keep b46 (Nat.le_refl _) KX.out)
      obtain ⟨x0, x1, x2⟩ : W6.cell? ⟨W3.heap.size, 0, none⟩ = some (.int .i64 xt.v) ∧ W6.cell? ⟨W3.heap.size, 1, none⟩ = some (.string xt.fn) ∧ W6.cell? ⟨W3.heap.size, 2, none⟩ = some (.slice xa xt.args.length xc) := ⟨kc b46 sz4 CX.out.1, kc b46 sz4 CX.out.2.1, kc b46 sz4 CX.out.2.2⟩
      obtain ⟨y0, y1, y2⟩ := cy6
      have h18 := rsame_any xt yt _ _ W6 KX6.out KY.out
      clear h17b ky b5 bA b46 cy hW6 p0 p1 p2 q0 q1 q2 sz4
      go_upto_region 10 with fail
      rw [HW6.out]
      by_cases he1 : ex = 0
      · have f1 : (ex != 0) = false := by rw [bne_eq_false_iff_eq]; exact he1
        by_cases he2 : ey = 0
        · have f2 : (ey != 0) = false := by rw [bne_eq_false_iff_eq]; exact he2
          cases hsm : same xt yt with
          | false =>
            rw [hsm] at h18
            clear hsm
            go_wp2_with fail
            refine h18.mono ?_
            rintro e W7 ⟨rfl, b7⟩
            have G7 := hid (G6.out.keep b7)
            clear h18 b7
            go_wp2_with fail
            refine (alive_any W7).mono ?_
            rintro e W8 ⟨rfl, b8⟩
            go_wp2
            go_ret
            exact ⟨rfl, HB.out.trans ((G7.out.ex.bel.trans (b8.mono G7.out.ex.bel.size)).mono HB.out.size)⟩
          | true =>
            rw [hsm] at h18
            have HM : Hid (a.rightW = 0 ∧ b.rightW = 0 ∧ a.app (img l) = b.app (img l)) := by
              obtain ⟨k1, k2, k3, k4⟩ := HQ.out
              obtain ⟨j1, j2⟩ := ap_zero (k2.trans he1)
              obtain ⟨j3, j4⟩ := ap_zero (k4.trans he2)
              refine ⟨j1, j3, ?_⟩
              rw [← j2, ← j4, k1, k3]
              exact same_iff.1 hsm
            clear hsm he1 he2
            go_wp2_with fail
            refine h18.mono ?_
            rintro e W7 ⟨rfl, b7⟩
            have G7 := hid (G6.out.keep b7)
            have hu := unify_any a b _ _ W7 G7.out.ex.a G7.out.ex.b HS.out.1 HS.out.2.1
            obtain ⟨⟨⟨p0, p1, p2⟩, q0, q1, q2⟩, _⟩ := G7.out.ex
            clear h18 b7 x0 x1 x2 y0 y1 y2
            go_wp2_with fail
            refine hu.mono ?_
            rintro e W8 ⟨hv, b8⟩
            obtain ⟨m, vm, rfl, km, hm⟩ := general_of hv HM.out.1 HM.out.2.1 HO.out.2 HM.out.2.2
            obtain ⟨ma, mc, rfl⟩ := km.slice
            have hml := km.len
            have G8 := hid (G7.out.keep b8)
            have KM := hid km
            have HMM := hid hm
            clear hu hv b8 km hm p0 p1 p2 q0 q1 q2 f1 f2 hla
            go_wp2
            go_loopw [15] (fun vi wq => ∃ i : Nat, vi = .int .i64 i ∧ i ≤ m.length ∧ GE w W0 a b pa pc ta tc (.slice va l.length vc) l wq ∧ BindsAt wq (.slice ma m.length mc) m) (fun vi _ => m.length - (intOf vi).toNat)
            case atStart => exact ⟨0, rfl, Nat.zero_le _, G8.out, KM.out⟩
            case round =>
              obtain ⟨k, rfl, hk, hG1, hM0⟩ := hrel
              have hG := hid hG1
              have hM := hid hM0
              clear hG1 hM0
              by_cases hlt : k < m.length
              · obtain ⟨bb, bo, s, e', hY⟩ := hM.out.nth hlt
                cases e'
                obtain ⟨o1, o2, o3⟩ := HMM.out _ (List.getElem_mem hlt)
                obtain ⟨y, hy⟩ : ∃ x, m[k] = x := ⟨_, rfl⟩
                rw [hy] at hY o1 o2 o3
                obtain ⟨za', zc', rfl, _, _⟩ := hY.sub.slice
                have h17 := apply_ok l HO.out.1 y.2 o1.rt o1.right (by rw [o3]; exact o2.fits) _ _ wr hG.out.bi hY.sub
                rw [o3] at h17
                obtain ⟨u, hu⟩ : ∃ x, img l y.1 = x := ⟨_, rfl⟩
                rw [hu] at h17
                obtain ⟨c0, c1, c2, c3⟩ : wr.cell? ⟨bb, bo + k * 4, none⟩ = some (.int .i64 y.1) ∧ wr.cell? ⟨bb, bo + k * 4 + 1, none⟩ = some (.int .i64 y.2.v) ∧ wr.cell? ⟨bb, bo + k * 4 + 2, none⟩ = some (.string y.2.fn) ∧ wr.cell? ⟨bb, bo + k * 4 + 3, none⟩ = some (.slice za' y.2.args.length zc') := ⟨hY.c0, hY.c1, hY.c2, hY.c3⟩
                have HU := hid hu
                have HY := hid hY
                have i0 : (k : Int) < (m.length : Int) := by omega
                have i1 : (0 : Int) ≤ (k : Int) := by omega
                clear hY hy o1 o2 o3 hu
                go_wp2_with fail
                refine h17.mono ?_
                rintro e V1 ⟨su, rfl, ku, b1⟩
                obtain ⟨ua, uc, rfl, _, _⟩ := ku.slice
                have bA : Below V1.heap.size V1 (V1.alloc (.cells #[.int .i64 u.v, .string u.fn, .slice ua u.args.length uc] 24)) := below_box V1 _
                have cz := tbox_cells V1 u (.slice ua u.args.length uc)
                obtain ⟨V2, hV2⟩ : ∃ X, V1.alloc (.cells #[.int .i64 u.v, .string u.fn, .slice ua u.args.length uc] 24) = X := ⟨_, rfl⟩
                have sz2 : V1.heap.size < V2.heap.size := by rw [← hV2]; simp
                have cz2 : V2.cell? ⟨V1.heap.size, 0, none⟩ = some (.int .i64 u.v) ∧ V2.cell? ⟨V1.heap.size, 1, none⟩ = some (.string u.fn) ∧ V2.cell? ⟨V1.heap.size, 2, none⟩ = some (.slice ua u.args.length uc) := by rw [← hV2]; exact cz
                have HV2 := hid hV2
                rw [hV2] at bA
                have b12 := b1.trans (bA.mono b1.size)
                have P2 := hid (hG.out.keep b12)
                have M2 := hid (hM.out.keep b12)
                have KU := hid (ArgsAt.keep bA (Nat.le_refl _) ku)
                have CZ := hid cz2
                have d0 : V2.cell? ⟨bb, bo + k * 4, none⟩ = some (.int .i64 y.1) := kc b12 HY.out.lt HY.out.c0
                have h22 := of_any V2 l y.1 _ P2.out.bi V2 (Below.refl _ _)
                rw [HU.out] at h22
                clear h17 ku b1 bA b12 cz hV2 cz2 c0 c1 c2 c3
                go_upto_region 21 with fail
                rw [HV2.out]
                go_wp2_with fail
                refine h22.mono ?_
                rintro e V3 ⟨sv, rfl, kv, b3⟩
                obtain ⟨wa, wc, rfl, _, _⟩ := kv.slice
                have bA : Below V3.heap.size V3 (V3.alloc (.cells #[.int .i64 u.v, .string u.fn, .slice wa u.args.length wc] 24)) := below_box V3 _
                have cw := tbox_cells V3 u (.slice wa u.args.length wc)
                obtain ⟨V4, hV4⟩ : ∃ X, V3.alloc (.cells #[.int .i64 u.v, .string u.fn, .slice wa u.args.length wc] 24) = X := ⟨_, rfl⟩
                have cw4 : V4.cell? ⟨V3.heap.size, 0, none⟩ = some (.int .i64 u.v) ∧ V4.cell? ⟨V3.heap.size, 1, none⟩ = some (.string u.fn) ∧ V4.cell? ⟨V3.heap.size, 2, none⟩ = some (.slice wa u.args.length wc) := by rw [← hV4]; exact cw
                have HV4 := hid hV4
                rw [hV4] at bA
                have b24 := b3.trans (bA.mono b3.size)
                have P4 := hid (P2.out.keep b24)
                have M4 := hid (M2.out.keep b24)
                have h18 := rsame_any u u _ _ V4 (ArgsAt.keep b24 (Nat.le_refl _) KU.out) (ArgsAt.keep b24 (Nat.le_refl _) kv)
                rw [same_iff.mpr rfl] at h18
                obtain ⟨x0, x1, x2⟩ : V4.cell? ⟨V1.heap.size, 0, none⟩ = some (.int .i64 u.v) ∧ V4.cell? ⟨V1.heap.size, 1, none⟩ = some (.string u.fn) ∧ V4.cell? ⟨V1.heap.size, 2, none⟩ = some (.slice ua u.args.length uc) := ⟨kc b24 sz2 CZ.out.1, kc b24 sz2 CZ.out.2.1, kc b24 sz2 CZ.out.2.2⟩
                obtain ⟨y0, y1, y2⟩ := cw4
                clear h22 kv b3 bA b24 cw hV4 d0 sz2
                go_upto_region 22 with fail
                rw [HV4.out]
                go_wp2_with fail
                refine h18.mono ?_
                rintro e V5 ⟨rfl, b5⟩
                have P5 := hid (P4.out.keep b5)
                have M5 := hid (M4.out.keep b5)
                clear h18 b5 x0 x1 x2 y0 y1 y2
                go_wp2
                go_roundw
                case rel => exact ⟨k + 1, by go_num, by omega, P5.out, M5.out⟩
                case measure => simp [intOf]; omega
              · have hlm : ¬ ((k : Int) < (m.length : Int)) := by omega
                go_wp2_with fail
                refine (alive_any wr).mono ?_
                rintro e V2 ⟨rfl, b2⟩
                go_wp2
                go_ret
                exact ⟨rfl, HB.out.trans ((hG.out.ex.bel.trans (b2.mono hG.out.ex.bel.size)).mono HB.out.size)⟩
        · have f2 : (ey != 0) = true := by rw [bne_iff_ne]; exact he2
          clear h18
          go_wp2_with fail
          refine (alive_any W6).mono ?_
          rintro e W8 ⟨rfl, b8⟩
          go_wp2
          go_ret
          exact ⟨rfl, HB.out.trans ((G6.out.ex.bel.trans (b8.mono G6.out.ex.bel.size)).mono HB.out.size)⟩
      · have f1 : (ex != 0) = true := by rw [bne_iff_ne]; exact he1
        clear h18
        go_wp2_with fail
        refine (alive_any W6).mono ?_
        rintro e W8 ⟨rfl, b8⟩
        go_wp2
        go_ret
        exact ⟨rfl, HB.out.trans ((G6.out.ex.bel.trans (b8.mono G6.out.ex.bel.size)).mono HB.out.size)⟩

/-- UnifyGeneral answers true at every two terms and every list of binds. -/
theorem general_any (a b : T) (l : List Bd) (sa sb v : Value) (w : World) (ha : ArgsAt w sa a.args) (hb : ArgsAt w sb b.args) (hl : BindsAt w v l) (hsa : a.size ≤ 1048576) (hsb : b.size ≤ 1048576) (hsl : ∀ x ∈ l, x.2.size ≤ 1048576) :
    Calls Try.prog 6 #[tval a sa, tval b sb, v] w fun e W => e = .returned (.bool true) ∧ Below w.heap.size w W := by
  by_cases h : a.size + b.size ≤ 2000 ∧ l.length ≤ 50 ∧ isSub l = true
  · exact general_yes a b l sa sb v w ha hb hl hsa hsb hsl h
  · exact general_no a b l sa sb v w ha hb hl hsa hsb hsl h

end Go.Proofs.Ytblfbmdnkgebdaa
