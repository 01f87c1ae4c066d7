import Derived.Test.YtblfbmdnkgebdaaHC
import Derived.Test.YtblfbmdnkgebdaaPZ
import Derived.Test.YtblfbmdnkgebdaaGW
import Derived.Maps.AppendAt

/-
  There is one most general unifier; what Unify answers.
-/
namespace Go.Proofs.Ytblfbmdnkgebdaa
open Go.RowKit Go.Maps

theorem Mgu.symm {a b : T} {τ : Ta} (h : Mgu a b τ) : Mgu b a τ :=
  ⟨fun x => (h.dom x).trans or_comm, h.unif.symm, fun θ hθ => h.gen θ hθ.symm, h.least, h.shp⟩

theorem var_of {t : T} (hs : t.shape = true) (hv : uvar t = true) : t = var t.v := by
  rw [T.eta t, (shape_var hs hv).1]
  have : t.fn = ⟨#[]⟩ := ba_empty.1 (by simpa [uvar] using hv)
  rw [this]
  rfl

theorem occ_back {σ σ' : Int → T} {y : Int} {t : T} (ho : Occ y t) : t.shape = true → (t.app σ').app σ = t → (σ' y).app σ = var y := by
  induction ho with
  | here p hv h =>
    intro hs e
    rw [appV σ' hv, h] at e
    rw [e, var_of hs hv, h]
  | sub p a hv ha _ ih =>
    intro hs e
    have hv2 : uvar (T.mk 0 p.fn (p.args.map (T.app σ'))) = false := by simpa [uvar, T.fn] using hv
    rw [appF σ' hv, appF σ hv2] at e
    have e2 := congrArg T.args e
    have e3 : (p.args.map (T.app σ')).map (T.app σ) = p.args := e2
    rw [List.map_map] at e3
    obtain ⟨l, hl, rfl⟩ := List.getElem_of_mem ha
    refine ih (shapeArg hs hl) ?_
    have e4 : (p.args.map (T.app σ ∘ T.app σ'))[l]? = p.args[l]? := by rw [e3]
    rw [List.getElem?_map, List.getElem?_eq_getElem hl] at e4
    simpa using e4

theorem app_fix {σ : Int → T} (t : T) : t.shape = true → (∀ y, Occ y t → σ y = var y) → t.app σ = t := by
  induction t using T.ind with
  | _ t ih =>
    intro hs h
    cases hv : uvar t with
    | true =>
      rw [appV σ hv, h t.v (.here t hv rfl)]
      exact (var_of hs hv).symm
    | false =>
      rw [appF σ hv]
      obtain ⟨h1, _, h3⟩ := shape_fn hs hv
      have e : t.args.map (T.app σ) = t.args := by
        conv => rhs; rw [← List.map_id t.args]
        exact List.map_congr_left fun a ha => ih a ha (h3 a ha) (fun y hy => h y (.sub t a hv ha hy))
      rw [e, T.eta t, h1]
      rfl

/-- There is but one. -/
theorem mgu_one {a b : T} {τ τ' : Ta} (h : Mgu a b τ) (h' : Mgu a b τ') : τ = τ' := by
  funext x
  cases hx : τ x with
  | none =>
    have : ¬ (τ' x ≠ none) := fun hc => (h.dom x).2 ((h'.dom x).1 hc) hx
    exact (Classical.not_not.1 this).symm
  | some t =>
    have hx' : τ' x = some (τ'.sub x) := sub_some' ((h'.dom x).2 ((h.dom x).1 (by rw [hx]; simp)))
    have e1 := h.gen τ'.sub h'.unif x t hx
    have e2 := h'.gen τ.sub h.unif x _ hx'
    rw [hx']
    congr 1
    rw [← e1]
    refine (app_fix t (h.shp x t hx) fun y hy => ?_).symm
    have e3 : (t.app τ'.sub).app τ.sub = t := by
      rw [e1, e2]
      unfold Ta.sub
      rw [hx]
      rfl
    have b := occ_back hy (h.shp x t hx) e3
    cases hy' : τ' y with
    | none => unfold Ta.sub; rw [hy']; rfl
    | some u =>
      have eu : τ'.sub y = u := by unfold Ta.sub; rw [hy']; rfl
      rw [eu] at b ⊢
      have hu : uvar u = true := by
        cases hu : uvar u with
        | true => rfl
        | false =>
          rw [appF _ hu] at b
          have b2 := congrArg T.fn b
          have b3 : u.fn = ⟨#[]⟩ := b2
          rw [uvar, b3] at hu
          cases hu
      rw [appV _ hu] at b
      have l1 := h'.least y u hy' hu
      have ev : u.v = y := by
        cases hz : τ u.v with
        | none =>
          have : τ.sub u.v = var u.v := by unfold Ta.sub; rw [hz]; rfl
          rw [this] at b
          exact congrArg T.v b
        | some s =>
          have es : τ.sub u.v = s := by unfold Ta.sub; rw [hz]; rfl
          rw [es] at b
          have l2 := h.least u.v s hz (by rw [b]; rfl)
          rw [b] at l2
          have l3 : y ≤ u.v := l2
          omega
      rw [var_of (h'.shp y u hy') hu, ev]
where
  sub_some' {τ : Ta} {x : Int} (h : τ x ≠ none) : τ x = some (τ.sub x) := by
    obtain ⟨t, ht⟩ := Option.ne_none_iff_exists'.1 h
    unfold Ta.sub
    rw [ht]; rfl

open Classical in
noncomputable def uT (a b : T) : Ta := if h : ∃ τ, Mgu a b τ then Classical.choose h else fun _ => none
theorem uT_eq {a b : T} {τ : Ta} (h : Mgu a b τ) : uT a b = τ := by
  have hx : ∃ τ, Mgu a b τ := ⟨τ, h⟩
  unfold uT
  rw [dif_pos hx]
  exact mgu_one (Classical.choose_spec hx) h
theorem uT_symm (a b : T) : uT a b = uT b a := by
  by_cases hx : ∃ τ, Mgu a b τ
  · obtain ⟨τ, h⟩ := hx
    rw [uT_eq h, uT_eq h.symm]
  · have hy : ¬ ∃ τ, Mgu b a τ := fun ⟨τ, h⟩ => hx ⟨τ, h.symm⟩
    unfold uT
    rw [dif_neg hx, dif_neg hy]
open Classical in
noncomputable def uK (τ : Ta) : List Int := if h : ∃ ks, RiseT τ ks then Classical.choose h else []
theorem uK_eq {τ : Ta} {ks : List Int} (h : RiseT τ ks) : uK τ = ks := by
  have hx : ∃ ks, RiseT τ ks := ⟨ks, h⟩
  unfold uK
  rw [dif_pos hx]
  have h2 := Classical.choose_spec hx
  exact rising_eq h2.1 h.1 fun x => by rw [h2.2 x, h.2 x]
/-- Does Unify say yes; its error; its list. -/
def UOk (a b : T) : Prop := (a.rightW = 0 ∧ b.rightW = 0) ∧ (∃ τ, Mgu a b τ) ∧ FitsT (uT a b)
open Classical in
noncomputable def uB (a b : T) : Bool := decide (UOk a b)
open Classical in
noncomputable def uE (a b : T) : Int := if ¬ (a.rightW = 0 ∧ b.rightW = 0) then 1 else if (∃ τ, Mgu a b τ) ∧ ¬ FitsT (uT a b) then 3 else 0
open Classical in
noncomputable def uL (a b : T) : List Bd := if UOk a b then listB (uT a b) (uK (uT a b)) else []

theorem unify_ans {a b : T} {e : Ending} {W : World} (h : UnifyIs a b e W) : ∃ v, e = .returned (.tuple #[v, .bool (uB a b), .int .i64 (uE a b)]) ∧ BindsAt W v (uL a b) := by
  unfold uB uE uL UOk
  rcases h with ⟨h1, rfl⟩ | ⟨h1, h2, rfl⟩ | ⟨h1, τ, hM, (⟨⟨x, t, hx, hn⟩, rfl⟩ | ⟨hf, v, ks, rfl, h3, h4⟩)⟩
  · exact ⟨.slice none 0 0, by simp [h1], by simp [h1]; exact binds_nil W⟩
  · have hno : ¬ ∃ τ, Mgu a b τ := fun ⟨τ, hM⟩ => h2 _ hM.unif
    exact ⟨.slice none 0 0, by simp [h1, hno], by simp [hno]; exact binds_nil W⟩
  · have hex : ∃ τ, Mgu a b τ := ⟨τ, hM⟩
    have hnf : ¬ FitsT (uT a b) := by rw [uT_eq hM]; exact fun hf => hn (hf x t hx)
    exact ⟨.slice none 0 0, by simp [h1, hex, hnf], by simp [hnf]; exact binds_nil W⟩
  · have hex : ∃ τ, Mgu a b τ := ⟨τ, hM⟩
    have hf' : FitsT (uT a b) := by rw [uT_eq hM]; exact hf
    refine ⟨v, by simp [h1, hex, hf'], ?_⟩
    rw [if_pos ⟨h1, hex, hf'⟩, uT_eq hM, uK_eq h3]
    exact h4

theorem uok_symm {a b : T} : UOk a b ↔ UOk b a := by
  unfold UOk
  rw [uT_symm a b]
  constructor
  · rintro ⟨h1, ⟨τ, h2⟩, h3⟩; exact ⟨h1.symm, ⟨τ, h2.symm⟩, h3⟩
  · rintro ⟨h1, ⟨τ, h2⟩, h3⟩; exact ⟨h1.symm, ⟨τ, h2.symm⟩, h3⟩
theorem u_symm (a b : T) : uB a b = uB b a ∧ uE a b = uE b a ∧ uL a b = uL b a := by
  have hm : (∃ τ, Mgu a b τ) ↔ ∃ τ, Mgu b a τ := ⟨fun ⟨τ, h⟩ => ⟨τ, h.symm⟩, fun ⟨τ, h⟩ => ⟨τ, h.symm⟩⟩
  have hr : (a.rightW = 0 ∧ b.rightW = 0) ↔ (b.rightW = 0 ∧ a.rightW = 0) := and_comm
  refine ⟨?_, ?_, ?_⟩
  · unfold uB
    by_cases h : UOk a b
    · have h' := uok_symm.1 h; simp [h, h']
    · have h' : ¬ UOk b a := fun h' => h (uok_symm.2 h'); simp [h, h']
  · unfold uE
    rw [uT_symm a b]
    by_cases h : a.rightW = 0 ∧ b.rightW = 0
    · rw [if_neg (show ¬ ¬ (a.rightW = 0 ∧ b.rightW = 0) from fun hc => hc h), if_neg (show ¬ ¬ (b.rightW = 0 ∧ a.rightW = 0) from fun hc => hc (hr.1 h))]
      by_cases q : (∃ τ, Mgu a b τ) ∧ ¬ FitsT (uT b a)
      · rw [if_pos q, if_pos ⟨hm.1 q.1, q.2⟩]
      · rw [if_neg q, if_neg (fun q' => q ⟨hm.2 q'.1, q'.2⟩)]
    · have h' : ¬ (b.rightW = 0 ∧ a.rightW = 0) := fun h' => h (hr.2 h')
      rw [if_pos h, if_pos h']
  · unfold uL
    rw [uT_symm a b]
    by_cases h : UOk a b
    · rw [if_pos h, if_pos (uok_symm.1 h)]
    · rw [if_neg h, if_neg (fun h' => h (uok_symm.2 h'))]

theorem occ_bound {x : Int} {t : T} (h : Occ x t) : t.shape = true → 0 ≤ x ∧ x < 1000000 := by
  induction h with
  | here p hv e => intro hs; have := shape_var hs hv; omega
  | sub p a hv ha _ ih => intro hs; exact ih ((shape_fn hs hv).2.2 a ha)
theorem var_shape {x : Int} (h : 0 ≤ x ∧ x < 1000000) : (var x).shape = true := by
  rw [T.shape_eq, if_pos (by rfl)]
  simp [var, T.v, T.args, h.1, h.2]

/-- A term with itself. -/
theorem u_self {a : T} (h : a.rightW = 0) : uB a a = true ∧ uE a a = 0 ∧ uL a a = [] := by
  classical
  have hs := right_shape h
  have hM : Mgu a a (fun x => if Occ x a then some (var x) else none) := by
    refine ⟨fun x => ?_, rfl, fun θ _ x t hx => ?_, fun x t hx hv => ?_, fun x t hx => ?_⟩
    · by_cases ho : Occ x a <;> simp [ho]
    · by_cases ho : Occ x a
      · simp [ho] at hx; subst hx; exact var_app x θ
      · simp [ho] at hx
    · by_cases ho : Occ x a
      · simp [ho] at hx; subst hx; exact Int.le_refl _
      · simp [ho] at hx
    · by_cases ho : Occ x a
      · simp [ho] at hx; subst hx; exact var_shape (occ_bound ho hs)
      · simp [ho] at hx
  have hf : FitsT (uT a a) := by
    rw [uT_eq hM]
    intro x t hx
    by_cases ho : Occ x a
    · simp [ho] at hx; subst hx; have := var_size x; omega
    · simp [ho] at hx
  have hok : UOk a a := ⟨⟨h, h⟩, ⟨_, hM⟩, hf⟩
  refine ⟨by unfold uB; simp [hok], ?_, ?_⟩
  · unfold uE; simp [h, hf]
  · unfold uL
    rw [if_pos hok, uT_eq hM]
    unfold listB
    rw [List.filterMap_eq_nil_iff]
    intro k _
    unfold bindOf
    by_cases ho : Occ k a
    · simp [ho]
      exact ⟨rfl, rfl⟩
    · simp [ho]

end Go.Proofs.Ytblfbmdnkgebdaa

/-
  What Match tells makes the pattern the term: mathematics.
-/
namespace Go.Proofs.Ytblfbmdnkgebdaa
open Go.RowKit Go.Maps

/-- Right, without the machine's numbers. -/
structure OkT (t : T) : Prop where
  shape : t.shape = true
  size : t.size ≤ 4000
  depth : t.depth ≤ 60

theorem depth_arg {t : T} {l : Nat} (hl : l < t.args.length) : t.args[l].depth < t.depth := by
  rw [T.depth_eq t]
  have key : ∀ (q : List T) (x : T) (m : Int), x ∈ q → x.depth ≤ (q.map T.depth).foldl max m := by
    intro q
    induction q with
    | nil => intro x m hx; cases hx
    | cons a r ih =>
      intro x m hx
      simp only [List.map_cons, List.foldl_cons]
      rcases List.mem_cons.1 hx with rfl | hx
      · have := fmax_ge (r.map T.depth) (max m x.depth); omega
      · exact ih x _ hx
  have := key t.args t.args[l] 0 (List.getElem_mem hl)
  omega

theorem OkT.arg {t : T} (h : OkT t) {l : Nat} (hl : l < t.args.length) : OkT t.args[l] := by
  have h1 := nn_arg hl
  have h2 := T.nn_size t
  have h3 := T.nn_size t.args[l]
  have h4 := depth_arg hl
  exact ⟨shapeArg h.shape hl, by have := h.size; omega, by have := h.depth; omega⟩

theorem ok_of {t : T} (h : t.rightW = 0) (hs : t.size ≤ 1048576) : OkT t := by
  have hsh := right_shape h
  obtain ⟨_, hn⟩ := right_zero h hs
  have h2 := T.nn_size t
  have hd : t.depth ≤ t.size := by
    have key : ∀ t : T, t.depth ≤ t.size := by
      intro t
      induction t using T.ind with
      | _ t ih =>
        rw [T.depth_eq, T.size_eq]
        have : ∀ (q : List T) (m : Int), (∀ a ∈ q, a.depth ≤ a.size) → 0 ≤ m → (q.map T.depth).foldl max m ≤ m + (q.map T.size).sum := by
          intro q
          induction q with
          | nil => intro m _ _; simp
          | cons a r ihr =>
            intro m hq hm
            simp only [List.map_cons, List.foldl_cons, List.sum_cons]
            have h1 := hq a List.mem_cons_self
            have h2 := size_ge a
            have h3 := ihr (max m a.depth) (fun x hx => hq x (List.mem_cons_of_mem _ hx)) (by omega)
            have h4 : 0 ≤ (r.map T.size).sum := by
              clear h3 ihr hq
              induction r with
              | nil => simp
              | cons b s ihs => have := size_ge b; simp only [List.map_cons, List.sum_cons]; omega
            omega
        have := this t.args 0 ih (Int.le_refl _)
        omega
    exact key t
  have hdw := depthW_small t (by omega)
  refine ⟨hsh, by omega, ?_⟩
  unfold T.rightW at h
  rw [if_neg (by rw [hsh]; simp)] at h
  by_cases e : 60 < t.depthW
  · rw [if_pos e] at h; omega
  · rw [hdw] at e; omega

theorem OkT.right {t : T} (h : OkT t) : t.rightW = 0 := by
  have h1 := h.size
  have h2 := h.depth
  have h3 := size_ge t
  have hdw := depthW_small t (by omega)
  unfold T.rightW
  rw [if_neg (by rw [h.shape]; simp), if_neg (by rw [hdw]; omega), if_neg (by unfold wrap64; omega)]
theorem OkT.rt {t : T} (h : OkT t) : Rt t := ⟨h.shape, h.size, h.depth, (short_of t (by have := h.size; omega)).1⟩
theorem OkT.fits {t : T} (h : OkT t) : fitsW t = 0 := by
  unfold fitsW
  rw [if_neg (by have := h.depth; omega), if_neg (by have := h.size; omega)]

theorem find_list {τ : Ta} {n : Int} : ∀ {ks : List Int}, ks.Pairwise (· < ·) → ((ks.filterMap (bindOf τ)).find? fun b => decide (b.1 = n)) = if n ∈ ks then bindOf τ n else none
  | [], _ => by simp
  | k :: r, h => by
    obtain ⟨h1, h2⟩ := List.pairwise_cons.1 h
    have ih := find_list (τ := τ) (n := n) h2
    by_cases e : n = k
    · subst e
      have hn : n ∉ r := fun hm => by have := h1 n hm; omega
      rw [if_pos List.mem_cons_self]
      rw [if_neg hn] at ih
      cases hb : bindOf τ n with
      | none => rw [List.filterMap_cons_none hb]; exact ih
      | some x =>
        have : x.1 = n := by
          unfold bindOf at hb
          split at hb
          · split at hb
            · cases hb
            · cases hb; rfl
          · cases hb
        rw [List.filterMap_cons_some hb, List.find?_cons, decide_eq_true this]
    · have e2 : (n ∈ k :: r) ↔ n ∈ r := by simp [e]
      cases hb : bindOf τ k with
      | none => rw [List.filterMap_cons_none hb, ih]; simp only [e2]
      | some x =>
        have hx : x.1 = k := by
          unfold bindOf at hb
          split at hb
          · split at hb
            · cases hb
            · cases hb; rfl
          · cases hb
        rw [List.filterMap_cons_some hb, List.find?_cons, decide_eq_false (by rw [hx]; exact fun h => e h.symm), ih]
        simp only [e2]

/-- The list does what τ does. -/
theorem img_list {τ : Ta} {ks : List Int} (hk : RiseT τ ks) (hs : ∀ x t, τ x = some t → t.shape = true) : img (listB τ ks) = τ.sub := by
  funext n
  unfold img listB
  rw [find_list hk.1]
  by_cases hn : n ∈ ks
  · rw [if_pos hn]
    obtain ⟨t, ht⟩ := Option.ne_none_iff_exists'.1 ((hk.2 n).1 hn)
    unfold Ta.sub
    rw [ht]
    unfold bindOf
    rw [ht]
    by_cases h : uvar t = true ∧ t.v = n
    · simp only [h, and_self, if_true]
      show var n = t
      rw [var_of (hs n t ht) h.1, h.2]
    · simp only [if_neg h]
      rfl
  · rw [if_neg hn]
    have : τ n = none := Classical.byContradiction fun h => hn ((hk.2 n).2 h)
    unfold Ta.sub
    rw [this]
    rfl

theorem fit_app {τ : Ta} {p t : T} (h : Fit τ p t) : t.shape = true → p.app τ.sub = t := by
  induction h with
  | var p t hv h => intro _; rw [appV _ hv]; unfold Ta.sub; rw [h]; rfl
  | fn p t hv hf hl h ih =>
    intro hs
    have hv' : uvar t = false := by rw [← uvar_congr hf]; exact hv
    rw [appF _ hv, T.eta t, (shape_fn hs hv').1, hf]
    congr 1
    refine List.ext_getElem (by rw [List.length_map, hl]) fun i h1 h2 => ?_
    rw [List.getElem_map]
    rw [List.length_map] at h1
    exact ih i h1 h2 (shapeArg hs h2)

theorem fit_part {τ : Ta} {x : Int} {p : T} (ho : Occ x p) : ∀ {t u : T}, Fit τ p t → τ x = some u → OkT t → OkT u := by
  induction ho with
  | here p hv h =>
    intro t u hf hx hk
    rw [fit_var hv, h, hx] at hf
    cases hf
    exact hk
  | sub p a hv ha _ ih =>
    intro t u hf hx hk
    cases hf with
    | var _ _ hv' _ => rw [hv] at hv'; cases hv'
    | fn _ _ _ hff hl h =>
      obtain ⟨i, hi, rfl⟩ := List.getElem_of_mem ha
      exact ih (h i hi (by omega)) hx (hk.arg (by omega))

theorem nodup_le : ∀ {l m : List Int}, l.Nodup → (∀ x ∈ l, x ∈ m) → l.length ≤ m.length
  | [], _, _, _ => by simp
  | a :: r, m, h, hs => by
    obtain ⟨h1, h2⟩ := List.nodup_cons.1 h
    have ha := hs a List.mem_cons_self
    have := nodup_le (l := r) (m := m.erase a) h2 (fun x hx => (List.mem_erase_of_ne (fun e => h1 (by first | (rw [← e]; exact hx) | (rw [e]; exact hx) | (subst e; exact hx)))).2 (hs x (List.mem_cons_of_mem _ hx)))
    rw [List.length_erase_of_mem ha] at this
    have : 0 < m.length := List.length_pos_of_mem ha
    simp only [List.length_cons]
    omega

/-- The variables of a term, as they stand. -/
def T.vl : T → List Int
  | .mk v fn args => if fn.size = 0 then [v] else vls args
where vls : List T → List Int
  | [] => []
  | a :: r => T.vl a ++ vls r
theorem T.vls_eq : ∀ l : List T, T.vl.vls l = l.flatMap T.vl
  | [] => rfl
  | a :: r => by simp [T.vl.vls, T.vls_eq r]
theorem T.vl_eq (t : T) : t.vl = if t.fn.size = 0 then [t.v] else t.args.flatMap T.vl := by
  cases t with
  | mk v fn args => simp [T.vl, T.v, T.fn, T.args, T.vls_eq]
theorem occ_vl {x : Int} {t : T} (h : Occ x t) : x ∈ t.vl := by
  induction h with
  | here p hv e => rw [T.vl_eq, if_pos (uvar_iff.1 hv)]; simp [e]
  | sub p a hv ha _ ih => rw [T.vl_eq, if_neg (fun h => by rw [uvar_iff.2 h] at hv; cases hv)]; exact List.mem_flatMap.2 ⟨a, ha, ih⟩
theorem vl_len (t : T) : t.vl.length ≤ t.nn := by
  induction t using T.ind with
  | _ t ih =>
    rw [T.vl_eq, T.nn_eq]
    split
    · simp
    · have : ∀ q : List T, (∀ a ∈ q, a.vl.length ≤ a.nn) → (q.flatMap T.vl).length ≤ (q.map T.nn).sum := by
        intro q
        induction q with
        | nil => intro _; simp
        | cons a r ihr =>
          intro hq
          have h1 := hq a List.mem_cons_self
          have h2 := ihr fun x hx => hq x (List.mem_cons_of_mem _ hx)
          simp only [List.flatMap_cons, List.length_append, List.map_cons, List.sum_cons]
          omega
      have := this t.args ih
      omega

theorem list_mem {τ : Ta} {ks : List Int} {x : Bd} (h : x ∈ listB τ ks) : x.1 ∈ ks ∧ τ x.1 = some x.2 ∧ ¬ (uvar x.2 = true ∧ x.2.v = x.1) := by
  unfold listB at h
  obtain ⟨k, hk, hb⟩ := List.mem_filterMap.1 h
  unfold bindOf at hb
  split at hb
  · rename_i t ht
    split at hb
    · cases hb
    · rename_i hn
      cases hb
      exact ⟨hk, ht, hn⟩
  · cases hb
theorem list_rise {τ : Ta} {ks : List Int} (h : ks.Pairwise (· < ·)) : (listB τ ks).Pairwise fun a b => a.1 < b.1 := by
  unfold listB
  rw [List.pairwise_filterMap]
  refine h.imp fun {a b} hab x hx y hy => ?_
  have e1 : x.1 = a := by
    unfold bindOf at hx
    split at hx
    · split at hx
      · cases hx
      · cases hx; rfl
    · cases hx
  have e2 : y.1 = b := by
    unfold bindOf at hy
    split at hy
    · split at hy
      · cases hy
      · cases hy; rfl
    · cases hy
  omega

/-- A list of binds of such terms, of few variables, is a substitution. -/
theorem list_sub {τ : Ta} {ks : List Int} (hk : RiseT τ ks) (hd : ∀ x, τ x ≠ none → 0 ≤ x ∧ x < 1000000) (ho : ∀ x t, τ x = some t → OkT t) (hl : (listB τ ks).length ≤ 4000) : Sb (listB τ ks) := by
  have hr := list_rise (τ := τ) hk.1
  refine ⟨⟨hl, fun j hj => ?_⟩, fun x hx => (ho x.1 x.2 (list_mem hx).2.1).rt⟩
  obtain ⟨h1, h2, h3⟩ := list_mem (List.getElem_mem hj)
  have hb := hd _ (by rw [h2]; simp)
  have hprv : prv (listB τ ks) j < (listB τ ks)[j].1 := by
    cases j with
    | zero => show (-1 : Int) < _; omega
    | succ j =>
      rw [prv_succ _ j (by omega)]
      exact List.pairwise_iff_getElem.1 hr j (j + 1) (by omega) hj (by omega)
  unfold okb own1
  simp only [Bool.and_eq_true, decide_eq_true_eq, Bool.not_eq_true', Bool.and_eq_false_iff, decide_eq_false_iff_not]
  refine ⟨⟨⟨hprv, hb.2⟩, ?_⟩, (ho _ _ h2).right⟩
  by_cases hv : (listB τ ks)[j].2.fn.size = 0
  · exact .inr fun e => h3 ⟨uvar_iff.2 hv, e⟩
  · exact .inl hv

/-- What Match tells: a substitution that makes the pattern the term. -/
theorem match_sub {a b : T} {τ : Ta} {ks : List Int} (ha : OkT a) (hb : OkT b) (hm : mres a b = some τ) (hk : RiseT τ ks) : Sb (listB τ ks) ∧ a.app (img (listB τ ks)) = b := by
  obtain ⟨_, k2, k3⟩ := (mrun_says (mres_run a b)).1 τ hm
  have kf : Fit τ a b := k2 (a, b) List.mem_cons_self
  have kd : ∀ x, τ x ≠ none → Occ x a := fun x h => by
    rcases k3 x h with h | ⟨q, hq, h⟩
    · exact absurd rfl h
    · simp only [List.mem_singleton] at hq; subst hq; exact h
  have hok : ∀ x t, τ x = some t → OkT t := fun x t hx => fit_part (kd x (by rw [hx]; simp)) kf hx hb
  refine ⟨list_sub hk (fun x hx => occ_bound (kd x hx) ha.shape) hok ?_, ?_⟩
  · have h1 := listB_len τ ks
    have h2 := nodup_le (l := ks) (m := a.vl) (hk.1.imp (fun h => by omega)) (fun x hx => occ_vl (kd x ((hk.2 x).1 hx)))
    have h3 := vl_len a
    have h4 := T.nn_size a
    have h5 := ha.size
    omega
  · rw [img_list hk (fun x t hx => (hok x t hx).shape)]
    exact fit_app kf hb.shape

end Go.Proofs.Ytblfbmdnkgebdaa

/-
  UnifyDoubles: terms that double; what unifies them.
-/
namespace Go.Proofs.Ytblfbmdnkgebdaa
open Go.RowKit Go.Maps

def gg (x : T) : T := .mk 0 ⟨#[103]⟩ [x, x]
def ff (l : List T) : T := .mk 0 ⟨#[102]⟩ l
/-- The tree that a variable becomes. -/
def dbl : Nat → T
  | 0 => var 0
  | k + 1 => gg (dbl k)
def dla (n : Nat) : List T := (List.range n).map fun (j : Nat) => var ((j : Int) + 1)
def dlb (n : Nat) : List T := (List.range n).map fun (j : Nat) => gg (var (j : Int))
def dT (n : Nat) : Ta := fun x => if 0 ≤ x ∧ x ≤ (n : Int) then some (dbl x.toNat) else none

theorem app_v (θ : Int → T) (x : Int) : (var x).app θ = θ x := by rw [T.app_eq]; rfl
theorem app_g (θ : Int → T) (t : T) : (gg t).app θ = gg (t.app θ) := by rw [T.app_eq]; rfl
theorem app_f (θ : Int → T) (l : List T) : (ff l).app θ = ff (l.map (T.app θ)) := by rw [T.app_eq]; rfl
theorem ff_inj {l m : List T} (h : ff l = ff m) : l = m := by unfold ff at h; injection h
theorem occ_v {x y : Int} : Occ x (var y) ↔ x = y := by
  constructor
  · intro h
    cases h with
    | here _ _ h => exact h.symm
    | sub _ _ hv _ _ => cases hv
  · rintro rfl
    exact .here _ rfl rfl
theorem occ_g {x : Int} {t : T} : Occ x (gg t) ↔ Occ x t := by
  constructor
  · intro h
    cases h with
    | here _ hv _ => cases hv
    | sub _ a _ ha h =>
      have : a = t := by simpa [gg, T.args] using ha
      exact this ▸ h
  · intro h
    exact .sub _ t rfl (by simp [gg, T.args]) h
theorem occ_f {x : Int} {l : List T} : Occ x (ff l) ↔ ∃ t ∈ l, Occ x t := by
  constructor
  · intro h
    cases h with
    | here _ hv _ => cases hv
    | sub _ a _ ha h => exact ⟨a, ha, h⟩
  · rintro ⟨t, ht, h⟩
    exact .sub _ t rfl ht h

theorem dbl_shape : ∀ k, (dbl k).shape = true
  | 0 => rfl
  | k + 1 => by
    have ih := dbl_shape k
    show (gg (dbl k)).shape = true
    rw [T.shape_eq]
    show (if (1 : Nat) = 0 then _ else decide ((0 : Int) = 0) && decide ((1 : Nat) ≤ 64) && decide ((2 : Nat) ≤ 16) && [dbl k, dbl k].all T.shape) = true
    simp [ih]
theorem dbl_size : ∀ k, (dbl k).size = 2 ^ (k + 1) - 1
  | 0 => by rfl
  | k + 1 => by
    have ih := dbl_size k
    show (gg (dbl k)).size = _
    rw [T.size_eq]
    show 1 + ([dbl k, dbl k].map T.size).sum = _
    simp only [List.map_cons, List.map_nil, List.sum_cons, List.sum_nil, ih]
    rw [Int.pow_succ (2 : Int) (k + 1)]
    omega
theorem dbl_depth : ∀ k : Nat, (dbl k).depth = k + 1
  | 0 => by rfl
  | k + 1 => by
    have ih := dbl_depth k
    show (gg (dbl k)).depth = _
    rw [T.depth_eq]
    show ([dbl k, dbl k].map T.depth).foldl max 0 + 1 = _
    simp only [List.map_cons, List.map_nil, List.foldl_cons, List.foldl_nil, ih]
    omega
theorem dbl_var {k : Nat} (h : uvar (dbl k) = true) : k = 0 := by
  cases k with
  | zero => rfl
  | succ k => cases h

theorem dT_some {n : Nat} {x : Int} {t : T} (h : dT n x = some t) : ∃ k : Nat, k ≤ n ∧ x = k ∧ t = dbl k := by
  unfold dT at h
  by_cases hx : 0 ≤ x ∧ x ≤ (n : Int)
  · rw [if_pos hx] at h
    cases h
    exact ⟨x.toNat, by omega, by omega, rfl⟩
  · rw [if_neg hx] at h
    cases h
theorem dT_at {n k : Nat} (h : k ≤ n) : dT n k = some (dbl k) := by
  unfold dT
  rw [if_pos (by omega)]
  rfl
theorem dT_sub {n k : Nat} (h : k ≤ n) : (dT n).sub k = dbl k := by
  unfold Ta.sub
  rw [dT_at h]
  rfl

theorem dbl_mgu (n : Nat) (h1 : 1 ≤ n) : Mgu (ff (dla n)) (ff (dlb n)) (dT n) := by
  refine ⟨fun x => ?_, ?_, fun θ hθ x t hx => ?_, fun x t hx hv => ?_, fun x t hx => ?_⟩
  · rw [occ_f, occ_f]
    constructor
    · intro h
      obtain ⟨t, ht⟩ := Option.ne_none_iff_exists'.1 h
      obtain ⟨k, hk, rfl, -⟩ := dT_some ht
      cases k with
      | zero => exact .inr ⟨gg (var ((0 : Nat) : Int)), List.mem_map.2 ⟨0, by simp; omega, rfl⟩, occ_g.2 (occ_v.2 rfl)⟩
      | succ k => exact .inl ⟨var ((k : Int) + 1), List.mem_map.2 ⟨k, by simp; omega, rfl⟩, occ_v.2 (by omega)⟩
    · rintro (⟨t, ht, h⟩ | ⟨t, ht, h⟩)
      · obtain ⟨j, hj, rfl⟩ := List.mem_map.1 ht
        have hj' : j < n := by simpa using hj
        rw [occ_v.1 h, show (j : Int) + 1 = ((j + 1 : Nat) : Int) by omega, dT_at (by omega)]
        simp
      · obtain ⟨j, hj, rfl⟩ := List.mem_map.1 ht
        have hj' : j < n := by simpa using hj
        rw [occ_v.1 (occ_g.1 h), dT_at (by omega)]
        simp
  · rw [app_f, app_f]
    congr 1
    unfold dla dlb
    rw [List.map_map, List.map_map]
    refine List.map_congr_left fun j hj => ?_
    have hj' : j < n := by simpa using hj
    show (var ((j : Int) + 1)).app _ = (gg (var (j : Int))).app _
    rw [app_v, app_g, app_v, show (j : Int) + 1 = ((j + 1 : Nat) : Int) by omega, dT_sub (by omega), dT_sub (by omega)]
    rfl
  · obtain ⟨k, hk, rfl, rfl⟩ := dT_some hx
    rw [app_f, app_f] at hθ
    have hl := ff_inj hθ
    unfold dla dlb at hl
    rw [List.map_map, List.map_map] at hl
    have hj : ∀ j : Nat, j < n → θ ((j : Int) + 1) = gg (θ j) := fun j hj => by
      have := List.map_inj_left.1 hl j (by simpa using hj)
      simpa [app_v, app_g] using this
    clear hx hl hθ
    induction k with
    | zero => exact app_v θ 0
    | succ k ih =>
      show (gg (dbl k)).app θ = _
      rw [app_g, ih (by omega), show ((k + 1 : Nat) : Int) = (k : Int) + 1 by omega, hj k (by omega)]
  · obtain ⟨k, hk, rfl, rfl⟩ := dT_some hx
    have := dbl_var hv
    subst this
    exact Int.le_refl _
  · obtain ⟨k, hk, rfl, rfl⟩ := dT_some hx
    exact dbl_shape k

theorem dbl_right : ∀ n : Fin 17, ((ff (dla n)).shape = true ∧ (ff (dla n)).size ≤ 4000 ∧ (ff (dla n)).depth ≤ 60) ∧ ((ff (dlb n)).shape = true ∧ (ff (dlb n)).size ≤ 4000 ∧ (ff (dlb n)).depth ≤ 60) := by decide +kernel
theorem dla_ok {n : Nat} (h : n ≤ 16) : OkT (ff (dla n)) := by
  obtain ⟨⟨h1, h2, h3⟩, _⟩ := dbl_right ⟨n, by omega⟩
  exact ⟨h1, h2, h3⟩
theorem dlb_ok {n : Nat} (h : n ≤ 16) : OkT (ff (dlb n)) := by
  obtain ⟨_, h1, h2, h3⟩ := dbl_right ⟨n, by omega⟩
  exact ⟨h1, h2, h3⟩

theorem pow_mono {a b : Nat} (h : a ≤ b) : (2 : Int) ^ a ≤ 2 ^ b := by
  obtain ⟨c, rfl⟩ := Nat.le.dest h
  induction c with
  | zero => exact Int.le_refl _
  | succ c ih =>
    have := ih (by omega)
    rw [show a + (c + 1) = (a + c) + 1 from rfl, Int.pow_succ]
    have h0 : (0 : Int) ≤ 2 ^ a := Int.pow_nonneg (by omega)
    omega

theorem dT_fits {n : Nat} (h : n ≤ 16) : FitsT (dT n) ↔ n ≤ 10 := by
  constructor
  · intro hf
    have h1 := (hf n _ (dT_at (Nat.le_refl n))).1
    rw [dbl_size] at h1
    by_cases hn : n ≤ 10
    · exact hn
    · have := pow_mono (show 12 ≤ n + 1 by omega)
      have h2 : (2 : Int) ^ 12 = 4096 := by rfl
      omega
  · intro hn x t hx
    obtain ⟨k, hk, rfl, rfl⟩ := dT_some hx
    rw [dbl_size, dbl_depth]
    have := pow_mono (show k + 1 ≤ 11 by omega)
    have h2 : (2 : Int) ^ 11 = 2048 := by rfl
    omega

def dks (n : Nat) : List Int := (List.range (n + 1)).map fun (j : Nat) => (j : Int)
theorem dT_keys (n : Nat) : RiseT (dT n) (dks n) := by
  refine ⟨?_, fun x => ?_⟩
  · unfold dks
    rw [List.pairwise_map]
    exact List.pairwise_lt_range.imp fun h => by omega
  · unfold dks
    constructor
    · intro h
      obtain ⟨j, hj, rfl⟩ := List.mem_map.1 h
      have hj' : j < n + 1 := by simpa using hj
      rw [dT_at (by omega)]
      simp
    · intro h
      obtain ⟨t, ht⟩ := Option.ne_none_iff_exists'.1 h
      obtain ⟨k, hk, rfl, -⟩ := dT_some ht
      exact List.mem_map.2 ⟨k, by simp; omega, rfl⟩
def dbs (n : Nat) : List Bd := (List.range n).map fun (j : Nat) => ((j : Int) + 1, dbl (j + 1))
theorem filterMap_some {α β : Type} {f : α → Option β} {g : α → β} : ∀ {l : List α}, (∀ a ∈ l, f a = some (g a)) → l.filterMap f = l.map g
  | [], _ => rfl
  | a :: r, h => by
    rw [List.filterMap_cons, h a List.mem_cons_self, List.map_cons, filterMap_some fun x hx => h x (List.mem_cons_of_mem _ hx)]
theorem dT_list (n : Nat) : listB (dT n) (dks n) = dbs n := by
  unfold listB dks dbs
  rw [List.range_succ_eq_map, List.map_cons, List.filterMap_cons]
  have h0 : bindOf (dT n) ((0 : Nat) : Int) = none := by
    unfold bindOf
    rw [dT_at (Nat.zero_le n)]
    exact if_pos (show uvar (dbl 0) = true ∧ (dbl 0).v = ((0 : Nat) : Int) from ⟨rfl, rfl⟩)
  rw [h0, List.map_map, List.filterMap_map]
  refine filterMap_some fun j hj => ?_
  have hj' : j < n := by simpa using hj
  show bindOf (dT n) ((j + 1 : Nat) : Int) = _
  unfold bindOf
  rw [dT_at (by omega)]
  simp only
  rw [if_neg fun h => by cases h.1]
  rfl

/-- What Unify answers. -/
theorem dbl_ans {n : Nat} (h1 : 1 ≤ n) (h2 : n ≤ 16) : uB (ff (dla n)) (ff (dlb n)) = decide (n ≤ 10) ∧ uE (ff (dla n)) (ff (dlb n)) = (if n ≤ 10 then 0 else 3) ∧ uL (ff (dla n)) (ff (dlb n)) = (if n ≤ 10 then dbs n else []) := by
  have hm := dbl_mgu n h1
  have hr : (ff (dla n)).rightW = 0 ∧ (ff (dlb n)).rightW = 0 := ⟨(dla_ok h2).right, (dlb_ok h2).right⟩
  have hx : ∃ τ, Mgu (ff (dla n)) (ff (dlb n)) τ := ⟨_, hm⟩
  have hf := dT_fits h2
  have hu : UOk (ff (dla n)) (ff (dlb n)) ↔ n ≤ 10 := by
    unfold UOk
    rw [uT_eq hm, hf]
    exact ⟨fun h => h.2.2, fun h => ⟨hr, hx, h⟩⟩
  refine ⟨?_, ?_, ?_⟩
  · unfold uB
    simp only [hu]
  · unfold uE
    rw [if_neg fun k => k hr, uT_eq hm, hf]
    by_cases h : n ≤ 10
    · rw [if_pos h, if_neg fun k => k.2 h]
    · rw [if_neg h, if_pos ⟨hx, h⟩]
  · unfold uL
    by_cases h : n ≤ 10
    · rw [if_pos h, if_pos (hu.2 h), uT_eq hm, uK_eq (dT_keys n), dT_list]
    · rw [if_neg h, if_neg fun k => h (hu.1 k)]

end Go.Proofs.Ytblfbmdnkgebdaa

/-
  alive: the chapter's examples, in memory.
-/
namespace Go.Proofs.Ytblfbmdnkgebdaa
open Go.RowKit Go.Maps

theorem args_two {W : World} {N : Nat} {v0 v1 : Int} {f0 f1 : ByteArray} (h : W.heap[N]? = some (.cells #[.int .i64 v0, .string f0, .slice none 0 0, .int .i64 v1, .string f1, .slice none 0 0] 24 (0, 0))) : ArgsAt W (.slice (some ⟨N, 0, none⟩) 2 2) [.mk v0 f0 [], .mk v1 f1 []] := by
  have hl : N < W.heap.size := (Array.getElem?_eq_some_iff.1 h).1
  refine .mk (some ⟨N, 0, none⟩) 2 [.mk v0 f0 [], .mk v1 f1 []] (fun _ => .slice none 0 0) (Nat.le_refl _) (by decide) (fun _ => ⟨N, 0, hl, rfl, fun i hi => ?_⟩) (fun i hi => ?_)
  · match i, hi with
    | 0, _ => refine ⟨?_, ?_, ?_⟩ <;> simp [World.cell?, h, T.v, T.fn]
    | 1, _ => refine ⟨?_, ?_, ?_⟩ <;> simp [World.cell?, h, T.v, T.fn]
  · match i, hi with
    | 0, _ => exact (ArgsFr.nil 0 W).args
    | 1, _ => exact (ArgsFr.nil 0 W).args
theorem args_one {W : World} {N : Nat} {v0 : Int} {f0 : ByteArray} (h : W.heap[N]? = some (.cells #[.int .i64 v0, .string f0, .slice none 0 0] 24 (0, 0))) : ArgsAt W (.slice (some ⟨N, 0, none⟩) 1 1) [.mk v0 f0 []] := by
  have hl : N < W.heap.size := (Array.getElem?_eq_some_iff.1 h).1
  refine .mk (some ⟨N, 0, none⟩) 1 [.mk v0 f0 []] (fun _ => .slice none 0 0) (Nat.le_refl _) (by decide) (fun _ => ⟨N, 0, hl, rfl, fun i hi => ?_⟩) (fun i hi => ?_)
  · match i, hi with
    | 0, _ => refine ⟨?_, ?_, ?_⟩ <;> simp [World.cell?, h, T.v, T.fn]
  · match i, hi with
    | 0, _ => exact (ArgsFr.nil 0 W).args

theorem small2 (c : UInt8) (x y : T) (hx : x.size = 1) (hy : y.size = 1) : (fn2 c x y).size ≤ 1048576 := by rw [T.size_eq]; simp [T.args, hx, hy]
theorem small1 (c : UInt8) (x : T) (hx : x.size = 1) : (fn1 c x).size ≤ 1048576 := by rw [T.size_eq]; simp [T.args, hx]

theorem un_one (W : World) (sa sb : Value) (ha : ArgsAt W sa [var 0, cn 98]) (hb : ArgsAt W sb [cn 97, var 1]) :
    Calls Try.prog 9 #[.agg #[.int .i64 0, .string ⟨#[102]⟩, sa], .agg #[.int .i64 0, .string ⟨#[102]⟩, sb]] W fun e W' => ∃ v, e = .returned (.tuple #[v, .bool true, .int .i64 0]) ∧ BindsAt W' v [(0, cn 97), (1, cn 98)] ∧ Below W.heap.size W W' := by
  refine (unify_any (fn2 102 (var 0) (cn 98)) (fn2 102 (cn 97) (var 1)) sa sb W ha hb (small2 _ _ _ (var_size 0).1 (cn_small 98).1) (small2 _ _ _ (cn_small 97).1 (var_size 1).1)).mono ?_
  rintro e W' ⟨h1, h2⟩
  obtain ⟨v, h3, h4⟩ := ex_one e W' h1
  exact ⟨v, h3, h4, h2⟩
theorem un_two (W : World) (sb : Value) (hb : ArgsAt W sb [var 0]) :
    Calls Try.prog 9 #[.agg #[.int .i64 0, .string ⟨#[]⟩, .slice none 0 0], .agg #[.int .i64 0, .string ⟨#[103]⟩, sb]] W fun e W' => e = .returned (.tuple #[.slice none 0 0, .bool false, .int .i64 0]) ∧ Below W.heap.size W W' := by
  refine (unify_any (var 0) (fn1 103 (var 0)) (.slice none 0 0) sb W (ArgsFr.nil 0 W).args hb (by have := (var_size 0).1; omega) (small1 _ _ (var_size 0).1)).mono ?_
  rintro e W' ⟨h1, h2⟩
  exact ⟨ex_two e W' h1, h2⟩
theorem un_three (W : World) :
    Calls Try.prog 9 #[.agg #[.int .i64 3, .string ⟨#[]⟩, .slice none 0 0], .agg #[.int .i64 1, .string ⟨#[]⟩, .slice none 0 0]] W fun e W' => ∃ v, e = .returned (.tuple #[v, .bool true, .int .i64 0]) ∧ BindsAt W' v [(3, var 1)] ∧ Below W.heap.size W W' := by
  refine (unify_any (var 3) (var 1) (.slice none 0 0) (.slice none 0 0) W (ArgsFr.nil 0 W).args (ArgsFr.nil 0 W).args (by have := (var_size 3).1; omega) (by have := (var_size 1).1; omega)).mono ?_
  rintro e W' ⟨h1, h2⟩
  obtain ⟨v, h3, h4⟩ := ex_three e W' h1
  exact ⟨v, h3, h4, h2⟩

set_option maxRecDepth 100000 in
set_option maxHeartbeats 4000000 in
theorem alive_any (w : World) : Calls Try.prog 12 #[] w fun e W => e = .returned (.bool true) ∧ Below w.heap.size w W := by
  obtain ⟨W2, hW2⟩ : ∃ X, (w.alloc (.cells #[.int .i64 0, .string ⟨#[97]⟩, .slice none 0 0] 24)).alloc (.cells #[.int .i64 0, .string ⟨#[98]⟩, .slice none 0 0] 24) = X := ⟨_, rfl⟩
  have s2 : W2.heap.size = w.heap.size + 1 + 1 := by rw [← hW2]; simp
  obtain ⟨W4, hW4⟩ : ∃ X, (W2.alloc (.cells #[.int .i64 0, .string ⟨#[]⟩, .slice none 0 0, .int .i64 0, .string ⟨#[98]⟩, .slice none 0 0] 24)).alloc (.cells #[.int .i64 0, .string ⟨#[97]⟩, .slice none 0 0, .int .i64 1, .string ⟨#[]⟩, .slice none 0 0] 24) = X := ⟨_, rfl⟩
  have e0 : W4.heap[w.heap.size + 1 + 1]? = some (.cells #[.int .i64 0, .string ⟨#[]⟩, .slice none 0 0, .int .i64 0, .string ⟨#[98]⟩, .slice none 0 0] 24 (0, 0)) := by
    rw [← hW4, ← s2]
    exact ((below_box (W2.alloc _) _).block _ (by simp)).trans (MapKept.heap_alloc W2 _).1
  have e1 : W4.heap[w.heap.size + 1 + 1 + 1]? = some (.cells #[.int .i64 0, .string ⟨#[97]⟩, .slice none 0 0, .int .i64 1, .string ⟨#[]⟩, .slice none 0 0] 24 (0, 0)) := by
    have := (MapKept.heap_alloc (W2.alloc (.cells #[.int .i64 0, .string ⟨#[]⟩, .slice none 0 0, .int .i64 0, .string ⟨#[98]⟩, .slice none 0 0] 24)) (.cells #[.int .i64 0, .string ⟨#[97]⟩, .slice none 0 0, .int .i64 1, .string ⟨#[]⟩, .slice none 0 0] 24)).1
    rw [World.size_alloc, s2, hW4] at this
    exact this
  have b4 : Below w.heap.size w W4 := by
    have h1 : Below w.heap.size w W2 := by rw [← hW2]; exact below_box2 w _ _
    have h2 : Below W2.heap.size W2 W4 := by rw [← hW4]; exact below_box2 W2 _ _
    exact h1.trans (h2.mono h1.size)
  have h1 := un_one W4 _ _ (args_two e0) (args_two e1)
  have HW4 : Hid (_ = W4) := hW4
  rw [← hW2] at HW4
  have HB4 := hid b4
  clear e0 e1 b4 hW4 s2 hW2
  go_enter Try.func12, Try.ntmps12
  go_wp2_with fail
  rw [HW4.out]
  refine h1.mono ?_
  clear h1
  rintro e W5 ⟨v1, rfl, l1, b5⟩
  obtain ⟨a1, c1, rfl, _, _, hx⟩ := l1
  obtain ⟨g1, o1, rfl, hy⟩ := hx (by simp)
  obtain ⟨q1, k1⟩ := hy 1 (by simp)
  obtain ⟨W6, hW6⟩ : ∃ X, W5.alloc (.cells #[.int .i64 0, .string ⟨#[]⟩, .slice none 0 0] 24) = X := ⟨_, rfl⟩
  have b6 : Below W5.heap.size W5 W6 := by rw [← hW6]; exact below_box W5 _
  have e6 : W6.heap[W5.heap.size]? = some (.cells #[.int .i64 0, .string ⟨#[]⟩, .slice none 0 0] 24 (0, 0)) := by rw [← hW6]; exact (MapKept.heap_alloc W5 _).1
  have h2 := un_two W6 _ (args_one e6)
  have HW6 := hid hW6
  have HK1 : Hid (BindAt W5 g1 (o1 + 1 * 4) (1, cn 98) q1 ∧ Below w.heap.size w W5 ∧ Below W5.heap.size W5 W6) := ⟨k1, HB4.out.trans (b5.mono HB4.out.size), b6⟩
  clear e6 b6 hW6 k1 hx hy b5
  go_wp2_with fail
  rw [HW6.out]
  refine h2.mono ?_
  clear h2
  rintro e W7 ⟨rfl, b7⟩
  have h3 := un_three W7
  have HB7 := hid b7
  clear b7
  go_wp2_with fail
  refine h3.mono ?_
  clear h3
  rintro e W8 ⟨v3, rfl, l3, b8⟩
  obtain ⟨a3, c3, rfl, _, _, hx⟩ := l3
  obtain ⟨g3, o3, rfl, hy⟩ := hx (by simp)
  obtain ⟨q3, k3⟩ := hy 0 (by simp)
  have h58 : Below W5.heap.size W5 W8 := (HK1.out.2.2.trans (HB7.out.mono HK1.out.2.2.size)).trans (b8.mono (Nat.le_trans HK1.out.2.2.size HB7.out.size))
  have y1 := kc h58 HK1.out.1.lt HK1.out.1.c2
  have y3x := k3.c0
  have y3 : W8.cell? ⟨g3, o3, none⟩ = some (.int .i64 3) := by simpa using y3x
  have y1a : W8.cell? ⟨g1, o1 + 6, none⟩ = some (.string ⟨#[98]⟩) := y1
  have y1b : W8.cell? ⟨g1, o1 + 4 + 2, none⟩ = some (.string ⟨#[98]⟩) := y1
  have y1c : W8.cell? ⟨g1, o1 + 4 + 1 + 1, none⟩ = some (.string ⟨#[98]⟩) := y1
  have HE : Hid (Below w.heap.size w W8) := HK1.out.2.1.trans (h58.mono HK1.out.2.1.size)
  clear hx hy k3 b8 h58 y1 y3x
  go_wp2
  go_ret
  exact ⟨ret_bool (by simp), HE.out⟩

end Go.Proofs.Ytblfbmdnkgebdaa

/-
  UnifyDoubles: two rows of terms that grow beside one another.
-/
namespace Go.Proofs.Ytblfbmdnkgebdaa
open Go.RowKit Go.Maps

/-- The cells of a row of terms. -/
def flatT (ps : List (T × Value)) : List Value := ps.flatMap fun p => [.int .i64 p.1.v, .string p.1.fn, p.2]
theorem flatT_snoc (ps : List (T × Value)) (p : T × Value) : flatT (ps ++ [p]) = flatT ps ++ [.int .i64 p.1.v, .string p.1.fn, p.2] := by simp [flatT]
theorem flatT_get : ∀ (ps : List (T × Value)) (i : Nat) (h : i < ps.length), (flatT ps)[i * 3]? = some (.int .i64 ps[i].1.v) ∧ (flatT ps)[i * 3 + 1]? = some (.string ps[i].1.fn) ∧ (flatT ps)[i * 3 + 2]? = some ps[i].2
  | [], i, h => absurd h (by simp)
  | p :: r, 0, _ => by simp [flatT]
  | p :: r, i + 1, h => by
    have ih := flatT_get r i (by simpa using h)
    have e : flatT (p :: r) = [.int .i64 p.1.v, .string p.1.fn, p.2] ++ flatT r := rfl
    have hs : ∀ k, (flatT (p :: r))[3 + k]? = (flatT r)[k]? := fun k => by
      rw [e, List.getElem?_append_right (by simp)]
      simp
    have e0 : (i + 1) * 3 = 3 + i * 3 := by omega
    rw [e0, show 3 + i * 3 + 1 = 3 + (i * 3 + 1) by omega, show 3 + i * 3 + 2 = 3 + (i * 3 + 2) by omega, hs, hs, hs]
    simpa using ih

theorem argsP_of_row {W : World} {base n : Nat} {P : Nat → Prop} {v : Value} {l : List T} {ps : List (T × Value)} (h : W.ownsRow base 24 3 v n (flatT ps)) (hn : l.length = n) (hps : ps.map (·.1) = l) (hP : ∀ b, base ≤ b → P b) (hsl : ∀ p ∈ ps, ArgsP P W p.2 p.1.args) : ArgsP P W v l := by
  subst hn
  have hlen : ps.length = l.length := by rw [← hps]; simp
  have hi : ∀ i (h : i < l.length), (ps[i]'(by omega)).1 = l[i] := fun i h => by subst hps; simp
  have sub : ∀ i (h : i < l.length), ArgsP P W ((fun i => (ps[i]?.map (·.2)).getD undef) i) l[i].args := by
    intro i hil
    have := hsl (ps[i]'(by omega)) (List.getElem_mem _)
    rw [hi i hil] at this
    simpa only [List.getElem?_eq_getElem (show i < ps.length by omega), Option.map_some, Option.getD_some] using this
  rcases h.2 with ⟨e, hn⟩ | ⟨g, cap, cur, e, hb, hg, hcap, hmax, hsz, htk⟩
  · have : l = [] := List.length_eq_zero_iff.1 hn
    subst this
    subst e
    exact ArgsP.nil P W
  · subst e
    refine .mk _ cap l _ hcap (by unfold maxLen at hmax; omega) (fun h0 => ⟨g, 0, hP g hb, (Array.getElem?_eq_some_iff.1 hg).1, rfl, fun i hil => ?_⟩) sub
    obtain ⟨f1, f2, f3⟩ := flatT_get ps i (by omega)
    have look : ∀ j u, j < l.length * 3 → (flatT ps)[j]? = some u → W.cell? ⟨g, 0 + j, none⟩ = some u := fun j u hj hu => by
      rw [Nat.zero_add, cell_of_row _ _ _ _ 24 (0, 0) hg]
      rw [← htk, List.getElem?_take_of_lt hj] at hu
      simpa using hu
    rw [hi i hil] at f1 f2
    refine ⟨look _ _ (by omega) f1, ?_, ?_⟩
    · exact look _ _ (by omega) f2
    · refine (look _ _ (by omega) f3).trans ?_
      simp only [List.getElem?_eq_getElem (show i < ps.length by omega), Option.map_some, Option.getD_some]


def pA (i : Nat) : List (T × Value) := (List.range i).map fun (j : Nat) => (var ((j : Int) + 1), Value.slice none 0 0)
def pB (N : Nat → Nat) (i : Nat) : List (T × Value) := (List.range i).map fun (j : Nat) => (gg (var (j : Int)), Value.slice (some ⟨N j, 0, none⟩) 2 2)
def updN (N : Nat → Nat) (i M : Nat) : Nat → Nat := fun k => if k = i then M else N k
theorem pA_snoc (i : Nat) : flatT (pA (i + 1)) = flatT (pA i) ++ [.int .i64 ((i : Int) + 1), .string ⟨#[]⟩, .slice none 0 0] := by
  have : pA (i + 1) = pA i ++ [(var ((i : Int) + 1), Value.slice none 0 0)] := by unfold pA; rw [List.range_succ, List.map_append]; rfl
  rw [this, flatT_snoc]
  rfl
theorem pB_snoc (N : Nat → Nat) (i M : Nat) : flatT (pB (updN N i M) (i + 1)) = flatT (pB N i) ++ [.int .i64 0, .string ⟨#[103]⟩, .slice (some ⟨M, 0, none⟩) 2 2] := by
  have : pB (updN N i M) (i + 1) = pB N i ++ [(gg (var (i : Int)), Value.slice (some ⟨M, 0, none⟩) 2 2)] := by
    unfold pB
    rw [List.range_succ, List.map_append]
    congr 1
    · refine List.map_congr_left fun j hj => ?_
      have hj' : j < i := by simpa using hj
      unfold updN
      rw [if_neg (by omega)]
    · simp [updN]
  rw [this, flatT_snoc]
  rfl

/-- Both terms in their boxes, i arguments of the one and j of the other. -/
structure Db (w : World) (i j : Nat) (sA sB : Value) (N : Nat → Nat) (W : World) : Prop where
  bel : Below w.heap.size w W
  ba : W.heap[w.heap.size]? = some (.cells #[.int .i64 0, .string ⟨#[102]⟩, sA] 24 (0, 0))
  bb : W.heap[w.heap.size + 1]? = some (.cells #[.int .i64 0, .string ⟨#[102]⟩, sB] 24 (0, 0))
  ra : W.ownsRow (w.heap.size + 2) 24 3 sA i (flatT (pA i))
  rb : W.ownsRow (w.heap.size + 2) 24 3 sB j (flatT (pB N j))
  ne : ∀ k, sA.ownBlock = some k → sB.ownBlock ≠ some k
  nk : ∀ l, l < j → W.heap[N l]? = some (.cells #[.int .i64 l, .string ⟨#[]⟩, .slice none 0 0, .int .i64 l, .string ⟨#[]⟩, .slice none 0 0] 24 (0, 0)) ∧ w.heap.size + 2 ≤ N l ∧ sA.ownBlock ≠ some (N l) ∧ sB.ownBlock ≠ some (N l)

variable {w : World} {i j : Nat} {sA sB : Value} {N : Nat → Nat} {W : World}

theorem Db.lt (h : Db w i j sA sB N W) : w.heap.size + 1 < W.heap.size := (Array.getElem?_eq_some_iff.1 h.bb).1

theorem Db.pushA (h : Db w i j sA sB N W) {Y W' : World} {v' : Value} (hY : Below W.heap.size W Y) (hrow : W'.ownsRow (w.heap.size + 2) 24 3 v' (i + 1) (flatT (pA i) ++ [.int .i64 ((i : Int) + 1), .string ⟨#[]⟩, .slice none 0 0])) (hg : Y.grownBy W' sA.ownBlock) (ho : v'.ownBlock = sA.ownBlock ∨ v'.ownBlock = some Y.heap.size) :
    Db w (i + 1) j v' sB N (W'.setCell ⟨w.heap.size, 2, none⟩ v') := by
  have hlt := h.lt
  have hYs := hY.size
  have hws := h.bel.size
  have kb : ∀ k, k < W.heap.size → sA.ownBlock ≠ some k → W'.heap[k]? = W.heap[k]? := fun k hk hne => (hg.block k (Nat.lt_of_lt_of_le hk hY.size) (fun e => hne e.symm)).trans (hY.block k hk)
  have nA : ∀ k, k < w.heap.size + 2 → sA.ownBlock ≠ some k := fun k hk e => by have := (h.ra.lt k e).1; omega
  have st : ∀ k, k ≠ w.heap.size → (W'.setCell ⟨w.heap.size, 2, none⟩ v').heap[k]? = W'.heap[k]? := fun k hk => Below.heap_setCell _ _ _ k hk
  have nv : ∀ k, k < W.heap.size → sA.ownBlock ≠ some k → v'.ownBlock ≠ some k := fun k hk hne e => by
    rcases ho with o | o
    · exact hne (o.symm.trans e)
    · rw [o] at e
      cases e
      omega
  refine ⟨?_, ?_, ?_, ?_, ?_, fun k e e' => ?_, fun l hl => ?_⟩
  · exact (h.bel.trans ⟨hg.os.trans hY.os, hg.tape.trans hY.tape, hg.output.trans hY.output, Nat.le_trans hY.size hg.size, fun k hk => kb k (by omega) (nA k (by omega))⟩).setCell (p := ⟨w.heap.size, 2, none⟩) (Nat.le_refl _) _
  · have := heap_setCell_same W' w.heap.size 2 #[.int .i64 0, .string ⟨#[102]⟩, sA] 24 v' ((kb _ (by omega) (nA _ (by omega))).trans h.ba)
    simpa using this
  · rw [st _ (by omega)]
    exact (kb _ hlt (nA _ (by omega))).trans h.bb
  · rw [pA_snoc]
    exact row6_keep hrow (fun k e => st k (by have := (hrow.lt k e).1; omega))
  · exact row6_keep h.rb (fun k e => (st k (by have := (h.rb.lt k e).1; omega)).trans (kb k (h.rb.lt k e).2 (fun e' => h.ne k e' e)))
  · exact nv k (h.rb.lt k e').2 (fun q => h.ne k q e') e
  · obtain ⟨k1, k2, k3, k4⟩ := h.nk l hl
    have hb := (Array.getElem?_eq_some_iff.1 k1).1
    refine ⟨?_, k2, nv _ hb k3, k4⟩
    rw [st _ (by omega)]
    exact (kb _ hb k3).trans k1

theorem Db.pushB (h : Db w i j sA sB N W) {Y W' : World} {v' : Value} {M : Nat} (hY : Below W.heap.size W Y) (hM : Y.heap[M]? = some (.cells #[.int .i64 j, .string ⟨#[]⟩, .slice none 0 0, .int .i64 j, .string ⟨#[]⟩, .slice none 0 0] 24 (0, 0))) (hMW : W.heap.size ≤ M) (hrow : W'.ownsRow (w.heap.size + 2) 24 3 v' (j + 1) (flatT (pB N j) ++ [.int .i64 0, .string ⟨#[103]⟩, .slice (some ⟨M, 0, none⟩) 2 2])) (hg : Y.grownBy W' sB.ownBlock) (ho : v'.ownBlock = sB.ownBlock ∨ v'.ownBlock = some Y.heap.size) :
    Db w i (j + 1) sA v' (updN N j M) (W'.setCell ⟨w.heap.size + 1, 2, none⟩ v') := by
  have hlt := h.lt
  have hYs := hY.size
  have hws := h.bel.size
  have kb : ∀ k, k < W.heap.size → sB.ownBlock ≠ some k → W'.heap[k]? = W.heap[k]? := fun k hk hne => (hg.block k (Nat.lt_of_lt_of_le hk hY.size) (fun e => hne e.symm)).trans (hY.block k hk)
  have nB : ∀ k, k < w.heap.size + 2 → sB.ownBlock ≠ some k := fun k hk e => by have := (h.rb.lt k e).1; omega
  have st : ∀ k, k ≠ w.heap.size + 1 → (W'.setCell ⟨w.heap.size + 1, 2, none⟩ v').heap[k]? = W'.heap[k]? := fun k hk => Below.heap_setCell _ _ _ k hk
  have nv : ∀ k, k < W.heap.size → sB.ownBlock ≠ some k → v'.ownBlock ≠ some k := fun k hk hne e => by
    rcases ho with o | o
    · exact hne (o.symm.trans e)
    · rw [o] at e
      cases e
      omega
  have hMY := (Array.getElem?_eq_some_iff.1 hM).1
  refine ⟨?_, ?_, ?_, ?_, ?_, fun k e e' => ?_, fun l hl => ?_⟩
  · exact (h.bel.trans ⟨hg.os.trans hY.os, hg.tape.trans hY.tape, hg.output.trans hY.output, Nat.le_trans hY.size hg.size, fun k hk => kb k (by omega) (nB k (by omega))⟩).setCell (p := ⟨w.heap.size + 1, 2, none⟩) (Nat.le_succ _) _
  · rw [st _ (by omega)]
    exact (kb _ (by omega) (nB _ (by omega))).trans h.ba
  · have := heap_setCell_same W' (w.heap.size + 1) 2 #[.int .i64 0, .string ⟨#[102]⟩, sB] 24 v' ((kb _ hlt (nB _ (by omega))).trans h.bb)
    simpa using this
  · exact row6_keep h.ra (fun k e => (st k (by have := (h.ra.lt k e).1; omega)).trans (kb k (h.ra.lt k e).2 (fun e' => h.ne k e e')))
  · rw [pB_snoc]
    exact row6_keep hrow (fun k e => st k (by have := (hrow.lt k e).1; omega))
  · exact nv k (h.ra.lt k e).2 (fun q => h.ne k e q) e'
  · unfold updN
    by_cases hlj : l = j
    · rw [if_pos hlj]
      subst hlj
      have nM : sB.ownBlock ≠ some M := fun e => by have := (h.rb.lt M e).2; omega
      refine ⟨?_, by omega, fun e => by have := (h.ra.lt M e).2; omega, fun e => ?_⟩
      · rw [st _ (by omega)]
        exact (hg.block M hMY (fun e => nM e.symm)).trans hM
      · rcases ho with o | o
        · exact nM (o.symm.trans e)
        · rw [o] at e
          cases e
          omega
    · rw [if_neg hlj]
      obtain ⟨k1, k2, k3, k4⟩ := h.nk l (by omega)
      have hb := (Array.getElem?_eq_some_iff.1 k1).1
      refine ⟨?_, k2, k3, nv _ hb k4⟩
      rw [st _ (by omega)]
      exact (kb _ hb k4).trans k1

/-- The arguments, in blocks behind the boxes. -/
theorem Db.argsA (h : Db w i j sA sB N W) : ArgsP (fun k => w.heap.size + 2 ≤ k) W sA (dla i) := by
  refine argsP_of_row h.ra (by simp [dla]) (by unfold pA dla; rw [List.map_map]; rfl) (fun b hb => hb) fun p hp => ?_
  obtain ⟨l, _, rfl⟩ := List.mem_map.1 hp
  exact ArgsP.nil _ _
theorem Db.argsB (h : Db w i j sA sB N W) : ArgsP (fun k => w.heap.size + 2 ≤ k) W sB (dlb j) := by
  refine argsP_of_row h.rb (by simp [dlb]) (by unfold pB dlb; rw [List.map_map]; rfl) (fun b hb => hb) fun p hp => ?_
  obtain ⟨l, hl, rfl⟩ := List.mem_map.1 hp
  obtain ⟨k1, k2, -, -⟩ := h.nk l (by simpa using hl)
  have hb := (Array.getElem?_eq_some_iff.1 k1).1
  show ArgsP _ W (.slice (some ⟨N l, 0, none⟩) [var (l : Int), var (l : Int)].length 2) [var (l : Int), var (l : Int)]
  refine .mk _ _ _ (fun _ => .slice none 0 0) (by simp) (by decide) (fun _ => ⟨N l, 0, k2, hb, rfl, fun q hq => ?_⟩) (fun q hq => ?_)
  · have hq' : q = 0 ∨ q = 1 := by simp at hq; omega
    rcases hq' with rfl | rfl <;> simp [World.cell?, k1, var, T.v, T.fn]
  · have hq' : q = 0 ∨ q = 1 := by simp at hq; omega
    rcases hq' with rfl | rfl <;> exact ArgsP.nil _ _

end Go.Proofs.Ytblfbmdnkgebdaa
