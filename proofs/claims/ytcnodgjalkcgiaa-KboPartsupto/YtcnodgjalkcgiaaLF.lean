/-
  Parts and the order: plain mathematics.
-/
import Derived.Test.YtcnodgjalkcgiaaLE
import Derived.Test.YtcnodgjalkcgiaaKW
import Derived.Test.YtcnodgjalkcgiaaKZ
namespace Go.Proofs.Ytcnodgjalkcgiaa
open Go.RowKit Go.Maps

theorem gr_mem {g : Sg} {t a : T} (h : a ∈ t.args) : gr g t a := (gr_eq g t a).2 ⟨arg_vle h, .inl (arg_wt h)⟩

theorem at_cons {i : Int} {p : List Int} {t r : T} (h : T.at (i :: p) t = some r) : ∃ (k : Nat) (hk : k < t.args.length), i = k ∧ T.at p t.args[k] = some r := by
  have h' : (if h : 0 ≤ i ∧ i < (t.args.length : Int) then T.at p (t.args[i.toNat]'(by omega)) else none) = some r := h
  by_cases hi : 0 ≤ i ∧ i < (t.args.length : Int)
  · rw [dif_pos hi] at h'
    exact ⟨i.toNat, by omega, by omega, h'⟩
  · rw [dif_neg hi] at h'
    cases h'

theorem rep_cons {k : Nat} {p : List Int} {s t : T} (hk : k < t.args.length) : T.rep ((k : Int) :: p) s t = (T.rep p s t.args[k]).map (fun x => .mk 0 t.fn (t.args.set k x)) := by
  show (if h : 0 ≤ (k : Int) ∧ (k : Int) < (t.args.length : Int) then _ else _) = _
  rw [dif_pos (by omega)]
  rfl

/-- A part lies below the whole. -/
theorem at_gr (g : Sg) : ∀ (p : List Int) (t r : T), p ≠ [] → T.at p t = some r → gr g t r
  | [], _, _, h, _ => absurd rfl h
  | i :: p, t, r, _, h => by
    obtain ⟨k, hk, _, h1⟩ := at_cons h
    by_cases hp : p = []
    · subst hp
      have : t.args[k] = r := Option.some.inj h1
      rw [← this]
      exact gr_mem (List.getElem_mem hk)
    · exact gr_trans g _ _ _ (gr_mem (List.getElem_mem hk)) (at_gr g p _ r hp h1)

/-- Where there is a part, it can be put anew. -/
theorem at_rep (s : T) : ∀ (p : List Int) (t r : T), T.at p t = some r → T.rep p s t ≠ none
  | [], _, _, _ => by simp [T.rep]
  | i :: p, t, r, h => by
    obtain ⟨k, hk, rfl, h1⟩ := at_cons h
    rw [rep_cons hk]
    have := at_rep s p _ r h1
    cases hx : T.rep p s t.args[k] with
    | none => exact absurd hx this
    | some x => simp

/-- A smaller part makes a smaller whole. -/
theorem rep_gr (g : Sg) (s : T) : ∀ (p : List Int) (t u r : T), t.shape = true → T.at p t = some u → T.rep p s t = some r → gr g u s → gr g t r
  | [], t, u, r, _, h1, h2, h => by
    have e1 : t = u := Option.some.inj h1
    have e2 : s = r := Option.some.inj h2
    rw [e1, ← e2]
    exact h
  | i :: p, t, u, r, hs, h1, h2, h => by
    obtain ⟨k, hk, rfl, h3⟩ := at_cons h1
    rw [rep_cons hk] at h2
    rcases shape_cases hs with ⟨_, _, _, h4⟩ | ⟨h4, _, _, _, h5⟩
    · rw [h4] at hk; simp at hk
    cases hx : T.rep p s t.args[k] with
    | none => rw [hx] at h2; cases h2
    | some x =>
      rw [hx] at h2
      have e : T.mk 0 t.fn (t.args.set k x) = r := Option.some.inj h2
      have ih := rep_gr g s p _ u x (h5 _ (List.getElem_mem hk)) h3 hx h
      have e1 : t = .mk t.v t.fn (t.args.take k ++ t.args[k] :: t.args.drop (k + 1)) := by
        have : t.args.take k ++ t.args[k] :: t.args.drop (k + 1) = t.args := by simp
        rw [this]
        cases t; rfl
      have e2 : t.args.set k x = t.args.take k ++ x :: t.args.drop (k + 1) := by rw [List.set_eq_take_append_cons_drop, if_pos hk]
      rw [← e, e2]
      have := gr_arg (g := g) (v := t.v) (v' := 0) (fn := t.fn) (l := t.args.take k) (r := t.args.drop (k + 1)) h4 ih
      rw [← e1] at this
      exact this

theorem rep_size (s : T) : ∀ (p : List Int) (t u r : T), T.at p t = some u → T.rep p s t = some r → r.size ≤ t.size + s.size
  | [], t, u, r, _, h2 => by
    have e2 : s = r := Option.some.inj h2
    have := size_pos t
    rw [← e2]
    omega
  | i :: p, t, u, r, h1, h2 => by
    obtain ⟨k, hk, rfl, h3⟩ := at_cons h1
    rw [rep_cons hk] at h2
    cases hx : T.rep p s t.args[k] with
    | none => rw [hx] at h2; cases h2
    | some x =>
      rw [hx] at h2
      have e : T.mk 0 t.fn (t.args.set k x) = r := Option.some.inj h2
      have ih := rep_size s p _ u x h3 hx
      have e2 : t.args.set k x = t.args.take k ++ x :: t.args.drop (k + 1) := by rw [List.set_eq_take_append_cons_drop, if_pos hk]
      have e1 : (t.args.map T.size).sum = ((t.args.take k ++ t.args[k] :: t.args.drop (k + 1)).map T.size).sum := by
        have : t.args.take k ++ t.args[k] :: t.args.drop (k + 1) = t.args := by simp
        rw [this]
      rw [← e, T.size_eq, t.size_eq, e1]
      show 1 + ((t.args.set k x).map T.size).sum ≤ _
      rw [e2]
      simp only [List.map_append, List.map_cons, List.sum_append, List.sum_cons]
      omega

theorem at_size : ∀ (p : List Int) (t r : T), T.at p t = some r → r.size ≤ t.size
  | [], t, r, h => by
    have e : t = r := Option.some.inj h
    rw [e]
    exact Int.le_refl _
  | i :: p, t, r, h => by
    obtain ⟨k, hk, rfl, h1⟩ := at_cons h
    have := at_size p _ r h1
    have := arg_size (List.getElem_mem hk)
    omega

theorem fold_le {l : List Int} {B : Int} : ∀ {m : Int}, m ≤ B → (∀ x ∈ l, x ≤ B) → l.foldl max m ≤ B := by
  induction l with
  | nil => intro m h _; exact h
  | cons a r ih =>
    intro m h h2
    have := h2 a (by simp)
    exact ih (by omega) (fun x hx => h2 x (by simp [hx]))
theorem le_fold {l : List Int} : ∀ {m : Int}, m ≤ l.foldl max m ∧ ∀ x ∈ l, x ≤ l.foldl max m := by
  induction l with
  | nil => intro m; exact ⟨Int.le_refl _, fun x h => by cases h⟩
  | cons a r ih =>
    intro m
    obtain ⟨h1, h2⟩ := ih (m := max m a)
    refine ⟨?_, fun x hx => ?_⟩
    · show m ≤ r.foldl max (max m a); omega
    · show x ≤ r.foldl max (max m a)
      rcases List.mem_cons.1 hx with rfl | hx
      · omega
      · exact h2 x hx
theorem arg_depth {t a : T} (h : a ∈ t.args) : a.depth < t.depth := by
  rw [t.depth_eq]
  have := (le_fold (l := t.args.map T.depth) (m := 0)).2 a.depth (List.mem_map.2 ⟨a, h, rfl⟩)
  omega
theorem depth_size (t : T) : t.depth ≤ t.size := by
  induction t using T.ind with
  | _ t ih =>
    have h : (t.args.map T.depth).foldl max 0 ≤ t.size - 1 := by
      refine fold_le (by have := size_pos t; omega) (fun x hx => ?_)
      obtain ⟨a, ha, rfl⟩ := List.mem_map.1 hx
      have h1 := ih a ha
      have h2 : a.size < t.size := by
        rw [t.size_eq]
        obtain ⟨j, hj, rfl⟩ := List.getElem_of_mem ha
        have : t.args.take j ++ t.args[j] :: t.args.drop (j + 1) = t.args := by simp
        have e : (t.args.map T.size).sum = ((t.args.take j ++ t.args[j] :: t.args.drop (j + 1)).map T.size).sum := by rw [this]
        have hp : ∀ l : List T, 0 ≤ (l.map T.size).sum := fun l => sum_nonneg (fun x hx => by obtain ⟨b, _, rfl⟩ := List.mem_map.1 hx; have := size_pos b; omega)
        rw [e]
        simp only [List.map_append, List.map_cons, List.sum_append, List.sum_cons]
        have := hp (t.args.take j)
        have := hp (t.args.drop (j + 1))
        omega
      omega
    rw [t.depth_eq]
    omega

theorem right_iff {t : T} (hz : t.size ≤ 1048576) : t.rightW = 0 ↔ t.shape = true ∧ t.depth ≤ 60 ∧ t.size ≤ 4000 := by
  have hp := size_pos t
  have hd := depth_size t
  have e := depthW_small t (by omega)
  unfold T.rightW
  rw [e, wrap_small (by omega) (by omega)]
  cases t.shape
  · simp
  · by_cases h1 : 60 < t.depth
    · simp [h1]; omega
    · by_cases h2 : 4000 < t.size
      · simp [h1, h2]
      · simp [h1, h2]; omega

theorem at_right : ∀ (p : List Int) (t r : T), t.size ≤ 1048576 → t.rightW = 0 → T.at p t = some r → r.rightW = 0
  | [], t, r, _, h1, h => by
    have e : t = r := Option.some.inj h
    rw [← e]
    exact h1
  | i :: p, t, r, hz, h1, h => by
    obtain ⟨k, hk, rfl, h2⟩ := at_cons h
    have hm := List.getElem_mem hk
    have hs := arg_size hm
    refine at_right p _ r (by omega) ?_ h2
    rw [right_iff (by omega)]
    obtain ⟨a, b, c⟩ := (right_iff hz).1 h1
    have hd := arg_depth hm
    refine ⟨?_, by omega, by omega⟩
    rcases shape_cases a with ⟨_, _, _, h4⟩ | ⟨_, _, _, _, h5⟩
    · rw [h4] at hk; simp at hk
    · exact h5 _ hm

theorem vars_none {t : T} (h : (t.vs.foldl wth []).length = 0) : t.vs = [] := by
  have h1 := (wths_rise t.vs [] (by first | exact List.Pairwise.nil | trivial | simp [Rise])).2
  have h0 : t.vs.foldl wth [] = [] := List.length_eq_zero_iff.1 h
  rw [h0] at h1
  cases e : t.vs with
  | nil => rfl
  | cons a r => have := (h1 a).2 (.inr (by rw [e]; simp)); cases this

theorem ground_cmp {g : Sg} {t s : T} (hg : g.Ok) (h1 : t.rightW = 0) (h2 : s.rightW = 0) (h3 : t.vs = []) (h4 : s.vs = []) : ccmp g t s ≠ 2 := by
  unfold ccmp
  rw [if_pos ⟨hg, h1, h2⟩]
  rcases gr_total g t s (right_shape h1) (right_shape h2) h3 h4 with h | h | h
  · rw [kcmp_zero.2 h]; decide
  · rw [kcmp_gr.2 h]; decide
  · rw [kcmp_ls.2 h]; decide

end Go.Proofs.Ytcnodgjalkcgiaa
