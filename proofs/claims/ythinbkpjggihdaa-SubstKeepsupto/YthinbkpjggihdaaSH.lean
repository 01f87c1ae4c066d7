/-
  subst.grown and subst.fits.
-/
import Derived.Test.YthinbkpjggihdaaSG
namespace Go.Proofs.Ythinbkpjggihdaa
open Go.RowKit

/-- How great a term is. -/
abbrev ext (t : T) : Value := .agg #[.int .i64 t.size, .int .i64 t.depth]

/-- A function that tells how great what stands for a variable is. -/
def OfAt (W0 : World) (g : Nat) (lb : Array Value) (σ : Int → T) : Prop :=
  ∀ (n : Int) (W : World), Below W0.heap.size W0 W → Calls Try.prog g (#[.int .i64 n] ++ lb) W fun e W' => e = .returned (ext (σ n)) ∧ Below W.heap.size W W'

theorem mx_nonneg (f : T → Int) (l : List T) (k : Nat) : 0 ≤ mx f l k := by
  unfold mx
  suffices H : ∀ (xs : List Int) (m : Int), 0 ≤ m → 0 ≤ xs.foldl max m from H _ 0 (Int.le_refl _)
  intro xs
  induction xs with
  | nil => intro m h; exact h
  | cons a r ih => intro m h; exact ih _ (by omega)

theorem size_pos (t : T) : 1 ≤ t.size := by
  have := size_parts t []
  rw [t.parts_eq] at this
  simp only [List.length_cons] at this
  omega

theorem mx_le_sum (f g : T → Int) (l : List T) (h : ∀ a ∈ l, f a ≤ g a ∧ 0 ≤ g a) : ∀ k, mx f l k ≤ upto g l k := by
  intro k
  induction k with
  | zero => rw [mx_zero, upto_zero]; exact Int.le_refl _
  | succ k ih =>
    by_cases hk : k < l.length
    · rw [mx_succ f l k hk, upto_succ g l k hk]
      have := h l[k] (List.getElem_mem hk)
      have h0 := mx_nonneg f l k
      omega
    · rw [mx_all f l (k + 1) (by omega), upto_all g l (k + 1) (by omega), ← mx_all f l k (by omega), ← upto_all g l k (by omega)]
      exact ih

theorem depth_le_size (t : T) : t.depth ≤ t.size := by
  induction t using T.ind with
  | _ t ih =>
    rw [T.depth_eq, T.size_eq]
    have := mx_le_sum T.depth T.size t.args (fun a ha => ⟨ih a ha, by have := size_pos a; omega⟩) t.args.length
    rw [mx_all _ _ _ (Nat.le_refl _), upto_all _ _ _ (Nat.le_refl _)] at this
    omega

theorem sum_nonneg (f : T → Int) : ∀ l : List T, (∀ a ∈ l, 0 ≤ f a) → 0 ≤ (l.map f).sum
  | [], _ => by simp
  | a :: r, h => by
    have h1 := h a (by simp)
    have h2 := sum_nonneg f r (fun b hb => h b (by simp [hb]))
    rw [List.map_cons, List.sum_cons]
    omega

theorem upto_le (f : T → Int) (l : List T) (h : ∀ a ∈ l, 0 ≤ f a) (k : Nat) : 0 ≤ upto f l k ∧ upto f l k ≤ (l.map f).sum := by
  induction k with
  | zero =>
    rw [upto_zero]
    exact ⟨Int.le_refl _, sum_nonneg f l h⟩
  | succ k ih =>
    by_cases hk : k < l.length
    · rw [upto_succ f l k hk]
      have h0 := h l[k] (List.getElem_mem hk)
      refine ⟨by omega, ?_⟩
      have e : (l.map f).sum = upto f l k + f l[k] + ((l.drop (k + 1)).map f).sum := by
        have h3 : l = l.take k ++ l[k] :: l.drop (k + 1) := by rw [List.getElem_cons_drop, List.take_append_drop]
        conv => lhs; rw [h3]
        unfold upto
        rw [List.map_append, List.sum_append, List.map_cons, List.sum_cons]
        omega
      have hp := sum_nonneg f (l.drop (k + 1)) (fun a ha => h a (List.mem_of_mem_drop ha))
      omega
    · rw [upto_all f l (k + 1) (by omega)]
      have := ih.1
      rw [upto_all f l k (by omega)] at this
      exact ⟨this, Int.le_refl _⟩

theorem app_size (σ : Int → T) (hσ : ∀ n, (σ n).size ≤ 4000) (t : T) : (t.app σ).size ≤ 4000 * t.size := by
  induction t using T.ind with
  | _ t ih =>
    rw [T.app_eq]
    have h1 := size_pos t
    by_cases h0 : t.fn.size = 0
    · rw [if_pos h0]
      have := hσ t.v
      omega
    · rw [if_neg h0, T.size_eq, t.size_eq]
      have h2 : ∀ l : List T, (∀ a ∈ l, (a.app σ).size ≤ 4000 * a.size) → ((l.map (T.app σ)).map T.size).sum ≤ 4000 * (l.map T.size).sum := by
        intro l
        induction l with
        | nil => intro _; simp
        | cons a r ihl =>
          intro h
          have e1 := h a (by simp)
          have e2 := ihl (fun b hb => h b (by simp [hb]))
          simp only [List.map_cons, List.sum_cons]
          omega
      have h3 := h2 t.args ih
      have h4 : (T.mk 0 t.fn (t.args.map (T.app σ))).args = t.args.map (T.app σ) := rfl
      rw [h4]
      omega

end Go.Proofs.Ythinbkpjggihdaa
