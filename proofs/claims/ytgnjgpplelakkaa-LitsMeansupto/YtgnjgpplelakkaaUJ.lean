/-
  What is shifted there and back; what is not touched: plain mathematics.
-/
import Derived.Test.YtgnjgpplelakkaaUI
namespace Go.Proofs.Ytgnjgpplelakkaa
open Go.RowKit

theorem shape_var {t : T} (hs : t.shape = true) (h0 : t.fn.size = 0) : t = var t.v := by
  rw [T.shape_eq, if_pos h0] at hs
  simp only [Bool.and_eq_true, decide_eq_true_eq] at hs
  have h1 : t.args = [] := List.eq_nil_of_length_eq_zero hs.2
  have h2 := ba_empty.1 h0
  have h3 := t.eta
  rw [h1, h2] at h3
  exact h3


theorem vs_arg {t : T} {x : T} (hx : x ∈ t.args) {n : Int} (hn : n ∈ x.vs) : n ∈ t.vs := by
  rw [t.vs_eq]
  exact List.mem_append.2 (.inr (List.mem_flatten.2 ⟨_, List.mem_map.2 ⟨x, hx, rfl⟩, hn⟩))

theorem vs_var {t : T} (h0 : t.fn.size = 0) : t.v ∈ t.vs := by
  rw [t.vs_eq, if_pos h0]
  simp

theorem vs_range (t : T) : t.shape = true → ∀ n ∈ t.vs, 0 ≤ n ∧ n < 1000000 := by
  induction t using T.ind with
  | _ t ih =>
    intro hs n hn
    rw [T.shape_eq] at hs
    rw [t.vs_eq] at hn
    by_cases h0 : t.fn.size = 0
    · rw [if_pos h0] at hs hn
      simp only [Bool.and_eq_true, decide_eq_true_eq] at hs
      have h1 : t.args = [] := List.eq_nil_of_length_eq_zero hs.2
      rw [h1] at hn
      simp at hn
      subst hn
      exact hs.1
    · rw [if_neg h0] at hs hn
      simp only [Bool.and_eq_true, decide_eq_true_eq, List.all_eq_true] at hs
      obtain ⟨l, hl, hn⟩ := List.mem_flatten.1 (by simpa using hn : n ∈ (t.args.map T.vs).flatten)
      obtain ⟨x, hx, rfl⟩ := List.mem_map.1 hl
      exact ih x hx (hs.2 x hx) n hn

/-- What no variable of a term binds leaves it as it was. -/
theorem app_same (σ : Int → T) (t : T) : t.shape = true → (∀ n ∈ t.vs, σ n = var n) → t.app σ = t := by
  induction t using T.ind with
  | _ t ih =>
    intro hs hn
    have hs' := hs
    rw [T.app_eq]
    rw [T.shape_eq] at hs
    by_cases h0 : t.fn.size = 0
    · rw [if_pos h0, hn _ (vs_var h0)]
      exact (shape_var hs' h0).symm
    · rw [if_neg h0] at hs ⊢
      simp only [Bool.and_eq_true, decide_eq_true_eq, List.all_eq_true] at hs
      have h1 : t.args.map (T.app σ) = t.args := by
        conv => rhs; rw [← List.map_id t.args]
        exact List.map_congr_left fun a ha => ih a ha (hs.2 a ha) fun n hna => hn n (vs_arg ha hna)
      rw [h1, ← hs.1.1.1]
      exact t.eta.symm

theorem fine_iff {b n : Int} : fine b n = true ↔ -n ≤ b ∧ b < 1000000 - n := by
  unfold fine
  simp only [Bool.not_eq_true', Bool.or_eq_false_iff, decide_eq_false_iff_not]
  omega

end Go.Proofs.Ytgnjgpplelakkaa
