/-
  What is shifted there and back; what is not touched: plain mathematics.
-/
import Derived.Test.YthinbkpjggihdaaUI
import Derived.Test.YthinbkpjggihdaaTF
namespace Go.Proofs.Ythinbkpjggihdaa
open Go.RowKit

theorem vs_arg {t : T} {x : T} (hx : x ∈ t.args) {n : Int} (hn : n ∈ x.vs) : n ∈ t.vs := by
  rw [t.vs_eq]
  exact List.mem_append.2 (.inr (List.mem_flatten.2 ⟨_, List.mem_map.2 ⟨x, hx, rfl⟩, hn⟩))

theorem vs_var {t : T} (h0 : t.fn.size = 0) : t.v ∈ t.vs := by
  rw [t.vs_eq, if_pos h0]
  simp

theorem vs_range (t : T) : t.shape = true → ∀ n ∈ t.vs, 0 ≤ n ∧ n < 1000000 := by
  induction t using T.ind with
  | _ t ih =>
    intro hs n hn
    rw [T.shape_eq] at hs
    rw [t.vs_eq] at hn
    by_cases h0 : t.fn.size = 0
    · rw [if_pos h0] at hs hn
      simp only [Bool.and_eq_true, decide_eq_true_eq] at hs
      have h1 : t.args = [] := List.eq_nil_of_length_eq_zero hs.2
      rw [h1] at hn
      simp at hn
      subst hn
      exact hs.1
    · rw [if_neg h0] at hs hn
      simp only [Bool.and_eq_true, decide_eq_true_eq, List.all_eq_true] at hs
      obtain ⟨l, hl, hn⟩ := List.mem_flatten.1 (by simpa using hn : n ∈ (t.args.map T.vs).flatten)
      obtain ⟨x, hx, rfl⟩ := List.mem_map.1 hl
      exact ih x hx (hs.2 x hx) n hn

/-- What no variable of a term binds leaves it as it was. -/
theorem app_same (σ : Int → T) (t : T) : t.shape = true → (∀ n ∈ t.vs, σ n = var n) → t.app σ = t := by
  induction t using T.ind with
  | _ t ih =>
    intro hs hn
    have hs' := hs
    rw [T.app_eq]
    rw [T.shape_eq] at hs
    by_cases h0 : t.fn.size = 0
    · rw [if_pos h0, hn _ (vs_var h0)]
      exact (shape_var hs' h0).symm
    · rw [if_neg h0] at hs ⊢
      simp only [Bool.and_eq_true, decide_eq_true_eq, List.all_eq_true] at hs
      have h1 : t.args.map (T.app σ) = t.args := by
        conv => rhs; rw [← List.map_id t.args]
        exact List.map_congr_left fun a ha => ih a ha (hs.2 a ha) fun n hna => hn n (vs_arg ha hna)
      rw [h1, ← hs.1.1.1]
      exact t.eta.symm

/-- A term with other variables is as great. -/
theorem app_ren (ρ : Int → Int) (t : T) : t.shape = true → (∀ n ∈ t.vs, 0 ≤ ρ n ∧ ρ n < 1000000) → (t.app fun n => var (ρ n)).shape = true ∧ (t.app fun n => var (ρ n)).size = t.size ∧ (t.app fun n => var (ρ n)).depth = t.depth ∧ (t.app fun n => var (ρ n)).vs = t.vs.map ρ := by
  induction t using T.ind with
  | _ t ih =>
    intro hs hn
    have hs' := hs
    rw [T.app_eq]
    rw [T.shape_eq] at hs
    by_cases h0 : t.fn.size = 0
    · rw [if_pos h0]
      obtain ⟨n0, n1⟩ := hn _ (vs_var h0)
      have ht := shape_var hs' h0
      have hv : t.vs = [t.v] := by rw [ht, T.vs_eq, if_pos (var_fn _)]; rfl
      have hv2 : (var (ρ t.v)).vs = [ρ t.v] := by rw [T.vs_eq, if_pos (var_fn _)]; rfl
      refine ⟨var_shape _ n0 n1, ?_, ?_, ?_⟩
      · rw [(var_size _).1, ht, (var_size _).1]
      · rw [(var_size _).2, ht, (var_size _).2]
      · rw [hv2, hv]; rfl
    · rw [if_neg h0] at hs ⊢
      simp only [Bool.and_eq_true, decide_eq_true_eq, List.all_eq_true] at hs
      have key := fun a (ha : a ∈ t.args) => ih a ha (hs.2 a ha) fun n hna => hn n (vs_arg ha hna)
      have e1 : (t.args.map (T.app fun n => var (ρ n))).map T.size = t.args.map T.size := by
        rw [List.map_map]; exact List.map_congr_left fun a ha => (key a ha).2.1
      have e2 : (t.args.map (T.app fun n => var (ρ n))).map T.depth = t.args.map T.depth := by
        rw [List.map_map]; exact List.map_congr_left fun a ha => (key a ha).2.2.1
      have e3 : (t.args.map (T.app fun n => var (ρ n))).map T.vs = t.args.map (fun a => a.vs.map ρ) := by
        rw [List.map_map]; exact List.map_congr_left fun a ha => (key a ha).2.2.2
      have hfn : (T.mk 0 t.fn (t.args.map (T.app fun n => var (ρ n)))).fn = t.fn := rfl
      have har : (T.mk 0 t.fn (t.args.map (T.app fun n => var (ρ n)))).args = t.args.map (T.app fun n => var (ρ n)) := rfl
      refine ⟨?_, ?_, ?_, ?_⟩
      · rw [T.shape_eq, if_neg (by rw [hfn]; exact h0), hfn, har]
        simp only [Bool.and_eq_true, decide_eq_true_eq, List.all_eq_true]
        refine ⟨⟨⟨rfl, hs.1.1.2⟩, by simpa using hs.1.2⟩, fun x hx => ?_⟩
        obtain ⟨y, hy, rfl⟩ := List.mem_map.1 hx
        exact (key y hy).1
      · rw [T.size_eq, har, e1, ← T.size_eq]
      · rw [T.depth_eq, har, e2, ← T.depth_eq]
      · rw [T.vs_eq, hfn, har, e3, if_neg h0, t.vs_eq, if_neg h0]
        simp [List.map_flatten, List.map_map, Function.comp_def]

/-- The other way. -/
def neg64 (x : Int) : Int := wrap64 (-x)

theorem fine_iff {b n : Int} : fine b n = true ↔ -n ≤ b ∧ b < 1000000 - n := by
  unfold fine
  simp only [Bool.not_eq_true', Bool.or_eq_false_iff, decide_eq_false_iff_not]
  omega

theorem shift_right {t : T} {b : Int} (hs : t.shape = true) (h0 : t.rightW = 0) (hz : t.size ≤ 4000) (hf : ∀ n ∈ t.vs, fine b n = true) :
    (t.app (shf b)).shape = true ∧ (t.app (shf b)).rightW = 0 ∧ (t.app (shf b)).size = t.size ∧ (t.app (shf b)).vs = t.vs.map (fun n => wrap64 (n + b)) := by
  have hr := vs_range t hs
  have h := app_ren (fun n => wrap64 (n + b)) t hs (fun n hn => by
    obtain ⟨h1, h2⟩ := fine_iff.1 (hf n hn)
    obtain ⟨h3, h4⟩ := hr n hn
    simp only [wrap64]
    omega)
  have e : (fun n => var (wrap64 (n + b))) = shf b := rfl
  rw [e] at h
  obtain ⟨g1, g2, g3, g4⟩ := h
  refine ⟨g1, ?_, g2, g4⟩
  rw [right_fits g1 (by rw [g2]; omega)]
  rw [right_fits hs (by omega)] at h0
  unfold fitsW at h0 ⊢
  rw [g2, g3]
  exact h0

theorem shift_back {t : T} {b : Int} (hs : t.shape = true) (hf : ∀ n ∈ t.vs, fine b n = true) (hv : (t.app (shf b)).vs = t.vs.map (fun n => wrap64 (n + b))) :
    (∀ n ∈ (t.app (shf b)).vs, fine (neg64 b) n = true) ∧ (t.app (shf b)).app (shf (neg64 b)) = t := by
  have hr := vs_range t hs
  have key : ∀ n ∈ t.vs, wrap64 (n + b) = n + b ∧ neg64 b = -b ∧ 0 ≤ n ∧ n < 1000000 := fun n hn => by
    obtain ⟨h1, h2⟩ := fine_iff.1 (hf n hn)
    obtain ⟨h3, h4⟩ := hr n hn
    simp only [neg64, wrap64]
    omega
  refine ⟨fun n hn => ?_, ?_⟩
  · rw [hv] at hn
    obtain ⟨m, hm, rfl⟩ := List.mem_map.1 hn
    obtain ⟨k1, k2, k3, k4⟩ := key m hm
    refine fine_iff.2 ?_
    simp only [k1, k2]
    omega
  · rw [app_app]
    refine app_same _ t hs fun n hn => ?_
    obtain ⟨k1, k2, k3, k4⟩ := key n hn
    show (var (wrap64 (n + b))).app (shf (neg64 b)) = var n
    rw [var_app]
    show var (wrap64 (wrap64 (n + b) + neg64 b)) = var n
    congr 1
    rw [k1, k2]
    simp only [wrap64]
    omega

end Go.Proofs.Ythinbkpjggihdaa
